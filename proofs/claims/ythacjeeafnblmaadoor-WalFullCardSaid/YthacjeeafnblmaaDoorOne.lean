/- Disks of one file, whose plans fail and crash nothing. Numbers and types by name. -/
import Derived.Test.YthacjeeafnblmaaDoorRes
/- Restart. Numbers and types by name. -/
namespace Go.Proofs.YthacjeeafnblmaaDoor
open Go.RowKit Go.Maps Go.Sort Go.WideMaps

/-- What one round of Restart's loop leaves, told of the model. -/
theorem round_rep {w w' : World} {base b : Nat} {S : DM} {s : DS} (h : Rep w base b S s) (f : FM) (hf : S.files.find? (named f.name) = some f) (q : Int) (ao : Option Addr) (c : Nat)
    (hown : w.ownsRow base 5 1 (.slice ao f.bytes.length c) f.bytes.length (bv f.bytes)) (hrow : (Value.slice ao f.bytes.length c).ownBlock = f.row) (hsy : f.sy ≤ f.bytes.length)
    (t : Turn [b, f.blk] w w') (hd : DiskC w' b { s with sz := total (mapF f.name (survive q) S.files) }) (hfc : FileC w' f.blk (.slice ao (survive q f).bytes.length c) (survive q f).bytes.length) (hbase : base ≤ w.heap.size) :
    Rep w' base b { S with files := mapF f.name (survive q) S.files } { s with sz := total (mapF f.name (survive q) S.files) } := by
  obtain ⟨hmem, _⟩ := find_mem hf
  obtain ⟨hbf, hmf, hndf⟩ := h.apart2 f hmem
  have hblk : f.blk ∈ f.foot := by simp [FM.foot]
  have hl : (survive q f).bytes.length = f.sy + min q.toNat (f.bytes.length - f.sy) := by simp [survive]; omega
  have hrb : ∀ g, f.row = some g → g ≠ f.blk ∧ g ≠ b := by
    intro g hg
    refine ⟨?_, ?_⟩
    · rintro rfl; simp [FM.foot, hg] at hndf
    · rintro rfl; exact hbf (by simp [FM.foot, hg])
  refine h.file t f hf (survive q) (fun _ => rfl) (fun _ => rfl) (by intro x hx; simp at hx; rcases hx with rfl | rfl; exact .inl rfl; exact .inr hblk) ?_ (.inl rfl) _ hd hbase
  have hle : (survive q f).bytes.length ≤ f.bytes.length := by rw [hl]; omega
  have e1 : bv (survive q f).bytes = (bv f.bytes).take (survive q f).bytes.length := by
    rw [hl]; simp [survive, bv, List.map_take]
  have e2 : ((survive q f).sy : Int) = (survive q f).bytes.length := by rw [hl]; rfl
  refine ⟨ao, c, by rw [← e2] at hfc; exact hfc, ?_, ?_, ?_⟩
  · rw [e1]
    exact owns_turn (owns_take hown _ hle) t (fun g hg => by
      have h0 : (Value.slice ao f.bytes.length c).ownBlock = some g := by cases ao with
        | none => cases hg
        | some a => exact hg
      have := hrb g (hrow.symm.trans h0)
      simp [this])
  · have : (Value.slice ao (survive q f).bytes.length c).ownBlock = (Value.slice ao f.bytes.length c).ownBlock := by cases ao <;> rfl
    rw [this]; exact hrow
  · rw [hl]; exact Nat.le_refl _

theorem round_close {w1 wr w2 : World} {base b k : Nat} {S : DM} {s : DS} {ss : List (List UInt8)} {f : FM} {nm : List UInt8} {aof : Option Addr} {cf : Nat} {q : Int}
    (hRk : Rep wr base b { S with files := resF S.keep ss S.files k } { s with sz := (total (resF S.keep ss S.files k) : Int) }) (tk : Turn (foot b S) w1 wr) (hf : (resF S.keep ss S.files k).find? (named nm) = some f) (hfn : f.name = nm)
    (hown : wr.ownsRow base 5 1 (.slice aof f.bytes.length cf) f.bytes.length (bv f.bytes)) (hfrow : (Value.slice aof f.bytes.length cf).ownBlock = f.row) (hsy : f.sy ≤ f.bytes.length) (hnm : ss.getD k [] = nm) (hq : S.keep.getD k 0 = q)
    (hd2 : DiskC w2 b { s with sz := (total (resF S.keep ss S.files k) : Int) - (f.bytes.length - ((f.sy + min q.toNat (f.bytes.length - f.sy) : Nat) : Int)) })
    (hf2 : FileC w2 f.blk (.slice aof (f.sy + min q.toNat (f.bytes.length - f.sy)) cf) (min (f.sy : Int) ((f.sy + min q.toNat (f.bytes.length - f.sy) : Nat) : Int))) (t2 : Turn [b, f.blk] wr w2) (hbase : base ≤ wr.heap.size) :
    Rep (w2.setCell ⟨f.blk, 1, none⟩ (.int .i64 ((f.sy + min q.toNat (f.bytes.length - f.sy) : Nat) : Int))) base b { S with files := resF S.keep ss S.files (k + 1) } { s with sz := (total (resF S.keep ss S.files (k + 1)) : Int) } ∧
      Turn (foot b S) w1 (w2.setCell ⟨f.blk, 1, none⟩ (.int .i64 ((f.sy + min q.toNat (f.bytes.length - f.sy) : Nat) : Int))) := by
  subst hnm
  obtain ⟨hfm, _⟩ := find_mem hf
  obtain ⟨hbf, hmf, hndf⟩ := hRk.apart2 f hfm
  have hblk : f.blk ∈ f.foot := by simp [FM.foot]
  have hne : b ≠ f.blk := fun e => hbf (e ▸ hblk)
  have hl : (survive q f).bytes.length = f.sy + min q.toNat (f.bytes.length - f.sy) := by simp [survive]; omega
  have et : resF S.keep ss S.files (k + 1) = mapF f.name (survive q) (resF S.keep ss S.files k) := by rw [resF, hfn, hq]
  have hf' : (resF S.keep ss S.files k).find? (named f.name) = some f := by rw [hfn]; exact hf
  have htot := total_mapF f.name (survive q) (resF S.keep ss S.files k) f hf' hRk.names
  rw [hl] at htot
  have t3 : Turn [b, f.blk] wr (w2.setCell ⟨f.blk, 1, none⟩ (.int .i64 ((f.sy + min q.toNat (f.bytes.length - f.sy) : Nat) : Int))) := t2.set (.inl (by simp)) 1 _
  have hfoot : foot b { S with files := resF S.keep ss S.files k } = foot b S := by simp only [foot, resF_foot]
  have hsub : f.blk ∈ foot b S := by
    rw [← hfoot]
    simp only [foot, List.mem_cons, List.mem_append, List.mem_flatMap]
    exact .inr (.inr ⟨f, hfm, hblk⟩)
  constructor
  · rw [et]
    refine round_rep hRk f hf' q aof cf hown hfrow hsy t3 ?_ ?_ hbase
    · have e : ((total (resF S.keep ss S.files k) : Int) - (f.bytes.length - ((f.sy + min q.toNat (f.bytes.length - f.sy) : Nat) : Int))) = (total (mapF f.name (survive q) (resF S.keep ss S.files k)) : Int) := by omega
      rw [e] at hd2
      exact hd2.setNe hne 1 _
    · have := hf2.set1 ((f.sy + min q.toNat (f.bytes.length - f.sy) : Nat) : Int)
      rw [hl]; exact this
  · exact tk.trans (t3.mono (by intro x hx; simp at hx; rcases hx with rfl | rfl; simp [foot]; exact hsub))

theorem sorted_leI (zs : List Int) : (zs.mergeSort leI).Pairwise (· ≤ ·) := by
  have := List.pairwise_mergeSort (le := leI) (fun a b c h1 h2 => by simp only [leI, decide_eq_true_eq] at *; omega) (fun a b => by simp only [leI, Bool.or_eq_true, decide_eq_true_eq]; omega) zs
  exact this.imp fun h => by simpa [leI] using h

/-- A disk whose plan begins anew. -/
theorem Rep.begun {w w' : World} {base b : Nat} {S : DM} {s : DS} (h : Rep w base b S s) (t : Turn [b] w w') (cap cr : Int) (dn : Bool) (zs ks : List Int) (ao ao' : Option Addr) (c c' : Nat)
    (hd : DiskC w' b { s with cap := cap, fl := .slice ao zs.length c, cr := cr, dn := dn, kp := .slice ao' ks.length c', ca := 0, dw := false })
    (h1 : w'.ownsRow w.heap.size 3 1 (.slice ao zs.length c) zs.length (iv (zs.mergeSort leI))) (h2 : w'.ownsRow w.heap.size 3 1 (.slice ao' ks.length c') ks.length (iv ks)) (hbase : base ≤ w.heap.size) :
    Rep w' base b { S with cap := cap, cr := cr, dn := dn, ca := 0, dw := false, fail := zs.mergeSort leI, keep := ks, fr := (Value.slice ao zs.length c).ownBlock, kr := (Value.slice ao' ks.length c').ownBlock }
      { s with cap := cap, fl := .slice ao zs.length c, cr := cr, dn := dn, kp := .slice ao' ks.length c', ca := 0, dw := false } := by
  have hlt := h.lt
  have el : (zs.mergeSort leI).length = zs.length := by simp
  exact {
    disk := hd
    cap := rfl
    cr := rfl
    ca := rfl
    dn := rfl
    dw := rfl
    fs := h.fs
    lists := ⟨ao, c, ao', c', by simp, rfl, by rw [el]; exact owns_base h1 hbase, owns_base h2 hbase, by simp, rfl,
      (fun g hg hm => by have := hlt g hm; have := (h1.lt g hg).1; omega), (fun g hg hm => by have := hlt g hm; have := (h2.lt g hg).1; omega)⟩
    mapN := h.mapN
    mapS := fun m hm => (h.mapS m hm).keep t (by simp only [List.mem_singleton]; rintro rfl; exact h.apart1 _ hm rfl)
    files := fun f hf => (h.files f hf).keep t (fun k hk => by simp only [List.mem_singleton]; rintro rfl; exact (h.apart2 f hf).1 hk)
    apart1 := h.apart1
    apart2 := h.apart2
    apart3 := h.apart3
    low := h.low
    names := h.names
    sorted := sorted_leI zs }

theorem more_zero (sy len : Nat) (h2 : sy ≤ len) (h3 : len < 1000000000) : wrap64 ((sy : Int)) = ((sy + min (0 : Int).toNat (len - sy) : Nat) : Int) := by
  rw [IntWalk.wrap64_in _ (by omega)]
  simp

end Go.Proofs.YthacjeeafnblmaaDoor

namespace Go.Proofs.YthacjeeafnblmaaDoor
open Go.RowKit Go.Maps Go.Sort Go.WideMaps

/-- No crash, no failure; few calls as yet. -/
structure CalmD (S : DM) (cp cl : Int) (kl : List Int) : Prop where
  cap : S.cap = cp
  cr : S.cr = 0
  ca : S.ca = cl
  ca0 : 0 ≤ cl
  ca1 : cl < 1000
  dw : S.dw = false
  fail : S.fail = []
  keep : S.keep = kl

theorem CalmD.runs {S : DM} {cap ca : Int} {keep : List Int} (h : CalmD S cap ca keep) : Runs S :=
  ⟨h.dw, by rw [h.ca, h.cr]; have := h.ca0; omega, by simp [h.fail], by rw [h.ca]; exact h.ca0, by rw [h.ca]; have := h.ca1; omega, by simp [h.fail]⟩

/-- A disk of no file. -/
def Zero (w : World) (base b : Nat) (cap ca : Int) (keep : List Int) : Prop := base ≤ w.heap.size ∧ ∃ S s, Rep w base b S s ∧ s.sz = 0 ∧ S.files = [] ∧ CalmD S cap ca keep
/-- A disk of one file. -/
def One (w : World) (base b : Nat) (nm l : List UInt8) (sy : Nat) (cap ca : Int) (keep : List Int) : Prop :=
  base ≤ w.heap.size ∧ ∃ S s f, Rep w base b S s ∧ s.sz = l.length ∧ S.files = [f] ∧ f.name = nm ∧ f.bytes = l ∧ f.sy = sy ∧ CalmD S cap ca keep

theorem Zero.new {w w' : World} {base b : Nat} {cap ca : Int} {keep : List Int} (h : Zero w base b cap ca keep) (t : Turn [] w w') : Zero w' base b cap ca keep := by
  obtain ⟨h0, S, s, hR, h2⟩ := h
  exact ⟨Nat.le_trans h0 t.size, S, s, hR.new t, h2⟩
theorem One.new {w w' : World} {base b : Nat} {nm l : List UInt8} {sy : Nat} {cap ca : Int} {keep : List Int} (h : One w base b nm l sy cap ca keep) (t : Turn [] w w') : One w' base b nm l sy cap ca keep := by
  obtain ⟨h0, S, s, f, hR, h2⟩ := h
  exact ⟨Nat.le_trans h0 t.size, S, s, f, hR.new t, h2⟩

theorem below_turn {w w' : World} {base b : Nat} {S : DM} {s : DS} (h : Rep w base b S s) (hb : base ≤ w.heap.size) (t : Turn (foot b S) w w') : Below base w w' := t.below hb h.low
theorem new_zero (cap : Int) (kp : Value) (ks : List Int) (w : World) (hk : Reads w kp (iv ks)) (hz2 : ks.length < 1000000) :
    Calls Tryd.prog 10 #[.agg #[.int .i64 cap, .slice none 0 0, .int .i64 0, .bool false, kp]] w fun e w' => ∃ b, e = .returned (theDisk b) ∧ Zero w' w.heap.size b cap 0 ks ∧ w.grownBy w' none := by
  refine (new_any cap 0 false (.slice none 0 0) kp [] ks w (Reads.nil w) hk (by simp) (by omega)).mono ?_
  rintro e w' ⟨b, ao, c, ao', c', rfl, hb, hd, h1, h2, hg⟩
  refine ⟨b, rfl, ⟨hg.size, { cap := cap, cr := 0, ca := 0, dn := false, dw := false, fail := [], keep := ks, files := [], mp := none, fr := (Value.slice ao 0 c).ownBlock, kr := (Value.slice ao' ks.length c').ownBlock }, { cap := cap, fl := .slice ao 0 c, cr := 0, dn := false, kp := .slice ao' ks.length c', fs := .map none, sz := 0, ca := 0, dw := false }, ?_, rfl, rfl, ⟨rfl, rfl, rfl, by omega, by omega, rfl, rfl, rfl⟩⟩, hg⟩
  exact {
    disk := hd
    cap := rfl
    cr := rfl
    ca := rfl
    dn := rfl
    dw := rfl
    fs := rfl
    lists := ⟨ao, c, ao', c', rfl, rfl, by simpa [iv] using owns_base h1 (by omega), owns_base h2 (by omega), rfl, rfl,
      (fun g hg hm => by have h3 := (h1.lt g hg).1; simp [foot] at hm; omega), (fun g hg hm => by have h3 := (h2.lt g hg).1; simp [foot] at hm; omega)⟩
    mapN := fun _ => rfl
    mapS := fun m hm => by cases hm
    files := fun f hf => by cases hf
    apart1 := fun m hm => by cases hm
    apart2 := fun f hf => by cases hf
    apart3 := List.Pairwise.nil
    low := fun k hk => by simp [foot] at hk; omega
    names := List.nodup_nil
    sorted := List.Pairwise.nil }

theorem create_one (base b : Nat) (cap ca : Int) (keep : List Int) (name : ByteArray) (w : World) (h : Zero w base b cap ca keep) (hca : ca < 999) (hne : name.toList.isEmpty = false) (hl : name.size ≤ maxLen) :
    Calls Tryd.prog 24 #[theDisk b, .string name] w fun e w' => e = .returned (.int .i64 0) ∧ One w' base b name.data.toList [] 0 cap (ca + 1) keep ∧ Below base w w' := by
  obtain ⟨h0, S, s, hR, hs, hf, hc⟩ := h
  refine (create_ok base b S s name w hR hc.runs hne (by simp [hf]) hl (by simp [hf, maxLen]) h0).mono ?_
  rintro e w' ⟨k, rfl, rfl, f, m, s', h1, h2, h3, h4, h5, h6, h7, h8⟩
  have hb := below_turn hR h0 (h8.mono (by intro x hx; simp only [foot, List.mem_cons, List.mem_append] at hx ⊢; exact hx.imp id .inl))
  refine ⟨rfl, ⟨Nat.le_trans h0 h8.size, _, s', f, h6, by rw [h7, hs]; rfl, by simp [hf], h1, h2, h3, ⟨hc.cap, hc.cr, by show S.ca + 1 = _; rw [hc.ca], by have := hc.ca0; omega, by omega, hc.dw, hc.fail, hc.keep⟩⟩, hb⟩

theorem append_one (base b : Nat) (nm l : List UInt8) (sy : Nat) (cap ca : Int) (keep : List Int) (name : ByteArray) (vb : Value) (l2 : List UInt8) (w : World) (h : One w base b nm l sy cap ca keep) (hca : ca < 999) (hnm : name.data.toList = nm) (hl : name.size ≤ maxLen) (hv : Reads w vb (bv l2)) (hvb : bv l2 ≠ [] → ∀ a n c, vb = .slice (some a) n c → a.block ≠ b)
    (hs1 : l.length + l2.length < 1000000000) (hcap : (l.length : Int) + l2.length ≤ cap) :
    Calls Tryd.prog 30 #[theDisk b, .string name, vb] w fun e w' => e = .returned (.int .i64 0) ∧ One w' base b nm (l ++ l2) sy cap (ca + 1) keep ∧ Below base w w' := by
  obtain ⟨h0, S, s, f, hR, hs, hf, hn, hb, hsy, hc⟩ := h
  have ht : total S.files = l.length := by simp [total, hf, hb]
  have hfind : S.files.find? (named name.data.toList) = some f := by simp [hf, named, hn, hnm]
  refine (append_ok base b S s name vb l2 f w hR hc.runs hfind hl hv hvb (by rw [hs, ht]) (by omega) (by rw [ht, hc.cap]; exact hcap) h0 (by rw [ht, hb]; exact Nat.le_refl _)).mono ?_
  rintro e w' ⟨k, rfl, rfl, row, s', h1, h2, h3⟩
  refine ⟨rfl, ⟨Nat.le_trans h0 h3.size, _, s', addTo l2 row f, h1, by rw [h2, hs]; simp, by simp [mapF, hf, named, hn, hnm], hn, by simp [addTo, hb], hsy, ⟨hc.cap, hc.cr, by show S.ca + 1 = _; rw [hc.ca], by have := hc.ca0; omega, by omega, hc.dw, hc.fail, hc.keep⟩⟩, below_turn hR h0 h3⟩

theorem sync_one (base b : Nat) (nm l : List UInt8) (sy : Nat) (cap ca : Int) (keep : List Int) (name : ByteArray) (w : World) (h : One w base b nm l sy cap ca keep) (hca : ca < 999) (hnm : name.data.toList = nm) (hl : name.size ≤ maxLen) :
    Calls Tryd.prog 27 #[theDisk b, .string name] w fun e w' => e = .returned (.int .i64 0) ∧ One w' base b nm l l.length cap (ca + 1) keep ∧ Below base w w' := by
  obtain ⟨h0, S, s, f, hR, hs, hf, hn, hb, hsy, hc⟩ := h
  have hfind : S.files.find? (named name.data.toList) = some f := by simp [hf, named, hn, hnm]
  refine (sync_ok base b S s name f w hR hc.runs hfind hl h0).mono ?_
  rintro e w' ⟨k, rfl, rfl, s', h1, h2, h3⟩
  refine ⟨rfl, ⟨Nat.le_trans h0 h3.size, _, s', synced f, h1, by rw [h2, hs], by simp [mapF, hf, named, hn, hnm], hn, hb, by simp [synced, hb], ⟨hc.cap, hc.cr, by show S.ca + 1 = _; rw [hc.ca], by have := hc.ca0; omega, by omega, hc.dw, hc.fail, hc.keep⟩⟩, below_turn hR h0 h3⟩

theorem read_one (base b : Nat) (nm l : List UInt8) (sy : Nat) (cap ca : Int) (keep : List Int) (name : ByteArray) (w : World) (h : One w base b nm l sy cap ca keep) (hnm : name.data.toList = nm) (hl : name.size ≤ maxLen) (hlen : l.length < 1000000000) :
    Calls Tryd.prog 23 #[theDisk b, .string name] w fun e w' => ∃ ao c, e = .returned (.tuple #[.slice ao l.length c, .int .i64 0]) ∧ w'.ownsRow w.heap.size 5 1 (.slice ao l.length c) l.length (bv l) ∧ w.grownBy w' none := by
  obtain ⟨h0, S, s, f, hR, hs, hf, hn, hb, hsy, hc⟩ := h
  have hfind : S.files.find? (named name.data.toList) = some f := by simp [hf, named, hn, hnm]
  have := read_ok base b S s name f w hR hc.dw hfind hl (by rw [hb]; exact hlen)
  rw [hb] at this
  exact this

end Go.Proofs.YthacjeeafnblmaaDoor
