/- Disks of one file, whose plans fail and crash nothing. Numbers and types by name. -/
import Derived.Test.YtmpjjnjggiipjaaRst
namespace Go.Proofs.Ytmpjjnjggiipjaa
open Go.RowKit Go.Maps Go.Sort Go.WideMaps

/-- No crash, no failure; few calls as yet. -/
structure CalmD (S : DM) (cp cl : Int) (kl : List Int) : Prop where
  cap : S.cap = cp
  cr : S.cr = 0
  ca : S.ca = cl
  ca0 : 0 ≤ cl
  ca1 : cl < 1000
  dw : S.dw = false
  fail : S.fail = []
  keep : S.keep = kl

theorem CalmD.runs {S : DM} {cap ca : Int} {keep : List Int} (h : CalmD S cap ca keep) : Runs S :=
  ⟨h.dw, by rw [h.ca, h.cr]; have := h.ca0; omega, by simp [h.fail], by rw [h.ca]; exact h.ca0, by rw [h.ca]; have := h.ca1; omega, by simp [h.fail]⟩

/-- A disk of no file. -/
def Zero (w : World) (base b : Nat) (cap ca : Int) (keep : List Int) : Prop := base ≤ w.heap.size ∧ ∃ S s, Rep w base b S s ∧ s.sz = 0 ∧ S.files = [] ∧ CalmD S cap ca keep
/-- A disk of one file. -/
def One (w : World) (base b : Nat) (nm l : List UInt8) (sy : Nat) (cap ca : Int) (keep : List Int) : Prop :=
  base ≤ w.heap.size ∧ ∃ S s f, Rep w base b S s ∧ s.sz = l.length ∧ S.files = [f] ∧ f.name = nm ∧ f.bytes = l ∧ f.sy = sy ∧ CalmD S cap ca keep

theorem Zero.new {w w' : World} {base b : Nat} {cap ca : Int} {keep : List Int} (h : Zero w base b cap ca keep) (t : Turn [] w w') : Zero w' base b cap ca keep := by
  obtain ⟨h0, S, s, hR, h2⟩ := h
  exact ⟨Nat.le_trans h0 t.size, S, s, hR.new t, h2⟩
theorem One.new {w w' : World} {base b : Nat} {nm l : List UInt8} {sy : Nat} {cap ca : Int} {keep : List Int} (h : One w base b nm l sy cap ca keep) (t : Turn [] w w') : One w' base b nm l sy cap ca keep := by
  obtain ⟨h0, S, s, f, hR, h2⟩ := h
  exact ⟨Nat.le_trans h0 t.size, S, s, f, hR.new t, h2⟩

theorem below_turn {w w' : World} {base b : Nat} {S : DM} {s : DS} (h : Rep w base b S s) (hb : base ≤ w.heap.size) (t : Turn (foot b S) w w') : Below base w w' := t.below hb h.low
theorem new_zero (cap : Int) (kp : Value) (ks : List Int) (w : World) (hk : Reads w kp (iv ks)) (hz2 : ks.length < 1000000) :
    Calls Try.prog 6 #[.agg #[.int .i64 cap, .slice none 0 0, .int .i64 0, .bool false, kp]] w fun e w' => ∃ b, e = .returned (theDisk b) ∧ Zero w' w.heap.size b cap 0 ks ∧ w.grownBy w' none := by
  refine (new_any cap 0 false (.slice none 0 0) kp [] ks w (Reads.nil w) hk (by simp) (by omega)).mono ?_
  rintro e w' ⟨b, ao, c, ao', c', rfl, hb, hd, h1, h2, hg⟩
  refine ⟨b, rfl, ⟨hg.size, { cap := cap, cr := 0, ca := 0, dn := false, dw := false, fail := [], keep := ks, files := [], mp := none, fr := (Value.slice ao 0 c).ownBlock, kr := (Value.slice ao' ks.length c').ownBlock }, { cap := cap, fl := .slice ao 0 c, cr := 0, dn := false, kp := .slice ao' ks.length c', fs := .map none, sz := 0, ca := 0, dw := false }, ?_, rfl, rfl, ⟨rfl, rfl, rfl, by omega, by omega, rfl, rfl, rfl⟩⟩, hg⟩
  exact {
    disk := hd
    cap := rfl
    cr := rfl
    ca := rfl
    dn := rfl
    dw := rfl
    fs := rfl
    lists := ⟨ao, c, ao', c', rfl, rfl, by simpa [iv] using owns_base h1 (by omega), owns_base h2 (by omega), rfl, rfl,
      (fun g hg hm => by have h3 := (h1.lt g hg).1; simp [foot] at hm; omega), (fun g hg hm => by have h3 := (h2.lt g hg).1; simp [foot] at hm; omega)⟩
    mapN := fun _ => rfl
    mapS := fun m hm => by cases hm
    files := fun f hf => by cases hf
    apart1 := fun m hm => by cases hm
    apart2 := fun f hf => by cases hf
    apart3 := List.Pairwise.nil
    low := fun k hk => by simp [foot] at hk; omega
    names := List.nodup_nil
    sorted := List.Pairwise.nil }

theorem create_one (base b : Nat) (cap ca : Int) (keep : List Int) (name : ByteArray) (w : World) (h : Zero w base b cap ca keep) (hca : ca < 999) (hne : name.toList.isEmpty = false) (hl : name.size ≤ maxLen) :
    Calls Try.prog 12 #[theDisk b, .string name] w fun e w' => e = .returned (.int .i64 0) ∧ One w' base b name.data.toList [] 0 cap (ca + 1) keep ∧ Below base w w' := by
  obtain ⟨h0, S, s, hR, hs, hf, hc⟩ := h
  refine (create_ok base b S s name w hR hc.runs hne (by simp [hf]) hl (by simp [hf, maxLen]) h0).mono ?_
  rintro e w' ⟨k, rfl, rfl, f, m, s', h1, h2, h3, h4, h5, h6, h7, h8⟩
  have hb := below_turn hR h0 (h8.mono (by intro x hx; simp only [foot, List.mem_cons, List.mem_append] at hx ⊢; exact hx.imp id .inl))
  refine ⟨rfl, ⟨Nat.le_trans h0 h8.size, _, s', f, h6, by rw [h7, hs]; rfl, by simp [hf], h1, h2, h3, ⟨hc.cap, hc.cr, by show S.ca + 1 = _; rw [hc.ca], by have := hc.ca0; omega, by omega, hc.dw, hc.fail, hc.keep⟩⟩, hb⟩

theorem append_one (base b : Nat) (nm l : List UInt8) (sy : Nat) (cap ca : Int) (keep : List Int) (name : ByteArray) (vb : Value) (l2 : List UInt8) (w : World) (h : One w base b nm l sy cap ca keep) (hca : ca < 999) (hnm : name.data.toList = nm) (hl : name.size ≤ maxLen) (hv : Reads w vb (bv l2)) (hvb : bv l2 ≠ [] → ∀ a n c, vb = .slice (some a) n c → a.block ≠ b)
    (hs1 : l.length + l2.length < 1000000000) (hcap : (l.length : Int) + l2.length ≤ cap) :
    Calls Try.prog 13 #[theDisk b, .string name, vb] w fun e w' => e = .returned (.int .i64 0) ∧ One w' base b nm (l ++ l2) sy cap (ca + 1) keep ∧ Below base w w' := by
  obtain ⟨h0, S, s, f, hR, hs, hf, hn, hb, hsy, hc⟩ := h
  have ht : total S.files = l.length := by simp [total, hf, hb]
  have hfind : S.files.find? (named name.data.toList) = some f := by simp [hf, named, hn, hnm]
  refine (append_ok base b S s name vb l2 f w hR hc.runs hfind hl hv hvb (by rw [hs, ht]) (by omega) (by rw [ht, hc.cap]; exact hcap) h0 (by rw [ht, hb]; exact Nat.le_refl _)).mono ?_
  rintro e w' ⟨k, rfl, rfl, row, s', h1, h2, h3⟩
  refine ⟨rfl, ⟨Nat.le_trans h0 h3.size, _, s', addTo l2 row f, h1, by rw [h2, hs]; simp, by simp [mapF, hf, named, hn, hnm], hn, by simp [addTo, hb], hsy, ⟨hc.cap, hc.cr, by show S.ca + 1 = _; rw [hc.ca], by have := hc.ca0; omega, by omega, hc.dw, hc.fail, hc.keep⟩⟩, below_turn hR h0 h3⟩

theorem sync_one (base b : Nat) (nm l : List UInt8) (sy : Nat) (cap ca : Int) (keep : List Int) (name : ByteArray) (w : World) (h : One w base b nm l sy cap ca keep) (hca : ca < 999) (hnm : name.data.toList = nm) (hl : name.size ≤ maxLen) :
    Calls Try.prog 14 #[theDisk b, .string name] w fun e w' => e = .returned (.int .i64 0) ∧ One w' base b nm l l.length cap (ca + 1) keep ∧ Below base w w' := by
  obtain ⟨h0, S, s, f, hR, hs, hf, hn, hb, hsy, hc⟩ := h
  have hfind : S.files.find? (named name.data.toList) = some f := by simp [hf, named, hn, hnm]
  refine (sync_ok base b S s name f w hR hc.runs hfind hl h0).mono ?_
  rintro e w' ⟨k, rfl, rfl, s', h1, h2, h3⟩
  refine ⟨rfl, ⟨Nat.le_trans h0 h3.size, _, s', synced f, h1, by rw [h2, hs], by simp [mapF, hf, named, hn, hnm], hn, hb, by simp [synced, hb], ⟨hc.cap, hc.cr, by show S.ca + 1 = _; rw [hc.ca], by have := hc.ca0; omega, by omega, hc.dw, hc.fail, hc.keep⟩⟩, below_turn hR h0 h3⟩

theorem read_one (base b : Nat) (nm l : List UInt8) (sy : Nat) (cap ca : Int) (keep : List Int) (name : ByteArray) (w : World) (h : One w base b nm l sy cap ca keep) (hnm : name.data.toList = nm) (hl : name.size ≤ maxLen) (hlen : l.length < 1000000000) :
    Calls Try.prog 16 #[theDisk b, .string name] w fun e w' => ∃ ao c, e = .returned (.tuple #[.slice ao l.length c, .int .i64 0]) ∧ w'.ownsRow w.heap.size 5 1 (.slice ao l.length c) l.length (bv l) ∧ w.grownBy w' none := by
  obtain ⟨h0, S, s, f, hR, hs, hf, hn, hb, hsy, hc⟩ := h
  have hfind : S.files.find? (named name.data.toList) = some f := by simp [hf, named, hn, hnm]
  have := read_ok base b S s name f w hR hc.dw hfind hl (by rw [hb]; exact hlen)
  rw [hb] at this
  exact this

theorem restart_one (base b : Nat) (nm l : List UInt8) (sy : Nat) (cap ca : Int) (keep : List Int) (cap2 : Int) (w : World) (h : One w base b nm l sy cap ca keep) (hl : nm.length ≤ maxLen) (hlen : l.length < 1000000000) (hkl : keep.length < 1000000) :
    Calls Try.prog 15 #[theDisk b, .agg #[.int .i64 cap2, .slice none 0 0, .int .i64 0, .bool false, .slice none 0 0]] w fun e w' => e = .returned (.tuple #[]) ∧
      One w' base b nm (l.take (sy + min (keep.getD 0 0).toNat (l.length - sy))) (sy + min (keep.getD 0 0).toNat (l.length - sy)) cap2 0 [] ∧ Below base w w' := by
  obtain ⟨h0, S, s, f, hR, hs, hf, hn, hb, hsy2, hc⟩ := h
  have ht : total S.files = l.length := by simp [total, hf, hb]
  have hsn : sortedNames S.files = [nm] := by simp [sortedNames, hf, hn]
  refine (restart_any base b S s cap2 0 false (.slice none 0 0) (.slice none 0 0) [] [] w hR (by rw [hs, ht]) (by omega) (by simp [hf]) (by rw [hc.keep]; exact hkl) (Reads.nil w) (Reads.nil w) (by intro h; exact absurd rfl h) (by intro h; exact absurd rfl h) (by simp) (by simp) h0 (by simp [hf, hn, hl])).mono ?_
  rintro e w' ⟨rfl, s', fr, kr, h1, h2, h3⟩
  have hfin : resF S.keep (sortedNames S.files) S.files (sortedNames S.files).length = [survive (keep.getD 0 0) f] := by
    rw [hsn, hf, hc.keep]
    simp [resF, mapF, named, hn]
  rw [hfin] at h1 h2
  have hlen2 : (survive (keep.getD 0 0) f).bytes = l.take (sy + min (keep.getD 0 0).toNat (l.length - sy)) := by simp [survive, hb, hsy2]
  refine ⟨rfl, ⟨Nat.le_trans h0 h3.size, _, s', _, h1, ?_, rfl, hn, hlen2, by simp [survive, hb, hsy2], ⟨rfl, rfl, rfl, by omega, by omega, rfl, by simp, rfl⟩⟩, below_turn hR h0 h3⟩
  rw [h2, ← hlen2]
  simp only [total, List.map_cons, List.map_nil, List.sum_cons, List.sum_nil, Nat.add_zero]

end Go.Proofs.Ytmpjjnjggiipjaa
