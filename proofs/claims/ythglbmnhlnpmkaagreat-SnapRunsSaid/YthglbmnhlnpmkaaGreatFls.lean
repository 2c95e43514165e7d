/- Files. Numbers and types by name. -/
import Derived.Test.YthglbmnhlnpmkaaGreatRst
import Derived.Test.YthglbmnhlnpmkaaGreatChecked
import Derived.WalkKit
import Derived.WalkLawsBesides
import Derived.Lib.Hide
import Derived.BigQuiet
import Derived.Deep.QuietTactic
import Derived.Laws.IdiomStrings
import Derived.Lib.SlBytesConst
/- Disks of one file, whose plans fail and crash nothing. Numbers and types by name. -/
namespace Go.Proofs.YthglbmnhlnpmkaaGreat
open Go.RowKit Go.Maps Go.Sort Go.WideMaps

/-- No crash, no failure; few calls as yet. -/
structure CalmD (S : DM) (cp cl : Int) (kl : List Int) : Prop where
  cap : S.cap = cp
  cr : S.cr = 0
  ca : S.ca = cl
  ca0 : 0 ≤ cl
  ca1 : cl < 1000
  dw : S.dw = false
  fail : S.fail = []
  keep : S.keep = kl

theorem CalmD.runs {S : DM} {cap ca : Int} {keep : List Int} (h : CalmD S cap ca keep) : Runs S :=
  ⟨h.dw, by rw [h.ca, h.cr]; have := h.ca0; omega, by simp [h.fail], by rw [h.ca]; exact h.ca0, by rw [h.ca]; have := h.ca1; omega, by simp [h.fail]⟩

/-- A disk of no file. -/
def Zero (w : World) (base b : Nat) (cap ca : Int) (keep : List Int) : Prop := base ≤ w.heap.size ∧ ∃ S s, Rep w base b S s ∧ s.sz = 0 ∧ S.files = [] ∧ CalmD S cap ca keep
/-- A disk of one file. -/
def One (w : World) (base b : Nat) (nm l : List UInt8) (sy : Nat) (cap ca : Int) (keep : List Int) : Prop :=
  base ≤ w.heap.size ∧ ∃ S s f, Rep w base b S s ∧ s.sz = l.length ∧ S.files = [f] ∧ f.name = nm ∧ f.bytes = l ∧ f.sy = sy ∧ CalmD S cap ca keep

theorem Zero.new {w w' : World} {base b : Nat} {cap ca : Int} {keep : List Int} (h : Zero w base b cap ca keep) (t : Turn [] w w') : Zero w' base b cap ca keep := by
  obtain ⟨h0, S, s, hR, h2⟩ := h
  exact ⟨Nat.le_trans h0 t.size, S, s, hR.new t, h2⟩
theorem One.new {w w' : World} {base b : Nat} {nm l : List UInt8} {sy : Nat} {cap ca : Int} {keep : List Int} (h : One w base b nm l sy cap ca keep) (t : Turn [] w w') : One w' base b nm l sy cap ca keep := by
  obtain ⟨h0, S, s, f, hR, h2⟩ := h
  exact ⟨Nat.le_trans h0 t.size, S, s, f, hR.new t, h2⟩

theorem below_turn {w w' : World} {base b : Nat} {S : DM} {s : DS} (h : Rep w base b S s) (hb : base ≤ w.heap.size) (t : Turn (foot b S) w w') : Below base w w' := t.below hb h.low
theorem new_zero (cap : Int) (kp : Value) (ks : List Int) (w : World) (hk : Reads w kp (iv ks)) (hz2 : ks.length < 1000000) :
    Calls Tryz.prog 8 #[.agg #[.int .i64 cap, .slice none 0 0, .int .i64 0, .bool false, kp]] w fun e w' => ∃ b, e = .returned (theDisk b) ∧ Zero w' w.heap.size b cap 0 ks ∧ w.grownBy w' none := by
  refine (new_any cap 0 false (.slice none 0 0) kp [] ks w (Reads.nil w) hk (by simp) (by omega)).mono ?_
  rintro e w' ⟨b, ao, c, ao', c', rfl, hb, hd, h1, h2, hg⟩
  refine ⟨b, rfl, ⟨hg.size, { cap := cap, cr := 0, ca := 0, dn := false, dw := false, fail := [], keep := ks, files := [], mp := none, fr := (Value.slice ao 0 c).ownBlock, kr := (Value.slice ao' ks.length c').ownBlock }, { cap := cap, fl := .slice ao 0 c, cr := 0, dn := false, kp := .slice ao' ks.length c', fs := .map none, sz := 0, ca := 0, dw := false }, ?_, rfl, rfl, ⟨rfl, rfl, rfl, by omega, by omega, rfl, rfl, rfl⟩⟩, hg⟩
  exact {
    disk := hd
    cap := rfl
    cr := rfl
    ca := rfl
    dn := rfl
    dw := rfl
    fs := rfl
    lists := ⟨ao, c, ao', c', rfl, rfl, by simpa [iv] using owns_base h1 (by omega), owns_base h2 (by omega), rfl, rfl,
      (fun g hg hm => by have h3 := (h1.lt g hg).1; simp [foot] at hm; omega), (fun g hg hm => by have h3 := (h2.lt g hg).1; simp [foot] at hm; omega)⟩
    mapN := fun _ => rfl
    mapS := fun m hm => by cases hm
    files := fun f hf => by cases hf
    apart1 := fun m hm => by cases hm
    apart2 := fun f hf => by cases hf
    apart3 := List.Pairwise.nil
    low := fun k hk => by simp [foot] at hk; omega
    names := List.nodup_nil
    sorted := List.Pairwise.nil }

theorem create_one (base b : Nat) (cap ca : Int) (keep : List Int) (name : ByteArray) (w : World) (h : Zero w base b cap ca keep) (hca : ca < 999) (hne : name.toList.isEmpty = false) (hl : name.size ≤ maxLen) :
    Calls Tryz.prog 22 #[theDisk b, .string name] w fun e w' => e = .returned (.int .i64 0) ∧ One w' base b name.data.toList [] 0 cap (ca + 1) keep ∧ Below base w w' := by
  obtain ⟨h0, S, s, hR, hs, hf, hc⟩ := h
  refine (create_ok base b S s name w hR hc.runs hne (by simp [hf]) hl (by simp [hf, maxLen]) h0).mono ?_
  rintro e w' ⟨k, rfl, rfl, f, m, s', h1, h2, h3, h4, h5, h6, h7, h8⟩
  have hb := below_turn hR h0 (h8.mono (by intro x hx; simp only [foot, List.mem_cons, List.mem_append] at hx ⊢; exact hx.imp id .inl))
  refine ⟨rfl, ⟨Nat.le_trans h0 h8.size, _, s', f, h6, by rw [h7, hs]; rfl, by simp [hf], h1, h2, h3, ⟨hc.cap, hc.cr, by show S.ca + 1 = _; rw [hc.ca], by have := hc.ca0; omega, by omega, hc.dw, hc.fail, hc.keep⟩⟩, hb⟩

theorem append_one (base b : Nat) (nm l : List UInt8) (sy : Nat) (cap ca : Int) (keep : List Int) (name : ByteArray) (vb : Value) (l2 : List UInt8) (w : World) (h : One w base b nm l sy cap ca keep) (hca : ca < 999) (hnm : name.data.toList = nm) (hl : name.size ≤ maxLen) (hv : Reads w vb (bv l2)) (hvb : bv l2 ≠ [] → ∀ a n c, vb = .slice (some a) n c → a.block ≠ b)
    (hs1 : l.length + l2.length < 1000000000) (hcap : (l.length : Int) + l2.length ≤ cap) :
    Calls Tryz.prog 23 #[theDisk b, .string name, vb] w fun e w' => e = .returned (.int .i64 0) ∧ One w' base b nm (l ++ l2) sy cap (ca + 1) keep ∧ Below base w w' := by
  obtain ⟨h0, S, s, f, hR, hs, hf, hn, hb, hsy, hc⟩ := h
  have ht : total S.files = l.length := by simp [total, hf, hb]
  have hfind : S.files.find? (named name.data.toList) = some f := by simp [hf, named, hn, hnm]
  refine (append_ok base b S s name vb l2 f w hR hc.runs hfind hl hv hvb (by rw [hs, ht]) (by omega) (by rw [ht, hc.cap]; exact hcap) h0 (by rw [ht, hb]; exact Nat.le_refl _)).mono ?_
  rintro e w' ⟨k, rfl, rfl, row, s', h1, h2, h3⟩
  refine ⟨rfl, ⟨Nat.le_trans h0 h3.size, _, s', addTo l2 row f, h1, by rw [h2, hs]; simp, by simp [mapF, hf, named, hn, hnm], hn, by simp [addTo, hb], hsy, ⟨hc.cap, hc.cr, by show S.ca + 1 = _; rw [hc.ca], by have := hc.ca0; omega, by omega, hc.dw, hc.fail, hc.keep⟩⟩, below_turn hR h0 h3⟩

theorem sync_one (base b : Nat) (nm l : List UInt8) (sy : Nat) (cap ca : Int) (keep : List Int) (name : ByteArray) (w : World) (h : One w base b nm l sy cap ca keep) (hca : ca < 999) (hnm : name.data.toList = nm) (hl : name.size ≤ maxLen) :
    Calls Tryz.prog 67 #[theDisk b, .string name] w fun e w' => e = .returned (.int .i64 0) ∧ One w' base b nm l l.length cap (ca + 1) keep ∧ Below base w w' := by
  obtain ⟨h0, S, s, f, hR, hs, hf, hn, hb, hsy, hc⟩ := h
  have hfind : S.files.find? (named name.data.toList) = some f := by simp [hf, named, hn, hnm]
  refine (sync_ok base b S s name f w hR hc.runs hfind hl h0).mono ?_
  rintro e w' ⟨k, rfl, rfl, s', h1, h2, h3⟩
  refine ⟨rfl, ⟨Nat.le_trans h0 h3.size, _, s', synced f, h1, by rw [h2, hs], by simp [mapF, hf, named, hn, hnm], hn, hb, by simp [synced, hb], ⟨hc.cap, hc.cr, by show S.ca + 1 = _; rw [hc.ca], by have := hc.ca0; omega, by omega, hc.dw, hc.fail, hc.keep⟩⟩, below_turn hR h0 h3⟩

theorem read_one (base b : Nat) (nm l : List UInt8) (sy : Nat) (cap ca : Int) (keep : List Int) (name : ByteArray) (w : World) (h : One w base b nm l sy cap ca keep) (hnm : name.data.toList = nm) (hl : name.size ≤ maxLen) (hlen : l.length < 1000000000) :
    Calls Tryz.prog 40 #[theDisk b, .string name] w fun e w' => ∃ ao c, e = .returned (.tuple #[.slice ao l.length c, .int .i64 0]) ∧ w'.ownsRow w.heap.size 5 1 (.slice ao l.length c) l.length (bv l) ∧ w.grownBy w' none := by
  obtain ⟨h0, S, s, f, hR, hs, hf, hn, hb, hsy, hc⟩ := h
  have hfind : S.files.find? (named name.data.toList) = some f := by simp [hf, named, hn, hnm]
  have := read_ok base b S s name f w hR hc.dw hfind hl (by rw [hb]; exact hlen)
  rw [hb] at this
  exact this

theorem restart_one (base b : Nat) (nm l : List UInt8) (sy : Nat) (cap ca : Int) (keep : List Int) (cap2 : Int) (w : World) (h : One w base b nm l sy cap ca keep) (hl : nm.length ≤ maxLen) (hlen : l.length < 1000000000) (hkl : keep.length < 1000000) :
    Calls Tryz.prog 11 #[theDisk b, .agg #[.int .i64 cap2, .slice none 0 0, .int .i64 0, .bool false, .slice none 0 0]] w fun e w' => e = .returned (.tuple #[]) ∧
      One w' base b nm (l.take (sy + min (keep.getD 0 0).toNat (l.length - sy))) (sy + min (keep.getD 0 0).toNat (l.length - sy)) cap2 0 [] ∧ Below base w w' := by
  obtain ⟨h0, S, s, f, hR, hs, hf, hn, hb, hsy2, hc⟩ := h
  have ht : total S.files = l.length := by simp [total, hf, hb]
  have hsn : sortedNames S.files = [nm] := by simp [sortedNames, hf, hn]
  refine (restart_any base b S s cap2 0 false (.slice none 0 0) (.slice none 0 0) [] [] w hR (by rw [hs, ht]) (by omega) (by simp [hf]) (by rw [hc.keep]; exact hkl) (Reads.nil w) (Reads.nil w) (by intro h; exact absurd rfl h) (by intro h; exact absurd rfl h) (by simp) (by simp) h0 (by simp [hf, hn, hl])).mono ?_
  rintro e w' ⟨rfl, s', fr, kr, h1, h2, h3⟩
  have hfin : resF S.keep (sortedNames S.files) S.files (sortedNames S.files).length = [survive (keep.getD 0 0) f] := by
    rw [hsn, hf, hc.keep]
    simp [resF, mapF, named, hn]
  rw [hfin] at h1 h2
  have hlen2 : (survive (keep.getD 0 0) f).bytes = l.take (sy + min (keep.getD 0 0).toNat (l.length - sy)) := by simp [survive, hb, hsy2]
  refine ⟨rfl, ⟨Nat.le_trans h0 h3.size, _, s', _, h1, ?_, rfl, hn, hlen2, by simp [survive, hb, hsy2], ⟨rfl, rfl, rfl, by omega, by omega, rfl, by simp, rfl⟩⟩, below_turn hR h0 h3⟩
  rw [h2, ← hlen2]
  simp only [total, List.map_cons, List.map_nil, List.sum_cons, List.sum_nil, Nat.add_zero]

end Go.Proofs.YthglbmnhlnpmkaaGreat

/- What a disk that there is not answers: each call of a nil receiver. Numbers and types by name. -/
namespace Go.Proofs.YthglbmnhlnpmkaaGreat
open Go.RowKit

theorem num1_any (k : Int) (w : World) : Calls Tryz.prog 13 #[.int .i64 k] w fun e w' => e = .returned (.int .i64 k) ∧ w = w' := by
  go_enter Tryz.func13, Tryz.ntmps13
  go_wp2
  go_ret
  exact ⟨rfl, rfl⟩

theorem write_nil (v : Value) (w : World) : Calls Tryz.prog 51 #[.pointer none, v] w fun e w' => e = .returned (.int .i64 3) ∧ w = w' := by
  go_enter Tryz.func51, Tryz.ntmps51
  go_wp2
  go_step3
  go_wp2
  rw [Exit.noGoto_ret]
  go_ret
  exact ⟨rfl, rfl⟩

theorem read_nil (v : Value) (w : World) : Calls Tryz.prog 40 #[.pointer none, v] w fun e w' => e = .returned (.tuple #[.slice none 0 0, .int .i64 3]) ∧ w = w' := by
  go_enter Tryz.func40, Tryz.ntmps40
  go_wp2
  go_ret2
  exact ⟨rfl, rfl⟩

theorem calls_nil (w : World) : Calls Tryz.prog 45 #[.pointer none] w fun e w' => e = .returned (.int .i64 0) ∧ w = w' := by
  go_enter Tryz.func45, Tryz.ntmps45
  go_wp2
  go_ret
  exact ⟨rfl, rfl⟩

theorem down_nil (w : World) : Calls Tryz.prog 46 #[.pointer none] w fun e w' => e = .returned (.bool false) ∧ w = w' := by
  go_enter Tryz.func46, Tryz.ntmps46
  go_wp2
  go_ret
  exact ⟨rfl, rfl⟩

theorem files_nil (w : World) : Calls Tryz.prog 44 #[.pointer none] w fun e w' => e = .returned (.slice none 0 0) ∧ w = w' := by
  go_enter Tryz.func44, Tryz.ntmps44
  go_wp2
  go_ret
  exact ⟨rfl, rfl⟩

theorem create_nil (s : ByteArray) (w : World) : Calls Tryz.prog 22 #[.pointer none, .string s] w fun e w' => e = .returned (.int .i64 3) ∧ Below w.heap.size w w' := by
  have hmf : ∀ (fn : Fn) (first cap : Array Value) (w : World), (Instr.makeFunc fn first cap).run Tryz.prog w = .ok (.func fn first cap) w := fun _ _ _ _ => rfl
  go_enter Tryz.func22, Tryz.ntmps22
  go_wp2_with (go_at_call 51; refine (write_nil _ _).mono ?_; rintro e w' ⟨rfl, rfl⟩)
  go_ret
  exact ⟨rfl, ((Below.refl _ _).alloc (Nat.le_refl _) _).alloc (by simp) _⟩

theorem sync_nil (s : ByteArray) (w : World) : Calls Tryz.prog 67 #[.pointer none, .string s] w fun e w' => e = .returned (.int .i64 3) ∧ Below w.heap.size w w' := by
  have hmf : ∀ (fn : Fn) (first cap : Array Value) (w : World), (Instr.makeFunc fn first cap).run Tryz.prog w = .ok (.func fn first cap) w := fun _ _ _ _ => rfl
  go_enter Tryz.func67, Tryz.ntmps67
  go_wp2_with (go_at_call 51; refine (write_nil _ _).mono ?_; rintro e w' ⟨rfl, rfl⟩)
  go_ret
  exact ⟨rfl, ((Below.refl _ _).alloc (Nat.le_refl _) _).alloc (by simp) _⟩

theorem remove_nil (s : ByteArray) (w : World) : Calls Tryz.prog 66 #[.pointer none, .string s] w fun e w' => e = .returned (.int .i64 3) ∧ Below w.heap.size w w' := by
  have hmf : ∀ (fn : Fn) (first cap : Array Value) (w : World), (Instr.makeFunc fn first cap).run Tryz.prog w = .ok (.func fn first cap) w := fun _ _ _ _ => rfl
  go_enter Tryz.func66, Tryz.ntmps66
  go_wp2_with (go_at_call 51; refine (write_nil _ _).mono ?_; rintro e w' ⟨rfl, rfl⟩)
  go_ret
  exact ⟨rfl, ((Below.refl _ _).alloc (Nat.le_refl _) _).alloc (by simp) _⟩

theorem append_nil (s : ByteArray) (ao : Option Addr) (n c : Nat) (w : World) : Calls Tryz.prog 23 #[.pointer none, .string s, .slice ao n c] w fun e w' => e = .returned (.int .i64 3) ∧ Below w.heap.size w w' := by
  have hmf : ∀ (fn : Fn) (first cap : Array Value) (w : World), (Instr.makeFunc fn first cap).run Tryz.prog w = .ok (.func fn first cap) w := fun _ _ _ _ => rfl
  go_enter Tryz.func23, Tryz.ntmps23
  go_wp2_with (go_at_call 51; refine (write_nil _ _).mono ?_; rintro e w' ⟨rfl, rfl⟩)
  go_ret
  exact ⟨rfl, (((Below.refl _ _).alloc (Nat.le_refl _) _).alloc (by simp) _).alloc (by simp; omega) _⟩

theorem rename_nil (s t : ByteArray) (w : World) : Calls Tryz.prog 68 #[.pointer none, .string s, .string t] w fun e w' => e = .returned (.int .i64 3) ∧ Below w.heap.size w w' := by
  have hmf : ∀ (fn : Fn) (first cap : Array Value) (w : World), (Instr.makeFunc fn first cap).run Tryz.prog w = .ok (.func fn first cap) w := fun _ _ _ _ => rfl
  go_enter Tryz.func68, Tryz.ntmps68
  go_wp2_with (go_at_call 51; refine (write_nil _ _).mono ?_; rintro e w' ⟨rfl, rfl⟩)
  go_ret
  exact ⟨rfl, (((Below.refl _ _).alloc (Nat.le_refl _) _).alloc (by simp) _).alloc (by simp; omega) _⟩

theorem restart_nil (x0 x1 x2 x3 x4 : Value) (w : World) : Calls Tryz.prog 11 #[.pointer none, .agg #[x0, x1, x2, x3, x4]] w fun e w' => e = .returned (.tuple #[]) ∧ Below w.heap.size w w' := by
  go_enter Tryz.func11, Tryz.ntmps11
  go_wp2
  refine bodyPost_ret (results_none rfl _ _ _) rfl ?_
  exact ⟨rfl, (Below.refl _ _).alloc (Nat.le_refl _) _⟩

end Go.Proofs.YthglbmnhlnpmkaaGreat

/- The document's example: awake. Numbers and types by name. -/
namespace Go.Proofs.YthglbmnhlnpmkaaGreat
open Go.RowKit Go.Maps Go.Sort Go.WideMaps

def fName : ByteArray := ⟨#[102]⟩

end Go.Proofs.YthglbmnhlnpmkaaGreat

namespace Go.Proofs.YthglbmnhlnpmkaaGreat
open Go.RowKit Go.Maps Go.Sort Go.WideMaps

theorem info_file : (Tryz.prog.info? 70).map (fun i => (i.zero, i.size, i.bytes)) = some (some (.agg #[.string ⟨#[]⟩, .slice none 0 0, .int .i64 0]), 3, 48) := by kernel_rfl

/-- The file of a name, or none. -/
def fileOf (files : List FM) (x : List UInt8) : FM := (files.find? (named x)).getD ⟨[], 0, none, [], 0⟩

/-- What stands in a row of files: of each its name, its bytes in a row of their own, how many are synced. -/
def Told (w : World) (base : Nat) (row : Option Nat) (fs : List FM) (xs : List Value) : Prop :=
  xs.length = fs.length * 3 ∧ ∀ j f, fs[j]? = some f → ∃ ao c, xs[j * 3]? = some (encStr f.name) ∧ xs[j * 3 + 1]? = some (.slice ao f.bytes.length c) ∧ xs[j * 3 + 2]? = some (.int .i64 f.sy) ∧
    w.ownsRow base 5 1 (.slice ao f.bytes.length c) f.bytes.length (bv f.bytes) ∧ ∀ g, (Value.slice ao f.bytes.length c).ownBlock = some g → row ≠ some g

theorem Told.nil (w : World) (base : Nat) (row : Option Nat) : Told w base row [] [] := ⟨rfl, fun j f h => by cases h⟩

/-- One file more: its bytes are copied, the row is appended to. -/
theorem Told.next {w w2 w3 : World} {base : Nat} {row row3 : Option Nat} {fs : List FM} {xs : List Value} (h : Told w base row fs xs) (f : FM) (ao : Option Addr) (c : Nat)
    (hg2 : w.grownBy w2 none) (h2 : w2.ownsRow w.heap.size 5 1 (.slice ao f.bytes.length c) f.bytes.length (bv f.bytes)) (o : Obj) (hg3 : (w2.alloc o).grownBy w3 row) (hrow : row3 = row ∨ row3 = some (w2.alloc o).heap.size) (hrl : ∀ g, row = some g → g < w.heap.size) (hbase : base ≤ w.heap.size) :
    Told w3 base row3 (fs ++ [f]) (xs ++ [encStr f.name, .slice ao f.bytes.length c, .int .i64 f.sy]) := by
  obtain ⟨hl, hx⟩ := h
  have t3 : Turn row.toList (w2.alloc o) w3 := Turn.of_grown hg3 (by intro k e; simp [e])
  have ta : Turn [] w2 (w2.alloc o) := (Turn.refl [] w2).alloc o
  refine ⟨by simp [hl, Nat.add_mul], fun j g hj => ?_⟩
  by_cases hjl : j < fs.length
  · rw [List.getElem?_append_left hjl] at hj
    obtain ⟨ao', c', e1, e2, e3, h4, h5⟩ := hx j g hj
    refine ⟨ao', c', by rw [List.getElem?_append_left (by omega)]; exact e1, by rw [List.getElem?_append_left (by omega)]; exact e2, by rw [List.getElem?_append_left (by omega)]; exact e3, ?_, ?_⟩
    · refine owns_turn (owns_turn (owns_turn h4 (Turn.of_none (F := []) hg2) (by simp)) ta (by simp)) t3 (fun k hk => ?_)
      have := h5 k hk
      simpa using this
    · intro k hk
      rcases hrow with e | e
      · rw [e]; exact h5 k hk
      · rw [e]
        have h6 := (h4.lt k hk).2
        have h7 := hg2.size
        simp
        omega
  · have hjl2 : j = fs.length := by
      have := (List.getElem?_eq_some_iff.1 hj).1
      simp at this
      omega
    subst hjl2
    rw [List.getElem?_append_right (Nat.le_refl _)] at hj
    simp at hj
    subst hj
    have hne : ∀ k, (Value.slice ao f.bytes.length c).ownBlock = some k → row ≠ some k := fun k hk e => by
      have h6 := (h2.lt k hk).1
      have := hrl k e
      omega
    refine ⟨ao, c, ?_, ?_, ?_, owns_base (owns_turn (owns_turn h2 ta (by simp)) t3 (fun k hk => by simpa using hne k hk)) hbase, ?_⟩
    · rw [List.getElem?_append_right (by omega), hl]; simp
    · rw [List.getElem?_append_right (by omega), hl, show fs.length * 3 + 1 - fs.length * 3 = 1 from by omega]; rfl
    · rw [List.getElem?_append_right (by omega), hl, show fs.length * 3 + 2 - fs.length * 3 = 2 from by omega]; rfl
    · intro k hk
      rcases hrow with e | e
      · rw [e]; exact hne k hk
      · rw [e]
        have h6 := (h2.lt k hk).2
        simp
        omega

/-- One File is appended to an own row of them, at a step of a region that draws its order. -/
theorem step_append_file {ops : Array Oper} {o : Oper} {a : Act} {w2 : World} {K : Act → World → Prop} {Q : Exit → Act → World → Prop} {E : Prop} (hgd : o.guard = none) (s x : Operand)
    (ho : o.op = .call { callee := .builtin .append, args := #[s, x], argTypes := #[60, 60] })
    (base : Nat) (v : Value) (n : Nat) (xs : List Value) (hs : a.eval s = v) (hown : w2.ownsRow base 70 3 v n xs) (nm : List UInt8) (ao : Option Addr) (m c : Nat) (sy : Int) (hx : a.eval x = .slice (some ⟨w2.heap.size, 0, none⟩) 1 1)
    (h63 : Hid (n + 1 ≤ maxLen)) (hbytes : Hid ((n + 1) * 48 ≤ 140737488355328)) (hbase : base ≤ w2.heap.size)
    (h : ∀ g cap w', w'.ownsRow base 70 3 (.slice (some ⟨g, 0, none⟩) (n + 1) cap) (n + 1) (xs ++ [encStr nm, .slice ao m c, .int .i64 sy]) → (w2.alloc (.cells #[encStr nm, .slice ao m c, .int .i64 sy] 70)).grownBy w' v.ownBlock → (v.ownBlock = some g ∨ g = (w2.alloc (.cells #[encStr nm, .slice ao m c, .int .i64 sy] 70)).heap.size) →
      K (a.put o.dst (.slice (some ⟨g, 0, none⟩) (n + 1) cap)) w') :
    if Region.wanted o (yielded ops a.tmps) = true then Oper.wp Tryz.prog o a (w2.alloc (.cells #[encStr nm, .slice ao m c, .int .i64 sy] 70)) K Q else E := by
  obtain ⟨i0, hi, hz0, hz1, hz2⟩ := info_parts info_file
  refine step_append_lies _ hgd s x 60 ho base 70 i0 (.agg #[.string ⟨#[]⟩, .slice none 0 0, .int .i64 0]) 3 48 Tryz.underlying60 hi hz0 hz1 hz2 rfl (by decide) v n xs hs (hown.alloc _) ⟨w2.heap.size, 0, none⟩ 1 1 [encStr nm, .slice ao m c, .int .i64 sy] hx rfl ?_ ?_ (by decide) h63.out hbytes.out (by simp; omega) _ rfl ?_
  · exact World.news_of_block (heap_alloc_new w2 (.cells #[encStr nm, .slice ao m c, .int .i64 sy] 70))
  · intro u hu
    simp only [List.mem_cons, List.not_mem_nil, or_false] at hu
    rcases hu with rfl | rfl | rfl <;> rfl
  · intro g cap w' h1 h2 h3 _
    exact h g cap w' h1 h2 h3

theorem grown_of_turn {w w' : World} (t : Turn [] w w') : w.grownBy w' none := ⟨t.os, t.tape, t.output, t.size, fun k hk _ => t.block k hk (by simp)⟩

theorem files_close {w1 wr w2 w3 : World} {base k : Nat} {files : List FM} {ss : List (List UInt8)} {f : FM} {nm : List UInt8} {aol : Option Addr} {cl : Nat} {xs : List Value} {ao2 : Option Addr} {c2 g3 cap3 n1 : Nat}
    (hlt : k < ss.length) (hnm : ss.getD k [] = nm) (hf : files.find? (named nm) = some f) (hfn : f.name = nm) (hl1 : wr.ownsRow base 70 3 (.slice aol k cl) k xs) (hl2 : Told wr base (Value.slice aol k cl).ownBlock ((ss.take k).map (fileOf files)) xs) (hl3 : w1.grownBy wr none)
    (hl4 : ∀ g, (Value.slice aol k cl).ownBlock = some g → w1.heap.size ≤ g) (hbs : base ≤ wr.heap.size) (hg2 : (wr.drewN n1).grownBy w2 none) (hown2 : w2.ownsRow (wr.drewN n1).heap.size 5 1 (.slice ao2 f.bytes.length c2) f.bytes.length (bv f.bytes))
    (h31 : w3.ownsRow base 70 3 (.slice (some ⟨g3, 0, none⟩) (k + 1) cap3) (k + 1) (xs ++ [encStr nm, .slice ao2 f.bytes.length c2, .int .i64 f.sy]))
    (h32 : (w2.alloc (.cells #[encStr nm, .slice ao2 f.bytes.length c2, .int .i64 f.sy] 70)).grownBy w3 (Value.slice aol k cl).ownBlock)
    (h33 : (Value.slice aol k cl).ownBlock = some g3 ∨ g3 = (w2.alloc (.cells #[encStr nm, .slice ao2 f.bytes.length c2, .int .i64 f.sy] 70)).heap.size) :
    ∃ ao c xs', Value.slice (some ⟨g3, 0, none⟩) (k + 1) cap3 = .slice ao (k + 1) c ∧ w3.ownsRow base 70 3 (.slice ao (k + 1) c) (k + 1) xs' ∧ Told w3 base (Value.slice ao (k + 1) c).ownBlock ((ss.take (k + 1)).map (fileOf files)) xs' ∧ w1.grownBy w3 none ∧ ∀ g, (Value.slice ao (k + 1) c).ownBlock = some g → w1.heap.size ≤ g := by
  have hg2' : wr.grownBy w2 none := ⟨hg2.os, hg2.tape, hg2.output, hg2.size, hg2.block⟩
  have hs1 := hl3.size
  have hs2 := hg2'.size
  refine ⟨_, _, _, rfl, h31, ?_, ?_, ?_⟩
  · have e1 : (ss.take (k + 1)).map (fileOf files) = (ss.take k).map (fileOf files) ++ [f] := by
      rw [List.take_succ_eq_append_getElem hlt, List.map_append]
      have : ss[k] = nm := by rw [← hnm, List.getD_eq_getElem?_getD, List.getElem?_eq_getElem hlt]; rfl
      simp [this, fileOf, hf]
    rw [e1]
    have := hl2.next f ao2 c2 hg2' hown2 _ h32 (row3 := some g3) (h33.imp (fun e => e.symm) (fun e => by rw [e])) (fun g hg => (hl1.lt g hg).2) hbs
    rw [hfn] at this
    exact this
  · refine grown_of_turn ((Turn.of_none hl3).trans ((Turn.of_none hg2').trans ?_) |>.trans' (G := (Value.slice aol k cl).ownBlock.toList) (b := w2.alloc (.cells #[encStr nm, .slice ao2 f.bytes.length c2, .int .i64 f.sy] 70)) (Turn.of_grown h32 (by intro j e; simp [e])) (fun x hx => .inr (hl4 x (by simpa using hx))))
    exact (Turn.refl [] w2).alloc _
  · intro g hg
    have hg' : g3 = g := by simpa [Value.ownBlock] using hg
    subst hg'
    rcases h33 with e | e
    · exact hl4 _ e
    · rw [e]; simp; omega

set_option maxRecDepth 100000 in
set_option maxHeartbeats 1000000 in
theorem files_any (base b : Nat) (S : DM) (s : DS) (w : World) (hR : Rep w base b S s) (htot : total S.files < 1000000000) (hlen : S.files.length < 1000000) (hcapl : ∀ f ∈ S.files, f.name.length ≤ maxLen) :
    Calls Tryz.prog 44 #[theDisk b] w fun e w' => ∃ ao c xs, e = .returned (.slice ao S.files.length c) ∧ w'.ownsRow w.heap.size 70 3 (.slice ao S.files.length c) S.files.length xs ∧
      Told w' w.heap.size (Value.slice ao S.files.length c).ownBlock ((sortedNames S.files).map (fileOf S.files)) xs ∧ w.grownBy w' none := by
  have hlt := hR.lt
  have hP := names_rep base b S s w hR hlen
  obtain ⟨ss, hss⟩ : ∃ ss, sortedNames S.files = ss := ⟨_, rfl⟩
  rw [hss] at hP
  have hmem : ∀ x ∈ ss, (∃ f ∈ S.files, f.name = x) ∧ x.length ≤ maxLen := by
    intro x hx
    have := (sortedNames_perm S.files).mem_iff.1 (hss ▸ hx)
    simp only [List.mem_map] at this
    obtain ⟨f, hf, rfl⟩ := this
    exact ⟨⟨f, hf, rfl⟩, hcapl f hf⟩
  have hssl : ss.length = S.files.length := by
    have := (sortedNames_perm S.files).length_eq
    rw [hss] at this
    simpa using this
  rw [hss, ← hssl]
  have hlen2 : ss.length < 1000000 := by omega
  unfold theDisk at hP
  unfold theDisk
  have HP := Lib.hid hP
  have HR := Lib.hid (And.intro hR (And.intro hmem hlt))
  clear hP hss hR hmem hlt hssl hcapl hlen
  go_enter Tryz.func44, Tryz.ntmps44
  go_wp2_with fail
  refine HP.out.mono ?_
  rintro e w1 ⟨ao, c, rfl, hrow, hg⟩
  have HG := Lib.hid (And.intro hg hrow)
  clear HP hg hrow
  go_wp2_with fail
  go_loopw [3, 12] (fun l i wr => ∃ k : Nat, k ≤ ss.length ∧ i = .int .i64 k ∧ Hid (∃ ao c xs, l = .slice ao k c ∧ wr.ownsRow w.heap.size 70 3 (.slice ao k c) k xs ∧ Told wr w.heap.size (Value.slice ao k c).ownBlock ((ss.take k).map (fileOf S.files)) xs ∧ w1.grownBy wr none ∧ (∀ g, (Value.slice ao k c).ownBlock = some g → w1.heap.size ≤ g)))
    (fun _ i _ => ss.length - (intOf i).toNat)
  case atStart =>
    exact ⟨0, Nat.zero_le _, rfl, none, 0, [], rfl, World.ownsRow_nil _ _ _ _, by simpa using Told.nil _ _ _, grown_refl _ _, fun g hg => by cases hg⟩
  case round =>
    obtain ⟨k, hk, rfl, hrel⟩ := hrel
    obtain ⟨aol, cl, xs, rfl, hl1, hl2, hl3, hl4⟩ := hrel.out
    by_cases hlt2 : k < ss.length
    · obtain ⟨hR, hmem, hlt⟩ := HR.out
      have t1 : Turn [] w wr := (Turn.of_none HG.out.1).trans (Turn.of_none hl3)
      have hRk := hR.new t1
      have hrowk := owns_turn HG.out.2 (Turn.of_none (F := []) hl3) (by simp)
      obtain ⟨g, rfl, hcell⟩ := own_strs hrowk hlt2
      have hnmem : ss.getD k [] ∈ ss := by
        rw [List.getD_eq_getElem?_getD, List.getElem?_eq_getElem hlt2]; simp
      obtain ⟨f, hf⟩ := find_of_name (files' := S.files) rfl (hmem _ hnmem).1
      obtain ⟨hfm, hfn⟩ := find_mem hf
      obtain ⟨vf, hfc, hread⟩ := (hRk.files f hfm).reads
      have hnl := (hmem _ hnmem).2
      have hftot := le_total hfm
      generalize hnm : ss.getD k [] = nm at *
      have hlk := hRk.look ⟨nm.toArray⟩ (by simpa [ByteArray.size] using hnl)
      have hpt : ptrOf S.files nm = some ⟨f.blk, 0, none⟩ := by simp [ptrOf, hf]
      simp only at hlk
      rw [hpt] at hlk
      have c5 := hRk.disk.c5
      have f0 := hfc.c0
      have f1 := hfc.c1
      have hcopy := copied_byte vf f.bytes
      have HN := Lib.hid (show f.bytes.length ≤ 140737488355328 by omega)
      have hvs : ∃ aov nv cv, vf = .slice aov nv cv := by obtain ⟨aov, cv, rfl, _⟩ := hread; exact ⟨_, _, _, rfl⟩
      obtain ⟨aov, nv, cv, rfl⟩ := hvs
      have HM := Lib.hid (show k + 1 ≤ maxLen by unfold maxLen; omega)
      have HY := Lib.hid (show (k + 1) * 48 ≤ 140737488355328 by omega)
      have hbs : w.heap.size ≤ wr.heap.size := t1.size
      have HK := Lib.hid (And.intro hnm (And.intro hf (And.intro hfn (And.intro hl2 (And.intro hl3 hl4)))))
      clear hR hmem hlt t1 hRk hrowk hnmem hfm hfc hftot hnm hnl hpt hf hfn hcopy hl2 hl3 hrel
      go_wp2_with fail
      go_region_law (first | (refine step_append_file rfl (.tmp 22) (.tmp 34) rfl w.heap.size (.slice aol k cl) k xs (by simp [Act.eval]) hL2 nm ao2 f.bytes.length c2 f.sy (by simp [Act.eval]) HM HY (Nat.le_trans hbs hg2.size) ?_; intro g3 cap3 w3 h31 h32 h33) | (go_simp; go_at_call 74; refine (copied_byte _ f.bytes _ (hread.turn ((Turn.refl [] wr).drewN 1) (by simp)) HN.out).mono ?_; rintro e w2 ⟨ao2, c2, rfl, hown2, hg2⟩; have f1' := hg2.cell (a := ⟨f.blk, 1, none⟩) f1 (by simp); have hL2 : w2.ownsRow w.heap.size 70 3 (.slice aol k cl) k xs := owns_turn hl1 ⟨hg2.os, hg2.tape, hg2.output, hg2.size, fun k hk _ => hg2.block k hk (by simp)⟩ (F := []) (by simp)))
      all_goals
        obtain ⟨hnm, hf, hfn, hl2, hl3, hl4⟩ := HK.out
        have HC := Lib.hid (files_close hlt2 hnm hf hfn hl1 hl2 hl3 hl4 hbs hg2 hown2 h31 h32 h33)
        clear hnm hf hfn hl1 hl2 hl3 hl4 hbs hg2 hown2 h31 h32 h33 HK f1' hL2 hread f0 f1 c5 hlk hcell
        go_wp2
        go_roundw
        case rel => exact ⟨k + 1, by omega, by go_num, HC.out⟩
        case measure => simp [intOf]; omega
    · obtain rfl : k = ss.length := by omega
      have HE : Hid (∃ ao c xs', Ending.returned (.slice aol ss.length cl) = Ending.returned (.slice ao ss.length c) ∧ wr.ownsRow w.heap.size 70 3 (.slice ao ss.length c) ss.length xs' ∧ Told wr w.heap.size (Value.slice ao ss.length c).ownBlock (ss.map (fileOf S.files)) xs' ∧ w.grownBy wr none) :=
        Lib.hid ⟨aol, cl, xs, rfl, hl1, by simpa using hl2, grown_trans HG.out.1 hl3⟩
      clear hl1 hl2 hl3 hl4 hrel
      go_wp2_with fail
      go_ret
      exact HE.out

end Go.Proofs.YthglbmnhlnpmkaaGreat
