/- 'names': the sorted names of a disk's files; 'shorten'. Numbers and types by name. -/
import Derived.Test.YthglbmnhlnpmkaaGreatBe4
import Derived.WalkKit
import Derived.WalkLawsBesides
import Derived.Lib.Hide
import Derived.BigQuiet
import Derived.Deep.QuietTactic
import Derived.ArgAppend
import Derived.Test.YthglbmnhlnpmkaaGreatRdp
import Derived.Test.YthglbmnhlnpmkaaGreatKeys
import Derived.BigRegion
import Derived.RegionTactic
import Derived.ChangeAlike
/- The copies of lists: 'copied' at int and at byte; what a slice value reads as. Numbers and types by name. -/
namespace Go.Proofs.YthglbmnhlnpmkaaGreat
open Go.RowKit

theorem copied_int (v : Value) (zs : List Int) (w : World) (hr : Reads w v (iv zs)) (hz : zs.length * 8 ≤ 140737488355328) :
    Calls Tryz.prog 57 #[v] w fun e w' => ∃ ao c, e = .returned (.slice ao zs.length c) ∧ w'.ownsRow w.heap.size 3 1 (.slice ao zs.length c) zs.length (iv zs) ∧ w.grownBy w' none := by
  obtain ⟨i0, hi, hz0, hz1, hz2⟩ := info_parts info_int
  obtain ⟨ao, cap, rfl, _, hn, hc⟩ := hr
  rw [iv_length]
  cases ao with
  | none =>
    obtain ⟨h0, rfl⟩ := hn rfl
    obtain rfl : zs = [] := by simpa [iv] using h0
    have hrun := fun ty => run_append_owned_none (P := Tryz.prog) w w.heap.size 27 ty 3 i0 1 Tryz.underlying27 hi (.slice none 0 0) 0 [] (World.ownsRow_nil _ _ _ _)
    clear hn hc
    go_enter Tryz.func57, Tryz.ntmps57
    go_wp2
    go_ret
    exact ⟨none, 0, rfl, World.ownsRow_nil _ _ _ _, ⟨rfl, rfl, rfl, Nat.le_refl _, fun _ _ _ => rfl⟩⟩
  | some a =>
    have hc' := hc a rfl
    have hl := iv_length zs
    have H1 : Hid ((iv zs).length = zs.length * 1) := Lib.hid (by rw [hl]; omega)
    have H2 : Hid (0 + zs.length ≤ maxLen) := Lib.hid (by unfold maxLen; omega)
    have H3 : Hid ((0 + zs.length) * 8 ≤ 140737488355328) := Lib.hid (by omega)
    clear hn hc hl hz
    have h1 := iv_one zs
    generalize iv zs = xs at *
    go_enter Tryz.func57, Tryz.ntmps57
    go_wp2_with (at_builtin; refine wpList_append_own _ rfl _ _ 27 rfl w.heap.size 3 i0 (.int .i64 0) 1 8 Tryz.underlying27 hi hz0 hz1 hz2 rfl (by decide) _ 0 [] rfl (World.ownsRow_nil _ _ _ _) a zs.length cap xs rfl H1.out hc' h1 H2.out H3.out (Nat.le_refl _) ?_; intro v' w1 hown hgrow _)
    go_ret
    simp only [Nat.zero_add, List.nil_append] at hown
    obtain ⟨ao, c, rfl⟩ := owns_shape hown
    exact ⟨ao, c, rfl, hown, hgrow⟩

theorem copied_int_nil (w : World) : Calls Tryz.prog 57 #[.slice none 0 0] w fun e w' => e = .returned (.slice none 0 0) ∧ w = w' := by
  obtain ⟨i0, hi, hz0, hz1, hz2⟩ := info_parts info_int
  have hrun := fun ty => run_append_owned_none (P := Tryz.prog) w w.heap.size 27 ty 3 i0 1 Tryz.underlying27 hi (.slice none 0 0) 0 [] (World.ownsRow_nil _ _ _ _)
  go_enter Tryz.func57, Tryz.ntmps57
  go_wp2
  go_ret
  exact ⟨rfl, rfl⟩

theorem copied_byte (v : Value) (l : List UInt8) (w : World) (hr : Reads w v (bv l)) (hz : l.length ≤ 140737488355328) :
    Calls Tryz.prog 74 #[v] w fun e w' => ∃ ao c, e = .returned (.slice ao l.length c) ∧ w'.ownsRow w.heap.size 5 1 (.slice ao l.length c) l.length (bv l) ∧ w.grownBy w' none := by
  obtain ⟨i0, hi, hz0, hz1, hz2⟩ := info_parts info_byte
  obtain ⟨ao, cap, rfl, _, hn, hc⟩ := hr
  rw [bv_length]
  cases ao with
  | none =>
    obtain ⟨h0, rfl⟩ := hn rfl
    obtain rfl : l = [] := by simpa [bv] using h0
    have hrun := fun ty => run_append_owned_none (P := Tryz.prog) w w.heap.size 46 ty 5 i0 1 Tryz.underlying46 hi (.slice none 0 0) 0 [] (World.ownsRow_nil _ _ _ _)
    clear hn hc
    go_enter Tryz.func74, Tryz.ntmps74
    go_wp2
    go_ret
    exact ⟨none, 0, rfl, World.ownsRow_nil _ _ _ _, ⟨rfl, rfl, rfl, Nat.le_refl _, fun _ _ _ => rfl⟩⟩
  | some a =>
    have hc' := hc a rfl
    have hl := bv_length l
    have H1 : Hid ((bv l).length = l.length * 1) := Lib.hid (by rw [hl]; omega)
    have H2 : Hid (0 + l.length ≤ maxLen) := Lib.hid (by unfold maxLen; omega)
    have H3 : Hid ((0 + l.length) * 1 ≤ 140737488355328) := Lib.hid (by omega)
    clear hn hc hl hz
    have h1 := bv_one l
    generalize bv l = xs at *
    go_enter Tryz.func74, Tryz.ntmps74
    go_wp2_with (at_builtin; refine wpList_append_own _ rfl _ _ 46 rfl w.heap.size 5 i0 (.int .u8 0) 1 1 Tryz.underlying46 hi hz0 hz1 hz2 rfl (by decide) _ 0 [] rfl (World.ownsRow_nil _ _ _ _) a l.length cap xs rfl H1.out hc' h1 H2.out H3.out (Nat.le_refl _) ?_; intro v' w1 hown hgrow _)
    go_ret
    simp only [Nat.zero_add, List.nil_append] at hown
    obtain ⟨ao, c, rfl⟩ := owns_shape hown
    exact ⟨ao, c, rfl, hown, hgrow⟩

end Go.Proofs.YthglbmnhlnpmkaaGreat

/- The disk's own block of nine cells; 'begin', 'New'. Numbers and types by name. -/
namespace Go.Proofs.YthglbmnhlnpmkaaGreat
open Go.RowKit

/-- What stands in a Disk's nine cells. -/
structure DS where
  cap : Int
  cr : Int
  sz : Int
  ca : Int
  dn : Bool
  dw : Bool
  fl : Value
  kp : Value
  fs : Value

def DS.cells (s : DS) : Array Value := #[.int .i64 s.cap, s.fl, .int .i64 s.cr, .bool s.dn, s.kp, s.fs, .int .i64 s.sz, .int .i64 s.ca, .bool s.dw]

/-- Block b is a Disk that holds s. -/
def DiskC (w : World) (b : Nat) (s : DS) : Prop := w.heap[b]? = some (.cells s.cells 59 (0, 0))

/-- The block of cells b, in cells: what a walk wants. -/
theorem cells_of {w : World} {b : Nat} {cs : Array Value} {t : TypeId} (h : w.heap[b]? = some (.cells cs t (0, 0))) (j : Nat) (v : Value) (hj : cs[j]? = some v) : w.cell? ⟨b, j, none⟩ = some v := by
  simp only [World.cell?, h]
  simpa using hj
theorem free_of {w : World} {b : Nat} {cs : Array Value} {t : TypeId} (h : w.heap[b]? = some (.cells cs t (0, 0))) (j : Nat) : w.frozen? ⟨b, j, none⟩ = false := by
  simp [World.frozen?, h]
theorem lt_of {w : World} {b : Nat} {o : Obj} (h : w.heap[b]? = some o) : b < w.heap.size := (Array.getElem?_eq_some_iff.1 h).1
theorem heap_set_ne {w : World} {b c : Nat} {o : Option Obj} (h : w.heap[b]? = o) (hne : b ≠ c) (j : Nat) (v : Value) : (w.setCell ⟨c, j, none⟩ v).heap[b]? = o := by
  rw [← h]; exact Below.heap_setCell _ _ _ _ hne

/-- w' is w with new blocks, and with writes to the blocks of F alone. -/
structure Turn (F : List Nat) (w w' : World) : Prop where
  os : w'.os = w.os
  tape : w'.tape = w.tape
  output : w'.output = w.output
  size : w.heap.size ≤ w'.heap.size
  block : ∀ k, k < w.heap.size → k ∉ F → w'.heap[k]? = w.heap[k]?

/-- What was read is read where other blocks were written. -/
theorem Reads.turn {w w' : World} {v : Value} {xs : List Value} {F : List Nat} (h : Reads w v xs) (t : Turn F w w') (hF : xs ≠ [] → ∀ a n c, v = .slice (some a) n c → a.block ∉ F) : Reads w' v xs := by
  obtain ⟨ao, cap, rfl, h0, h1, h2⟩ := h
  refine ⟨ao, cap, rfl, h0, h1, fun a ha j u hj => ?_⟩
  have h3 := h2 a ha j u hj
  have hb : (a.add j).block = a.block := by unfold Addr.add; split <;> rfl
  have hlt := World.block_lt_of_cell? w _ h3
  rw [hb] at hlt
  rw [← h3]
  exact World.cell?_of_block (by rw [hb]; exact t.block a.block hlt (hF (by rintro rfl; cases hj) a _ _ (by rw [ha])))

theorem Reads.below_top {w w' : World} {v : Value} {xs : List Value} {B : Nat} (h : Reads w v xs) (hb : Below B w w') (hB : w.heap.size ≤ B) : Reads w' v xs := by
  obtain ⟨ao, cap, rfl, h0, h1, h2⟩ := h
  refine ⟨ao, cap, rfl, h0, h1, fun a ha j u hj => ?_⟩
  have h3 := h2 a ha j u hj
  have hlt := World.block_lt_of_cell? w _ h3
  rw [← h3]
  exact hb.cell (Nat.lt_of_lt_of_le hlt hB)

theorem Reads.lt {w : World} {v : Value} {xs : List Value} (h : Reads w v xs) (hx : xs ≠ []) : ∀ a n c, v = .slice (some a) n c → a.block < w.heap.size := by
  obtain ⟨ao, cap, rfl, h0, h1, h2⟩ := h
  intro a n c e
  simp only [Value.slice.injEq] at e
  match xs, hx with
  | u :: xs, _ =>
    have h3 := h2 a e.1 0 u rfl
    have hlt := World.block_lt_of_cell? w _ h3
    have hb : (a.add 0).block = a.block := by unfold Addr.add; split <;> rfl
    rw [hb] at hlt
    exact hlt

theorem Reads.taken {w : World} {ao : Option Addr} {len c : Nat} {xs : List Value} (h : Reads w (.slice ao len c) xs) (n : Nat) (hn : n ≤ len) : Reads w (.slice ao n c) (xs.take n) := by
  obtain ⟨ao', cap, e, h0, h1, h2⟩ := h
  simp only [Value.slice.injEq] at e
  obtain ⟨rfl, rfl, rfl⟩ := e
  refine ⟨ao, c, by simp [Nat.min_eq_left hn], by rw [List.length_take]; omega, fun e => ?_, fun a ha j u hj => ?_⟩
  · obtain ⟨h3, h4⟩ := h1 e
    exact ⟨by simp [h3], h4⟩
  · rw [List.getElem?_take] at hj
    split at hj
    · exact h2 a ha j u hj
    · cases hj

theorem Turn.refl (F : List Nat) (w : World) : Turn F w w := ⟨rfl, rfl, rfl, Nat.le_refl _, fun _ _ _ => rfl⟩
theorem Turn.of_grown {w w' : World} {row : Option Nat} {F : List Nat} (h : w.grownBy w' row) (hr : ∀ k, row = some k → k ∈ F) : Turn F w w' :=
  ⟨h.os, h.tape, h.output, h.size, fun k hk hn => h.block k hk (fun e => hn (hr k e.symm))⟩
theorem Turn.of_none {w w' : World} {F : List Nat} (h : w.grownBy w' none) : Turn F w w' := Turn.of_grown h (by intro k e; cases e)
/-- What is written in the second step is of F, or new since a. -/
theorem Turn.trans' {F G : List Nat} {a b c : World} (h : Turn F a b) (k : Turn G b c) (hG : ∀ x, x ∈ G → x ∈ F ∨ a.heap.size ≤ x) : Turn F a c :=
  ⟨k.os.trans h.os, k.tape.trans h.tape, k.output.trans h.output, Nat.le_trans h.size k.size, fun i hi hn =>
    (k.block i (Nat.lt_of_lt_of_le hi h.size) (fun hm => (hG i hm).elim hn (fun e => by omega))).trans (h.block i hi hn)⟩
theorem Turn.trans {F : List Nat} {a b c : World} (h : Turn F a b) (k : Turn F b c) : Turn F a c := h.trans' k fun _ hx => .inl hx
theorem Turn.mono {F G : List Nat} {a b : World} (h : Turn F a b) (hFG : ∀ x, x ∈ F → x ∈ G) : Turn G a b := ⟨h.os, h.tape, h.output, h.size, fun k hk hn => h.block k hk fun e => hn (hFG k e)⟩
theorem Turn.set {F : List Nat} {a w : World} (h : Turn F a w) {c : Nat} (hc : c ∈ F ∨ a.heap.size ≤ c) (j : Nat) (v : Value) : Turn F a (w.setCell ⟨c, j, none⟩ v) :=
  ⟨h.os, h.tape, h.output, by have := h.size; simpa [World.setCell] using this, fun i hi hn => (Below.heap_setCell _ _ _ _ (by show i ≠ c; rintro rfl; exact hc.elim hn (fun e => by omega))).trans (h.block i hi hn)⟩
theorem Turn.alloc {F : List Nat} {a w : World} (h : Turn F a w) (o : Obj) : Turn F a (w.alloc o) := h.trans (Turn.of_none (World.grownBy_alloc w o none))
theorem Turn.drew {F : List Nat} {a w : World} (h : Turn F a w) : Turn F a w.drew := ⟨h.os, h.tape, h.output, h.size, h.block⟩
theorem Turn.drewN {F : List Nat} {a w : World} (h : Turn F a w) (n : Nat) : Turn F a (w.drewN n) := ⟨h.os, h.tape, h.output, h.size, h.block⟩
theorem Turn.heap {F : List Nat} {a w : World} (h : Turn F a w) {k : Nat} {o : Obj} (hk : a.heap[k]? = some o) (hn : k ∉ F) : w.heap[k]? = some o := (h.block k (lt_of hk) hn).trans hk
theorem Turn.below {F : List Nat} {a w : World} (h : Turn F a w) {B : Nat} (hB : B ≤ a.heap.size) (hF : ∀ x, x ∈ F → B ≤ x) : Below B a w :=
  ⟨h.os, h.tape, h.output, h.size, fun k hk => h.block k (by omega) (fun e => by have := hF k e; omega)⟩

theorem DiskC.c0 {w : World} {b : Nat} {s : DS} (h : DiskC w b s) : w.cell? ⟨b, 0, none⟩ = some (.int .i64 s.cap) := cells_of h 0 _ rfl
theorem DiskC.c1 {w : World} {b : Nat} {s : DS} (h : DiskC w b s) : w.cell? ⟨b, 1, none⟩ = some (s.fl) := cells_of h 1 _ rfl
theorem DiskC.c2 {w : World} {b : Nat} {s : DS} (h : DiskC w b s) : w.cell? ⟨b, 2, none⟩ = some (.int .i64 s.cr) := cells_of h 2 _ rfl
theorem DiskC.c3 {w : World} {b : Nat} {s : DS} (h : DiskC w b s) : w.cell? ⟨b, 3, none⟩ = some (.bool s.dn) := cells_of h 3 _ rfl
theorem DiskC.c4 {w : World} {b : Nat} {s : DS} (h : DiskC w b s) : w.cell? ⟨b, 4, none⟩ = some (s.kp) := cells_of h 4 _ rfl
theorem DiskC.c5 {w : World} {b : Nat} {s : DS} (h : DiskC w b s) : w.cell? ⟨b, 5, none⟩ = some (s.fs) := cells_of h 5 _ rfl
theorem DiskC.c6 {w : World} {b : Nat} {s : DS} (h : DiskC w b s) : w.cell? ⟨b, 6, none⟩ = some (.int .i64 s.sz) := cells_of h 6 _ rfl
theorem DiskC.c7 {w : World} {b : Nat} {s : DS} (h : DiskC w b s) : w.cell? ⟨b, 7, none⟩ = some (.int .i64 s.ca) := cells_of h 7 _ rfl
theorem DiskC.c8 {w : World} {b : Nat} {s : DS} (h : DiskC w b s) : w.cell? ⟨b, 8, none⟩ = some (.bool s.dw) := cells_of h 8 _ rfl
theorem DiskC.free {w : World} {b : Nat} {s : DS} (h : DiskC w b s) (j : Nat) : w.frozen? ⟨b, j, none⟩ = false := free_of h j
theorem DiskC.lt {w : World} {b : Nat} {s : DS} (h : DiskC w b s) : b < w.heap.size := lt_of h
theorem DiskC.turn {F : List Nat} {w w' : World} {b : Nat} {s : DS} (h : DiskC w b s) (t : Turn F w w') (hb : b ∉ F) : DiskC w' b s := t.heap h hb
theorem DiskC.setNe {w : World} {b : Nat} {s : DS} (h : DiskC w b s) {c : Nat} (hc : b ≠ c) (j : Nat) (v : Value) : DiskC (w.setCell ⟨c, j, none⟩ v) b s := heap_set_ne h hc j v
theorem DiskC.set0 {w : World} {b : Nat} {s : DS} (h : DiskC w b s) (x : Int) : DiskC (w.setCell ⟨b, 0, none⟩ (.int .i64 x)) b { s with cap := x } := by
  have := heap_set h 0 (.int .i64 x)
  simpa [DiskC, DS.cells] using this
theorem DiskC.set1 {w : World} {b : Nat} {s : DS} (h : DiskC w b s) (x : Value) : DiskC (w.setCell ⟨b, 1, none⟩ (x)) b { s with fl := x } := by
  have := heap_set h 1 (x)
  simpa [DiskC, DS.cells] using this
theorem DiskC.set2 {w : World} {b : Nat} {s : DS} (h : DiskC w b s) (x : Int) : DiskC (w.setCell ⟨b, 2, none⟩ (.int .i64 x)) b { s with cr := x } := by
  have := heap_set h 2 (.int .i64 x)
  simpa [DiskC, DS.cells] using this
theorem DiskC.set3 {w : World} {b : Nat} {s : DS} (h : DiskC w b s) (x : Bool) : DiskC (w.setCell ⟨b, 3, none⟩ (.bool x)) b { s with dn := x } := by
  have := heap_set h 3 (.bool x)
  simpa [DiskC, DS.cells] using this
theorem DiskC.set4 {w : World} {b : Nat} {s : DS} (h : DiskC w b s) (x : Value) : DiskC (w.setCell ⟨b, 4, none⟩ (x)) b { s with kp := x } := by
  have := heap_set h 4 (x)
  simpa [DiskC, DS.cells] using this
theorem DiskC.set5 {w : World} {b : Nat} {s : DS} (h : DiskC w b s) (x : Value) : DiskC (w.setCell ⟨b, 5, none⟩ (x)) b { s with fs := x } := by
  have := heap_set h 5 (x)
  simpa [DiskC, DS.cells] using this
theorem DiskC.set6 {w : World} {b : Nat} {s : DS} (h : DiskC w b s) (x : Int) : DiskC (w.setCell ⟨b, 6, none⟩ (.int .i64 x)) b { s with sz := x } := by
  have := heap_set h 6 (.int .i64 x)
  simpa [DiskC, DS.cells] using this
theorem DiskC.set7 {w : World} {b : Nat} {s : DS} (h : DiskC w b s) (x : Int) : DiskC (w.setCell ⟨b, 7, none⟩ (.int .i64 x)) b { s with ca := x } := by
  have := heap_set h 7 (.int .i64 x)
  simpa [DiskC, DS.cells] using this
theorem DiskC.set8 {w : World} {b : Nat} {s : DS} (h : DiskC w b s) (x : Bool) : DiskC (w.setCell ⟨b, 8, none⟩ (.bool x)) b { s with dw := x } := by
  have := heap_set h 8 (.bool x)
  simpa [DiskC, DS.cells] using this

theorem begin_nf (b : Nat) (s : DS) (cap cr : Int) (dn : Bool) (kp : Value) (ks : List Int) (w : World) (hd : DiskC w b s) (hk : Reads w kp (iv ks)) (hz : ks.length * 8 ≤ 140737488355328)
    (hsort : ∀ w : World, Calls Tryz.prog 58 #[.slice none 0 0] w fun e w' => e = .returned (.tuple #[]) ∧ w = w') :
    Calls Tryz.prog 25 #[.pointer (some ⟨b, 0, none⟩), .agg #[.int .i64 cap, .slice none 0 0, .int .i64 cr, .bool dn, kp]] w fun e w' => e = .returned (.tuple #[]) ∧ ∃ kp',
      DiskC w' b { s with cap := cap, fl := .slice none 0 0, cr := cr, dn := dn, kp := kp', ca := 0, dw := false } ∧ w'.ownsRow w.heap.size 3 1 kp' ks.length (iv ks) ∧ Turn [b] w w' := by
  have hk1 := hk.alloc (.cells #[.int .i64 cap, .slice none 0 0, .int .i64 cr, .bool dn, kp] 29)
  have hbl := lt_of hd
  have HK : Hid (ks.length * 8 ≤ 140737488355328) := Lib.hid hz
  clear hz hk
  go_enter Tryz.func25, Tryz.ntmps25
  go_wp2_with (first | (go_at_call 57; ((with_reducible refine (copied_int_nil _).mono ?_); rintro e w' ⟨rfl, rfl⟩)) | (go_at_call 58; ((with_reducible refine (hsort _).mono ?_); rintro e w' ⟨rfl, rfl⟩)))
  refine (copied_int kp ks _ hk1 HK.out).mono ?_
  rintro e w2 ⟨ao', c', rfl, hown, hg⟩
  have hp : w2.heap[w.heap.size]? = some (.cells #[.int .i64 cap, .slice none 0 0, .int .i64 cr, .bool dn, kp] 29 (0, 0)) := by
    rw [hg.block w.heap.size (by simp) (by simp)]; exact heap_alloc_new _ _
  have hd2 : DiskC w2 b s := by
    unfold DiskC at *; rw [hg.block b (by simp; omega) (by simp), Below.heap_alloc _ _ _ hbl]; exact hd
  have p0 := cells_of hp 0 _ rfl
  have p1 := cells_of hp 1 _ rfl
  have p2 := cells_of hp 2 _ rfl
  have p3 := cells_of hp 3 _ rfl
  have p4 := cells_of hp 4 _ rfl
  have q4 := free_of hp 4
  have d0 := cells_of hd2 0 _ rfl
  have d1 := cells_of hd2 1 _ rfl
  have d2 := cells_of hd2 2 _ rfl
  have d3 := cells_of hd2 3 _ rfl
  have d4 := cells_of hd2 4 _ rfl
  have d7 := cells_of hd2 7 _ rfl
  have d8 := cells_of hd2 8 _ rfl
  have e0 := free_of hd2 0
  have e1 := free_of hd2 1
  have e2 := free_of hd2 2
  have e3 := free_of hd2 3
  have e4 := free_of hd2 4
  have e7 := free_of hd2 7
  have e8 := free_of hd2 8
  have hne : ¬ b = w.heap.size := by omega
  go_wp2_with fail
  go_end0
  have k1 := heap_set (heap_set (heap_set (heap_set (heap_set (heap_set (heap_set (heap_set_ne hd2 hne 4 (.slice ao' ks.length c')) 0 (.int .i64 cap)) 1 (.slice none 0 0)) 2 (.int .i64 cr)) 3 (.bool dn)) 4 (.slice ao' ks.length c')) 7 (.int .i64 0)) 8 (.bool false)
  have k2 : ∀ (j : Nat) (x : Value) (W : World), W.ownsRow (w.heap.size + 1) 3 1 (.slice ao' ks.length c') ks.length (iv ks) → (W.setCell ⟨b, j, none⟩ x).ownsRow (w.heap.size + 1) 3 1 (.slice ao' ks.length c') ks.length (iv ks) := fun j x W h => ownsRow_setCell_below h (by show b < _; omega) x
  have k0 : w.grownBy w2 none := grown_trans (World.grownBy_alloc _ _ _) hg
  refine ⟨rfl, _, ?_, owns_base (k2 _ _ _ (k2 _ _ _ (k2 _ _ _ (k2 _ _ _ (k2 _ _ _ (k2 _ _ _ (k2 _ _ _ (ownsRow_setCell_below (by simpa using hown) (by simp) _)))))))) (by omega), ?_⟩
  · simpa [DiskC, DS.cells] using k1
  · exact Turn.of_grown (grown_set (grown_set (grown_set (grown_set (grown_set (grown_set (grown_set (grown_set_new (grown_any k0 _) (Nat.le_refl _) _ _) _ _) _ _) _ _) _ _) _ _) _ _) _ _) (by intro k e; cases e; simp)

end Go.Proofs.YthglbmnhlnpmkaaGreat

namespace Go.Proofs.YthglbmnhlnpmkaaGreat
open Go.RowKit Go.Maps Go.Sort

theorem grown_of_below {w w' : World} (h : Below w.heap.size w w') : w.grownBy w' none := ⟨h.os, h.tape, h.output, h.size, fun k hk _ => h.block k hk⟩
theorem below_of_grown {w w' : World} (h : w.grownBy w' none) : Below w.heap.size w w' := ⟨h.os, h.tape, h.output, h.size, fun k hk => h.block k hk (by simp)⟩

set_option maxHeartbeats 1000000 in
theorem names_some {H : Type} (b m nn : Nat) (s : DS) (D0 : DataW H) (R : Value → Option (DataW H × List MemPlace)) (w : World) (hd : DiskC w b s) (hs : s.fs = .map (some m)) (hown : w.ownsMap Tryz.prog 9 R m nn D0)
    (hmax : Maps.size D0 ≤ maxLen) (hbytes : Maps.size D0 * 16 ≤ 140737488355328) :
    Calls Tryz.prog 26 #[.pointer (some ⟨b, 0, none⟩)] w fun e w' => ∃ (v : Value) (ss : List (List UInt8)), e = .returned v ∧ ss.Perm (strKeys D0) ∧
      w'.ownsRow w.heap.size 9 1 v ss.length ((ss.mergeSort (fun x y => decide (x ≤ y))).map encStr) ∧ (v = .slice none 0 0 ↔ ss = []) ∧ w.grownBy w' none := by
  have c5 := cells_of hd 5 (.map (some m)) (by simp [DS.cells, hs])
  have H1 : Hid (Maps.size D0 ≤ maxLen) := Lib.hid hmax
  have H2 : Hid (Maps.size D0 * 16 ≤ 140737488355328) := Lib.hid hbytes
  clear hmax hbytes hs hd
  go_enter Tryz.func26, Tryz.ntmps26
  go_wp2_with (first
    | (go_at_call 60; refine (callsIn_wide.1 (Tryz.maps_Keys_60 _ _)).mono ?_; rintro e w' ⟨rfl, rfl⟩)
    | (go_at_call 59; refine (callsIn_wide.1 (Tryz.slices_Sorted_keys_59_60 m nn D0 R w hown H1.out H2.out)).mono ?_; rintro e w' ⟨v, ss, rfl, hS, hrow, hnil, hb⟩))
  go_ret
  exact ⟨v, ss, rfl, hS, owns_base hrow (by simp), hnil, grown_of_below (((Below.refl _ w).alloc (Nat.le_refl _) _).trans (hb.mono (by simp)))⟩

set_option maxHeartbeats 1000000 in
theorem names_none (b : Nat) (s : DS) (w : World) (hd : DiskC w b s) (hs : s.fs = .map none) :
    Calls Tryz.prog 26 #[.pointer (some ⟨b, 0, none⟩)] w fun e w' => e = .returned (.slice none 0 0) ∧ w.grownBy w' none := by
  have c5 := cells_of hd 5 (.map none) (by simp [DS.cells, hs])
  clear hs hd
  go_enter Tryz.func26, Tryz.ntmps26
  go_wp2_with (first
    | (go_at_call 60; refine (callsIn_wide.1 (Tryz.maps_Keys_60 _ _)).mono ?_; rintro e w' ⟨rfl, rfl⟩)
    | (go_at_call 59; refine (callsIn_wide.1 (Tryz.slices_Sorted_keys_nil_59_60 w)).mono ?_; rintro e w' ⟨v, ss, rfl, hS, hrow, hnil, hb⟩))
  go_ret
  exact ⟨by rw [hnil.2 hS]; rfl, grown_of_below (((Below.refl _ w).alloc (Nat.le_refl _) _).trans (hb.mono (by simp)))⟩

/-- A file's two cells. -/
def FileC (w : World) (f : Nat) (v : Value) (sy : Int) : Prop := w.heap[f]? = some (.cells #[v, .int .i64 sy] 67 (0, 0))

theorem FileC.c0 {w : World} {f : Nat} {v : Value} {sy : Int} (h : FileC w f v sy) : w.cell? ⟨f, 0, none⟩ = some v := cells_of h 0 _ rfl
theorem FileC.c1 {w : World} {f : Nat} {v : Value} {sy : Int} (h : FileC w f v sy) : w.cell? ⟨f, 1, none⟩ = some (.int .i64 sy) := cells_of h 1 _ rfl
theorem FileC.free {w : World} {f : Nat} {v : Value} {sy : Int} (h : FileC w f v sy) (j : Nat) : w.frozen? ⟨f, j, none⟩ = false := free_of h j
theorem FileC.lt {w : World} {f : Nat} {v : Value} {sy : Int} (h : FileC w f v sy) : f < w.heap.size := lt_of h
theorem FileC.turn {F : List Nat} {w w' : World} {f : Nat} {v : Value} {sy : Int} (h : FileC w f v sy) (t : Turn F w w') (hb : f ∉ F) : FileC w' f v sy := t.heap h hb
theorem FileC.setNe {w : World} {f : Nat} {v : Value} {sy : Int} (h : FileC w f v sy) {c : Nat} (hc : f ≠ c) (j : Nat) (x : Value) : FileC (w.setCell ⟨c, j, none⟩ x) f v sy := heap_set_ne h hc j x
theorem FileC.set0 {w : World} {f : Nat} {v : Value} {sy : Int} (h : FileC w f v sy) (x : Value) : FileC (w.setCell ⟨f, 0, none⟩ x) f x sy := by
  have := heap_set h 0 x
  simpa [FileC] using this
theorem FileC.set1 {w : World} {f : Nat} {v : Value} {sy : Int} (h : FileC w f v sy) (x : Int) : FileC (w.setCell ⟨f, 1, none⟩ (.int .i64 x)) f v x := by
  have := heap_set h 1 (.int .i64 x)
  simpa [FileC] using this

theorem shorten_any (b f : Nat) (s : DS) (ao : Option Addr) (len cap : Nat) (sy : Int) (n : Nat) (w : World) (hd : DiskC w b s) (hf : FileC w f (.slice ao len cap) sy) (hn : n ≤ len) (hc : len ≤ cap) (_hm : cap ≤ 9223372036854775807) (hne : b ≠ f)
    (hs0 : (len : Int) - n ≤ s.sz) (hs1 : s.sz ≤ 9223372036854775807) :
    Calls Tryz.prog 27 #[.pointer (some ⟨b, 0, none⟩), .pointer (some ⟨f, 0, none⟩), .int .i64 n] w fun e w' => e = .returned (.tuple #[]) ∧
      DiskC w' b { s with sz := s.sz - (len - n) } ∧ FileC w' f (.slice ao n cap) (min sy n) ∧ Turn [b, f] w w' := by
  have d6 := hd.c6
  have e6 := hd.free 6
  have f0 := cells_of hf 0 (.slice ao len cap) rfl
  have f1 := cells_of hf 1 (.int .i64 sy) rfl
  have g0 := free_of hf 0
  have g1 := free_of hf 1
  have hne' : ¬ b = f := hne
  have hne2 : ¬ f = b := fun h => hne h.symm
  go_enter Tryz.func27, Tryz.ntmps27
  go_wp2
  go_region
  all_goals go_wp2
  all_goals go_end0
  have k1 : DiskC (w.setCell ⟨b, 6, none⟩ (.int .i64 (s.sz - (len - n)))) b { s with sz := s.sz - (len - n) } := hd.set6 _
  have k2 : FileC (w.setCell ⟨b, 6, none⟩ (.int .i64 (s.sz - (len - n)))) f (.slice ao len cap) sy := hf.setNe hne2 _ _
  exact ⟨rfl, (k1.setNe hne 0 _).setNe hne 1 _, (k2.set0 _).set1 _, ((((Turn.refl _ _).set (.inl (by simp)) _ _).set (.inl (by simp)) _ _).set (.inl (by simp)) _ _).drew⟩

end Go.Proofs.YthglbmnhlnpmkaaGreat
