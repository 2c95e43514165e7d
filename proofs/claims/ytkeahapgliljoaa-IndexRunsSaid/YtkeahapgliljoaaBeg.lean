/- The disk's own block of nine cells; 'begin', 'New'. Numbers and types by name. -/
import Derived.Test.YtkeahapgliljoaaCop
import Derived.Test.YtkeahapgliljoaaBel
namespace Go.Proofs.Ytkeahapgliljoaa
open Go.RowKit

/-- What stands in a Disk's nine cells. -/
structure DS where
  cap : Int
  cr : Int
  sz : Int
  ca : Int
  dn : Bool
  dw : Bool
  fl : Value
  kp : Value
  fs : Value

def DS.cells (s : DS) : Array Value := #[.int .i64 s.cap, s.fl, .int .i64 s.cr, .bool s.dn, s.kp, s.fs, .int .i64 s.sz, .int .i64 s.ca, .bool s.dw]

/-- The block of cells b, in cells: what a walk wants. -/
theorem cells_of {w : World} {b : Nat} {cs : Array Value} {t : TypeId} (h : w.heap[b]? = some (.cells cs t (0, 0))) (j : Nat) (v : Value) (hj : cs[j]? = some v) : w.cell? ⟨b, j, none⟩ = some v := by
  simp only [World.cell?, h]
  simpa using hj
theorem free_of {w : World} {b : Nat} {cs : Array Value} {t : TypeId} (h : w.heap[b]? = some (.cells cs t (0, 0))) (j : Nat) : w.frozen? ⟨b, j, none⟩ = false := by
  simp [World.frozen?, h]
theorem lt_of {w : World} {b : Nat} {o : Obj} (h : w.heap[b]? = some o) : b < w.heap.size := (Array.getElem?_eq_some_iff.1 h).1
theorem heap_set_ne {w : World} {b c : Nat} {o : Option Obj} (h : w.heap[b]? = o) (hne : b ≠ c) (j : Nat) (v : Value) : (w.setCell ⟨c, j, none⟩ v).heap[b]? = o := by
  rw [← h]; exact Below.heap_setCell _ _ _ _ hne

/-- w' is w with new blocks, and with writes to the blocks of F alone. -/
structure Turn (F : List Nat) (w w' : World) : Prop where
  os : w'.os = w.os
  tape : w'.tape = w.tape
  output : w'.output = w.output
  size : w.heap.size ≤ w'.heap.size
  block : ∀ k, k < w.heap.size → k ∉ F → w'.heap[k]? = w.heap[k]?

/-- What was read is read where other blocks were written. -/
theorem Reads.turn {w w' : World} {v : Value} {xs : List Value} {F : List Nat} (h : Reads w v xs) (t : Turn F w w') (hF : xs ≠ [] → ∀ a n c, v = .slice (some a) n c → a.block ∉ F) : Reads w' v xs := by
  obtain ⟨ao, cap, rfl, h0, h1, h2⟩ := h
  refine ⟨ao, cap, rfl, h0, h1, fun a ha j u hj => ?_⟩
  have h3 := h2 a ha j u hj
  have hb : (a.add j).block = a.block := by unfold Addr.add; split <;> rfl
  have hlt := World.block_lt_of_cell? w _ h3
  rw [hb] at hlt
  rw [← h3]
  exact World.cell?_of_block (by rw [hb]; exact t.block a.block hlt (hF (by rintro rfl; cases hj) a _ _ (by rw [ha])))

theorem Reads.below_top {w w' : World} {v : Value} {xs : List Value} {B : Nat} (h : Reads w v xs) (hb : Below B w w') (hB : w.heap.size ≤ B) : Reads w' v xs := by
  obtain ⟨ao, cap, rfl, h0, h1, h2⟩ := h
  refine ⟨ao, cap, rfl, h0, h1, fun a ha j u hj => ?_⟩
  have h3 := h2 a ha j u hj
  have hlt := World.block_lt_of_cell? w _ h3
  rw [← h3]
  exact hb.cell (Nat.lt_of_lt_of_le hlt hB)

theorem Reads.lt {w : World} {v : Value} {xs : List Value} (h : Reads w v xs) (hx : xs ≠ []) : ∀ a n c, v = .slice (some a) n c → a.block < w.heap.size := by
  obtain ⟨ao, cap, rfl, h0, h1, h2⟩ := h
  intro a n c e
  simp only [Value.slice.injEq] at e
  match xs, hx with
  | u :: xs, _ =>
    have h3 := h2 a e.1 0 u rfl
    have hlt := World.block_lt_of_cell? w _ h3
    have hb : (a.add 0).block = a.block := by unfold Addr.add; split <;> rfl
    rw [hb] at hlt
    exact hlt

theorem Reads.taken {w : World} {ao : Option Addr} {len c : Nat} {xs : List Value} (h : Reads w (.slice ao len c) xs) (n : Nat) (hn : n ≤ len) : Reads w (.slice ao n c) (xs.take n) := by
  obtain ⟨ao', cap, e, h0, h1, h2⟩ := h
  simp only [Value.slice.injEq] at e
  obtain ⟨rfl, rfl, rfl⟩ := e
  refine ⟨ao, c, by simp [Nat.min_eq_left hn], by rw [List.length_take]; omega, fun e => ?_, fun a ha j u hj => ?_⟩
  · obtain ⟨h3, h4⟩ := h1 e
    exact ⟨by simp [h3], h4⟩
  · rw [List.getElem?_take] at hj
    split at hj
    · exact h2 a ha j u hj
    · cases hj

theorem Turn.refl (F : List Nat) (w : World) : Turn F w w := ⟨rfl, rfl, rfl, Nat.le_refl _, fun _ _ _ => rfl⟩
theorem Turn.of_grown {w w' : World} {row : Option Nat} {F : List Nat} (h : w.grownBy w' row) (hr : ∀ k, row = some k → k ∈ F) : Turn F w w' :=
  ⟨h.os, h.tape, h.output, h.size, fun k hk hn => h.block k hk (fun e => hn (hr k e.symm))⟩
theorem Turn.of_none {w w' : World} {F : List Nat} (h : w.grownBy w' none) : Turn F w w' := Turn.of_grown h (by intro k e; cases e)
/-- What is written in the second step is of F, or new since a. -/
theorem Turn.trans' {F G : List Nat} {a b c : World} (h : Turn F a b) (k : Turn G b c) (hG : ∀ x, x ∈ G → x ∈ F ∨ a.heap.size ≤ x) : Turn F a c :=
  ⟨k.os.trans h.os, k.tape.trans h.tape, k.output.trans h.output, Nat.le_trans h.size k.size, fun i hi hn =>
    (k.block i (Nat.lt_of_lt_of_le hi h.size) (fun hm => (hG i hm).elim hn (fun e => by omega))).trans (h.block i hi hn)⟩
theorem Turn.trans {F : List Nat} {a b c : World} (h : Turn F a b) (k : Turn F b c) : Turn F a c := h.trans' k fun _ hx => .inl hx
theorem Turn.mono {F G : List Nat} {a b : World} (h : Turn F a b) (hFG : ∀ x, x ∈ F → x ∈ G) : Turn G a b := ⟨h.os, h.tape, h.output, h.size, fun k hk hn => h.block k hk fun e => hn (hFG k e)⟩
theorem Turn.set {F : List Nat} {a w : World} (h : Turn F a w) {c : Nat} (hc : c ∈ F ∨ a.heap.size ≤ c) (j : Nat) (v : Value) : Turn F a (w.setCell ⟨c, j, none⟩ v) :=
  ⟨h.os, h.tape, h.output, by have := h.size; simpa [World.setCell] using this, fun i hi hn => (Below.heap_setCell _ _ _ _ (by show i ≠ c; rintro rfl; exact hc.elim hn (fun e => by omega))).trans (h.block i hi hn)⟩
theorem Turn.alloc {F : List Nat} {a w : World} (h : Turn F a w) (o : Obj) : Turn F a (w.alloc o) := h.trans (Turn.of_none (World.grownBy_alloc w o none))
theorem Turn.drew {F : List Nat} {a w : World} (h : Turn F a w) : Turn F a w.drew := ⟨h.os, h.tape, h.output, h.size, h.block⟩
theorem Turn.drewN {F : List Nat} {a w : World} (h : Turn F a w) (n : Nat) : Turn F a (w.drewN n) := ⟨h.os, h.tape, h.output, h.size, h.block⟩
theorem Turn.heap {F : List Nat} {a w : World} (h : Turn F a w) {k : Nat} {o : Obj} (hk : a.heap[k]? = some o) (hn : k ∉ F) : w.heap[k]? = some o := (h.block k (lt_of hk) hn).trans hk
theorem Turn.below {F : List Nat} {a w : World} (h : Turn F a w) {B : Nat} (hB : B ≤ a.heap.size) (hF : ∀ x, x ∈ F → B ≤ x) : Below B a w :=
  ⟨h.os, h.tape, h.output, h.size, fun k hk => h.block k (by omega) (fun e => by have := hF k e; omega)⟩

end Go.Proofs.Ytkeahapgliljoaa
