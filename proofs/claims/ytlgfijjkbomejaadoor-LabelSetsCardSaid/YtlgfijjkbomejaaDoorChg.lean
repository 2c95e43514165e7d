/- What is written: some blocks, and new ones. Numbers and types by name. -/
import Derived.Test.YtlgfijjkbomejaaDoorCel
/- Lists of tokens that are read, and own ones. Numbers and types by name. -/
namespace Go.Proofs.YtlgfijjkbomejaaDoor
open Go.RowKit Go.Lib
set_option maxRecDepth 100000

def tv (o : Tk) : List Value := [.int .i64 o.kind, .string (tx o.text), .int .i64 (o.pos : Int)]
def tvs (L : List Tk) : List Value := L.flatMap tv
theorem tvs_length (L : List Tk) : (tvs L).length = L.length * 3 := by
  induction L with
  | nil => rfl
  | cons o L ih => simp only [tvs, List.flatMap_cons, List.length_append, List.length_cons] at *; rw [ih]; simp [tv]; omega
theorem tvs_snoc (L : List Tk) (o : Tk) : tvs (L ++ [o]) = tvs L ++ tv o := by simp [tvs]
theorem tvs_at {L : List Tk} {k : Nat} {o : Tk} (h : L[k]? = some o) (j : Nat) (hj : j < 3) : (tvs L)[k * 3 + j]? = (tv o)[j]? := by
  induction L generalizing k with
  | nil => cases h
  | cons p L ih =>
    have e : tvs (p :: L) = tv p ++ tvs L := by simp [tvs]
    cases k with
    | zero =>
      simp only [List.getElem?_cons_zero, Option.some.injEq] at h
      subst h
      rw [e, Nat.zero_mul, Nat.zero_add, List.getElem?_append_left (by simp [tv]; omega)]
    | succ k =>
      rw [List.getElem?_cons_succ] at h
      rw [e, List.getElem?_append_right (by simp [tv]; omega), ← ih h]
      congr 1
      simp [tv]; omega

/-- A list of tokens can be read. -/
def Tkr (w : World) (v : Value) (n : Nat) (L : List Tk) : Prop := n = L.length ∧ n ≤ 100000 ∧ Cells w v 3 n (tvs L)
theorem Tkr.shape {w : World} {v : Value} {n : Nat} {L : List Tk} (h : Tkr w v n L) : ∃ ao c, v = .slice ao n c := by
  obtain ⟨_, _, ao, c, rfl, _⟩ := h
  exact ⟨ao, c, rfl⟩
theorem Tkr.later {w w' : World} {v : Value} {n : Nat} {L : List Tk} (h : Tkr w v n L) (hg : Grow w w') : Tkr w' v n L := ⟨h.1, h.2.1, h.2.2.later hg⟩
theorem Tkr.nil (w : World) : Tkr w (.slice none 0 0) 0 [] := ⟨rfl, Nat.zero_le _, none, 0, rfl, rfl, Nat.le_refl _, fun _ => ⟨rfl, rfl⟩, fun a h => by cases h⟩
theorem Tkr.at {w : World} {ao : Option Addr} {n c : Nat} {L : List Tk} (h : Tkr w (.slice ao n c) n L) {k : Nat} (hk : k < n) :
    ∃ a o, ao = some a ∧ L[k]? = some o ∧ w.cell? (a.add (k * 3)) = some (.int .i64 o.kind) ∧ w.cell? ⟨(a.add (k * 3)).block, (a.add (k * 3)).off + 1, none⟩ = some (.string (tx o.text)) ∧ w.cell? ⟨(a.add (k * 3)).block, (a.add (k * 3)).off + 2, none⟩ = some (.int .i64 (o.pos : Int)) := by
  obtain ⟨h1, h2, ao', c', e, h0, hnc, hn, hc⟩ := h
  simp only [Value.slice.injEq] at e
  obtain ⟨rfl, _, rfl⟩ := e
  have hx : L[k]? = some (L[k]'(by omega)) := List.getElem?_eq_getElem (by omega)
  generalize L[k]'(by omega) = o at hx
  cases ao with
  | none => have := (hn rfl).1; omega
  | some a =>
    refine ⟨a, o, rfl, hx, ?_, ?_, ?_⟩
    · exact hc a rfl (k * 3) _ (by have := tvs_at hx 0 (by omega); rw [Nat.add_zero] at this; rw [this]; rfl)
    · have := hc a rfl _ _ (show (tvs L)[k * 3 + 1]? = some (.string (tx o.text)) by rw [tvs_at hx 1 (by omega)]; rfl)
      rw [← Addr.add_add] at this
      exact this
    · have := hc a rfl _ _ (show (tvs L)[k * 3 + 2]? = some (.int .i64 (o.pos : Int)) by rw [tvs_at hx 2 (by omega)]; rfl)
      rw [← Addr.add_add] at this
      exact this
theorem elemTok : Elem 73 80 (.agg #[.int .i64 0, .string ⟨#[]⟩, .int .i64 0]) 3 32 := ⟨Tryd.underlying73, by kernel_rfl, by decide, by decide⟩
/-- Tokens' own row. -/
def OwnT (w : World) (base : Nat) (v : Value) (n : Nat) (L : List Tk) : Prop := n = L.length ∧ w.ownsRow base 80 3 v n (tvs L)
theorem OwnT.nil (w : World) (base : Nat) : OwnT w base (.slice none 0 0) 0 [] := ⟨rfl, World.ownsRow_nil _ _ _ _⟩
theorem OwnT.read {w : World} {base : Nat} {v : Value} {n : Nat} {L : List Tk} (h : OwnT w base v n L) (hn : n ≤ 100000) : Tkr w v n L := ⟨h.1, hn, Cells.own h.2 (by decide)⟩
theorem tv_one (o : Tk) : ∀ u ∈ tv o, u.oneCell' = true := by
  intro u hu
  simp only [tv, List.mem_cons, List.not_mem_nil, or_false] at hu
  rcases hu with rfl | rfl | rfl <;> rfl
theorem tok_lit (w : World) (o : Tk) : Cells (w.alloc (.cells #[.int .i64 o.kind, .string (tx o.text), .int .i64 (o.pos : Int)] 80)) (.slice (some ⟨w.heap.size, 0, none⟩) 1 1) 3 1 (tv o) := Cells.lit w (tv o) 80 (0, 0) 3 1 rfl

end Go.Proofs.YtlgfijjkbomejaaDoor

namespace Go.Proofs.YtlgfijjkbomejaaDoor
open Go.RowKit Go.Lib

/-- w' is w with new blocks, and with writes to the blocks of F alone. -/
structure Chg (F : List Nat) (w w' : World) : Prop where
  os : w'.os = w.os
  tape : w'.tape = w.tape
  output : w'.output = w.output
  size : w.heap.size ≤ w'.heap.size
  block : ∀ k, k < w.heap.size → k ∉ F → w'.heap[k]? = w.heap[k]?
theorem Chg.refl (F : List Nat) (w : World) : Chg F w w := ⟨rfl, rfl, rfl, Nat.le_refl _, fun _ _ _ => rfl⟩
theorem Chg.of_grown {w w' : World} {row : Option Nat} {F : List Nat} (h : w.grownBy w' row) (hr : ∀ k, row = some k → k ∈ F) : Chg F w w' :=
  ⟨h.os, h.tape, h.output, h.size, fun k hk hn => h.block k hk (fun e => hn (hr k e.symm))⟩
theorem Chg.of_none {w w' : World} {F : List Nat} (h : w.grownBy w' none) : Chg F w w' := Chg.of_grown h (by intro k e; cases e)
/-- What is written in the second step is of F, or new since a. -/
theorem Chg.trans' {F G : List Nat} {a b c : World} (h : Chg F a b) (k : Chg G b c) (hG : ∀ x, x ∈ G → x ∈ F ∨ a.heap.size ≤ x) : Chg F a c :=
  ⟨k.os.trans h.os, k.tape.trans h.tape, k.output.trans h.output, Nat.le_trans h.size k.size, fun i hi hn =>
    (k.block i (Nat.lt_of_lt_of_le hi h.size) (fun hm => (hG i hm).elim hn (fun e => by omega))).trans (h.block i hi hn)⟩
theorem Chg.trans {F : List Nat} {a b c : World} (h : Chg F a b) (k : Chg F b c) : Chg F a c := h.trans' k fun _ hx => .inl hx
theorem Chg.mono {F G : List Nat} {a b : World} (h : Chg F a b) (hFG : ∀ x, x ∈ F → x ∈ G) : Chg G a b := ⟨h.os, h.tape, h.output, h.size, fun k hk hn => h.block k hk fun e => hn (hFG k e)⟩
theorem Chg.set {F : List Nat} {a w : World} (h : Chg F a w) {c : Nat} (hc : c ∈ F ∨ a.heap.size ≤ c) (j : Nat) (v : Value) : Chg F a (w.setCell ⟨c, j, none⟩ v) :=
  ⟨h.os, h.tape, h.output, by have := h.size; simpa [World.setCell] using this, fun i hi hn => (Below.heap_setCell _ _ _ _ (by show i ≠ c; rintro rfl; exact hc.elim hn (fun e => by omega))).trans (h.block i hi hn)⟩
theorem Chg.alloc {F : List Nat} {a w : World} (h : Chg F a w) (o : Obj) : Chg F a (w.alloc o) := h.trans (Chg.of_none (World.grownBy_alloc w o none))
theorem Chg.drew {F : List Nat} {a w : World} (h : Chg F a w) : Chg F a w.drew := ⟨h.os, h.tape, h.output, h.size, h.block⟩
theorem Chg.drewN {F : List Nat} {a w : World} (h : Chg F a w) (n : Nat) : Chg F a (w.drewN n) := ⟨h.os, h.tape, h.output, h.size, h.block⟩
theorem Chg.below {F : List Nat} {a w : World} (h : Chg F a w) {B : Nat} (hB : B ≤ a.heap.size) (hF : ∀ x, x ∈ F → B ≤ x) : Below B a w :=
  ⟨h.os, h.tape, h.output, h.size, fun k hk => h.block k (by omega) (fun e => by have := hF k e; omega)⟩
theorem Chg.of_below {F : List Nat} {a w : World} (h : Below a.heap.size a w) : Chg F a w := ⟨h.os, h.tape, h.output, h.size, fun k hk _ => h.block k hk⟩
theorem Chg.cell {F : List Nat} {a w : World} (h : Chg F a w) {x : Addr} {v : Value} (hv : a.cell? x = some v) (hn : x.block ∉ F) : w.cell? x = some v :=
  (World.cell?_of_block (h.block _ (World.block_lt_of_cell? a _ hv) hn)).trans hv
theorem Chg.frozen {F : List Nat} {a w : World} (h : Chg F a w) {x : Addr} {v : Value} (hv : a.cell? x = some v) (hn : x.block ∉ F) : w.frozen? x = a.frozen? x :=
  World.frozen?_of_block (h.block _ (World.block_lt_of_cell? a _ hv) hn)
theorem cellsN {w : World} {b : Nat} {cs : Array Value} {t : TypeId} (h : w.heap[b]? = some (.cells cs t (0, 0))) (j : Nat) (v : Value) (hj : cs[j]? = some v) : w.cell? ⟨b, j, none⟩ = some v := by
  simp only [World.cell?, h]
  simpa using hj

end Go.Proofs.YtlgfijjkbomejaaDoor
