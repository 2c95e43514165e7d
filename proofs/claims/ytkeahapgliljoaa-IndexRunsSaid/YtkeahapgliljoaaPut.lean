/- The reference's put: a pair into a list by rising keys. Numbers and types by name. -/
import Derived.Test.YtkeahapgliljoaaPrf
import Derived.StillTailTactics
namespace Go.Proofs.Ytkeahapgliljoaa
open Go.RowKit Go.Lib Go.Sort

/-- A pair into a list by rising keys. -/
def putP (x : Prm) : List Prm → List Prm
  | [] => [x]
  | y :: l => if kOf y < kOf x then y :: putP x l else if kOf y = kOf x then x :: l else x :: y :: l

theorem put_here {L : List Prm} {x y : Prm} {k : Nat} (h1 : ∀ j, j < k → ∀ z, L[j]? = some z → kOf z < kOf x) (hy : L[k]? = some y) (he : kOf y = kOf x) : putP x L = L.set k x := by
  induction L generalizing k with
  | nil => cases hy
  | cons a l ih =>
    cases k with
    | zero =>
      cases hy
      unfold putP
      rw [if_neg (by rw [he]; exact List.lt_irrefl _), if_pos he]
      rfl
    | succ k =>
      have h0 := h1 0 (by omega) a rfl
      unfold putP
      rw [if_pos h0, ih (k := k) (fun j hj z hz => h1 (j + 1) (by omega) z (by simpa using hz)) (by simpa using hy)]
      rfl
theorem put_at {L : List Prm} {x : Prm} {k : Nat} (hk : k ≤ L.length) (h1 : ∀ j, j < k → ∀ z, L[j]? = some z → kOf z < kOf x) (h2 : ∀ y, L[k]? = some y → ¬ kOf y < kOf x ∧ kOf y ≠ kOf x) : putP x L = L.take k ++ x :: L.drop k := by
  induction L generalizing k with
  | nil =>
    have : k = 0 := by simpa using hk
    subst this
    rfl
  | cons a l ih =>
    cases k with
    | zero =>
      have h0 := h2 a rfl
      unfold putP
      rw [if_neg h0.1, if_neg h0.2]
      rfl
    | succ k =>
      have h0 := h1 0 (by omega) a rfl
      unfold putP
      rw [if_pos h0, ih (k := k) (by simpa using hk) (fun j hj z hz => h1 (j + 1) (by omega) z (by simpa using hz)) (fun y hy => h2 y (by simpa using hy))]
      rfl

/-- While elements move up: the place p is free. -/
def movedP {α : Type} (b : α) (fs : List α) (p : Nat) : List α := (fs ++ [b]).take (p + 1) ++ fs.drop p
theorem movedP_length {α : Type} {b : α} (fs : List α) {p : Nat} (h : p ≤ fs.length) : (movedP b fs p).length = fs.length + 1 := by
  simp only [movedP, List.length_append, List.length_take, List.length_drop, List.length_cons, List.length_nil]; omega
theorem movedP_start {α : Type} {b : α} (fs : List α) : movedP b fs fs.length = fs ++ [b] := by
  unfold movedP
  rw [List.take_of_length_le (by simp), List.drop_length, List.append_nil]
theorem movedP_below {α : Type} {b : α} {fs : List α} {p j : Nat} (hp : p ≤ fs.length) (hj : j < p) : (movedP b fs p)[j]? = fs[j]? := by
  unfold movedP
  rw [List.getElem?_append_left (by simp; omega), List.getElem?_take, if_pos (by omega), List.getElem?_append_left (by omega)]
theorem movedP_step {α : Type} {b : α} {fs : List α} {p : Nat} {y : α} (hp : p + 1 ≤ fs.length) (hy : fs[p]? = some y) : (movedP b fs (p + 1)).set (p + 1) y = movedP b fs p := by
  unfold movedP
  have hd : fs.drop p = y :: fs.drop (p + 1) := by
    rw [← List.getElem_cons_drop (h := by omega)]
    congr 1
    have := List.getElem?_eq_getElem (l := fs) (i := p) (by omega)
    rw [hy] at this
    exact (Option.some.inj this).symm
  rw [hd]
  apply List.ext_getElem?
  intro i
  rw [List.getElem?_set]
  by_cases h1 : p + 1 = i
  · subst h1
    rw [if_pos rfl, if_pos (by simp; omega), List.getElem?_append_right (by simp; omega)]
    simp only [List.length_take, List.length_append, List.length_cons, List.length_nil]
    rw [show p + 1 - min (p + 1) (fs.length + (0 + 1)) = 0 by omega]
    rfl
  · rw [if_neg h1]
    by_cases h2 : i < p + 1
    · rw [List.getElem?_append_left (by simp; omega), List.getElem?_append_left (by simp; omega), List.getElem?_take, List.getElem?_take, if_pos (by omega), if_pos (by omega)]
    · rw [List.getElem?_append_right (by simp; omega), List.getElem?_append_right (by simp; omega)]
      simp only [List.length_take, List.length_append, List.length_cons, List.length_nil]
      rw [show i - min (p + 1) (fs.length + (0 + 1)) = (i - min (p + 1 + 1) (fs.length + (0 + 1))) + 1 by omega]
      rw [List.getElem?_cons_succ]
theorem movedP_end {α : Type} {b : α} {fs : List α} {p : Nat} (x : α) (hp : p ≤ fs.length) : (movedP b fs p).set p x = fs.take p ++ x :: fs.drop p := by
  unfold movedP
  apply List.ext_getElem?
  intro i
  rw [List.getElem?_set]
  by_cases h1 : p = i
  · subst h1
    rw [if_pos rfl, if_pos (by simp; omega), List.getElem?_append_right (by simp; omega)]
    simp [Nat.min_eq_left hp]
  · rw [if_neg h1]
    by_cases h2 : i < p
    · rw [List.getElem?_append_left (by simp; omega), List.getElem?_append_left (by simp; omega), List.getElem?_take, List.getElem?_take, if_pos (by omega), if_pos (by omega), List.getElem?_append_left (by omega)]
    · rw [List.getElem?_append_right (by simp; omega), List.getElem?_append_right (by simp; omega)]
      simp only [List.length_take, List.length_append, List.length_cons, List.length_nil]
      rw [show i - min p fs.length = (i - min (p + 1) (fs.length + (0 + 1))) + 1 by omega]
      rw [List.getElem?_cons_succ]

theorem pvs_set {L : List Prm} {k : Nat} (y : Prm) (hk : k < L.length) : pvs (L.set k y) = ((pvs L).set (k * 2) (.string y.key)).set (k * 2 + 1) (.string y.val) := by
  induction L generalizing k with
  | nil => simp at hk
  | cons a l ih =>
    have e : ∀ (p : Prm) (l : List Prm), pvs (p :: l) = .string p.key :: .string p.val :: pvs l := fun p l => by simp [pvs, pv]
    cases k with
    | zero => simp [e]
    | succ k =>
      rw [List.set_cons_succ, e, e, ih (by simpa using hk), show (k + 1) * 2 = k * 2 + 1 + 1 by omega]
      simp

theorem own_set {w : World} {base e size g n c : Nat} {xs : List Value} (h : w.ownsRow base e size (.slice (some ⟨g, 0, none⟩) n c) n xs) (j : Nat) (v : Value) :
    (w.setCell ⟨g, j, none⟩ v).ownsRow base e size (.slice (some ⟨g, 0, none⟩) n c) n (xs.set j v) := by
  obtain ⟨h1, h2 | ⟨g', cap, cur, e, hb, hg, hnc, hcm, hcs, ht⟩⟩ := h
  · exact absurd h2.1 (by simp)
  · simp only [Value.slice.injEq, Option.some.injEq, Addr.mk.injEq, and_true] at e
    obtain ⟨rfl, _, rfl⟩ := e
    refine ⟨by rw [List.length_set]; omega, .inr ⟨g, c, cur.setIfInBounds j v, rfl, hb, heap_set hg _ _, hnc, hcm, by simpa using hcs, ?_⟩⟩
    rw [← ht]
    simp [List.take_set]

end Go.Proofs.Ytkeahapgliljoaa
