/- Lists of acts of an index that are read. Numbers and types by name. -/
import Derived.Test.YtkeahapgliljoaaCel
namespace Go.Proofs.Ytkeahapgliljoaa
open Go.RowKit Go.Lib

/-- An act: what, key, value. -/
structure Iam where
  del : Int
  key : ByteArray
  val : ByteArray
  deriving DecidableEq

def iv3 (o : Iam) : List Value := [.int .i64 o.del, .string o.key, .string o.val]
def ivs3 (L : List Iam) : List Value := L.flatMap iv3
theorem ivs3_length (L : List Iam) : (ivs3 L).length = L.length * 3 := by
  induction L with
  | nil => rfl
  | cons o L ih => simp only [ivs3, List.flatMap_cons, List.length_append, List.length_cons] at *; rw [ih]; simp [iv3]; omega
theorem ivs3_at {L : List Iam} {k : Nat} {o : Iam} (h : L[k]? = some o) (j : Nat) (hj : j < 3) : (ivs3 L)[k * 3 + j]? = (iv3 o)[j]? := by
  induction L generalizing k with
  | nil => cases h
  | cons p L ih =>
    have e : ivs3 (p :: L) = iv3 p ++ ivs3 L := by simp [ivs3]
    cases k with
    | zero =>
      simp only [List.getElem?_cons_zero, Option.some.injEq] at h
      subst h
      rw [e, Nat.zero_mul, Nat.zero_add, List.getElem?_append_left (by simp [iv3]; omega)]
    | succ k =>
      rw [List.getElem?_cons_succ] at h
      rw [e, List.getElem?_append_right (by simp [iv3]; omega), ← ih h]
      congr 1
      simp [iv3]; omega

/-- A list of acts can be read; their texts are no longer than texts can be. -/
def Iar (w : World) (v : Value) (n : Nat) (L : List Iam) : Prop := n = L.length ∧ n ≤ maxLen ∧ Cells w v 3 n (ivs3 L) ∧ ∀ o ∈ L, o.key.size ≤ maxLen ∧ o.val.size ≤ maxLen

theorem Iar.shape {w : World} {v : Value} {n : Nat} {L : List Iam} (h : Iar w v n L) : ∃ ao c, v = .slice ao n c := by
  obtain ⟨_, _, ⟨ao, c, rfl, _⟩, _⟩ := h
  exact ⟨ao, c, rfl⟩
theorem Iar.later {w w' : World} {v : Value} {n : Nat} {L : List Iam} (h : Iar w v n L) (hg : Grow w w') : Iar w' v n L := ⟨h.1, h.2.1, h.2.2.1.later hg, h.2.2.2⟩
theorem Iar.nil (w : World) : Iar w (.slice none 0 0) 0 [] := ⟨rfl, Nat.zero_le _, ⟨none, 0, rfl, rfl, Nat.le_refl _, fun _ => ⟨rfl, rfl⟩, fun a h => by cases h⟩, fun o h => by cases h⟩

theorem Iar.at {w : World} {ao : Option Addr} {n c : Nat} {L : List Iam} (h : Iar w (.slice ao n c) n L) {k : Nat} (hk : k < n) :
    ∃ a o, ao = some a ∧ L[k]? = some o ∧ w.cell? (a.add (k * 3)) = some (.int .i64 o.del) ∧ w.cell? ⟨(a.add (k * 3)).block, (a.add (k * 3)).off + 1, none⟩ = some (.string o.key) ∧ w.cell? ⟨(a.add (k * 3)).block, (a.add (k * 3)).off + 2, none⟩ = some (.string o.val) ∧ o.key.size ≤ maxLen ∧ o.val.size ≤ maxLen := by
  obtain ⟨h1, h2, ⟨ao', c', e, h0, hnc, hn, hc⟩, hs⟩ := h
  simp only [Value.slice.injEq] at e
  obtain ⟨rfl, _, rfl⟩ := e
  have hx : L[k]? = some (L[k]'(by omega)) := List.getElem?_eq_getElem (by omega)
  generalize L[k]'(by omega) = o at hx
  cases ao with
  | none => have := (hn rfl).1; omega
  | some a =>
    have hm := hs o (List.mem_of_getElem? hx)
    refine ⟨a, o, rfl, hx, ?_, ?_, ?_, hm.1, hm.2⟩
    · exact hc a rfl (k * 3) _ (by have := ivs3_at hx 0 (by omega); rw [Nat.add_zero] at this; rw [this]; rfl)
    · have := hc a rfl _ _ (show (ivs3 L)[k * 3 + 1]? = some (.string o.key) by rw [ivs3_at hx 1 (by omega)]; rfl)
      rw [← Addr.add_add] at this
      exact this
    · have := hc a rfl _ _ (show (ivs3 L)[k * 3 + 2]? = some (.string o.val) by rw [ivs3_at hx 2 (by omega)]; rfl)
      rw [← Addr.add_add] at this
      exact this

end Go.Proofs.Ytkeahapgliljoaa
