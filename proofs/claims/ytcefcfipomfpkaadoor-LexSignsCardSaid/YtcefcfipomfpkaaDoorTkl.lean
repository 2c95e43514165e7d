/- Lists of tokens that are read, and own ones. Numbers and types by name. -/
import Derived.Test.YtcefcfipomfpkaaDoorLxr
import Derived.Test.YtcefcfipomfpkaaDoorCel
namespace Go.Proofs.YtcefcfipomfpkaaDoor
open Go.RowKit Go.Lib
set_option maxRecDepth 100000

def tv (o : Tk) : List Value := [.int .i64 o.kind, .string (tx o.text), .int .i64 (o.pos : Int)]
def tvs (L : List Tk) : List Value := L.flatMap tv
theorem tvs_length (L : List Tk) : (tvs L).length = L.length * 3 := by
  induction L with
  | nil => rfl
  | cons o L ih => simp only [tvs, List.flatMap_cons, List.length_append, List.length_cons] at *; rw [ih]; simp [tv]; omega
theorem tvs_snoc (L : List Tk) (o : Tk) : tvs (L ++ [o]) = tvs L ++ tv o := by simp [tvs]
theorem tvs_at {L : List Tk} {k : Nat} {o : Tk} (h : L[k]? = some o) (j : Nat) (hj : j < 3) : (tvs L)[k * 3 + j]? = (tv o)[j]? := by
  induction L generalizing k with
  | nil => cases h
  | cons p L ih =>
    have e : tvs (p :: L) = tv p ++ tvs L := by simp [tvs]
    cases k with
    | zero =>
      simp only [List.getElem?_cons_zero, Option.some.injEq] at h
      subst h
      rw [e, Nat.zero_mul, Nat.zero_add, List.getElem?_append_left (by simp [tv]; omega)]
    | succ k =>
      rw [List.getElem?_cons_succ] at h
      rw [e, List.getElem?_append_right (by simp [tv]; omega), ← ih h]
      congr 1
      simp [tv]; omega

/-- A list of tokens can be read. -/
def Tkr (w : World) (v : Value) (n : Nat) (L : List Tk) : Prop := n = L.length ∧ n ≤ 100000 ∧ Cells w v 3 n (tvs L)
theorem Tkr.shape {w : World} {v : Value} {n : Nat} {L : List Tk} (h : Tkr w v n L) : ∃ ao c, v = .slice ao n c := by
  obtain ⟨_, _, ao, c, rfl, _⟩ := h
  exact ⟨ao, c, rfl⟩
theorem Tkr.later {w w' : World} {v : Value} {n : Nat} {L : List Tk} (h : Tkr w v n L) (hg : Grow w w') : Tkr w' v n L := ⟨h.1, h.2.1, h.2.2.later hg⟩
theorem Tkr.nil (w : World) : Tkr w (.slice none 0 0) 0 [] := ⟨rfl, Nat.zero_le _, none, 0, rfl, rfl, Nat.le_refl _, fun _ => ⟨rfl, rfl⟩, fun a h => by cases h⟩
theorem Tkr.at {w : World} {ao : Option Addr} {n c : Nat} {L : List Tk} (h : Tkr w (.slice ao n c) n L) {k : Nat} (hk : k < n) :
    ∃ a o, ao = some a ∧ L[k]? = some o ∧ w.cell? (a.add (k * 3)) = some (.int .i64 o.kind) ∧ w.cell? ⟨(a.add (k * 3)).block, (a.add (k * 3)).off + 1, none⟩ = some (.string (tx o.text)) ∧ w.cell? ⟨(a.add (k * 3)).block, (a.add (k * 3)).off + 2, none⟩ = some (.int .i64 (o.pos : Int)) := by
  obtain ⟨h1, h2, ao', c', e, h0, hnc, hn, hc⟩ := h
  simp only [Value.slice.injEq] at e
  obtain ⟨rfl, _, rfl⟩ := e
  have hx : L[k]? = some (L[k]'(by omega)) := List.getElem?_eq_getElem (by omega)
  generalize L[k]'(by omega) = o at hx
  cases ao with
  | none => have := (hn rfl).1; omega
  | some a =>
    refine ⟨a, o, rfl, hx, ?_, ?_, ?_⟩
    · exact hc a rfl (k * 3) _ (by have := tvs_at hx 0 (by omega); rw [Nat.add_zero] at this; rw [this]; rfl)
    · have := hc a rfl _ _ (show (tvs L)[k * 3 + 1]? = some (.string (tx o.text)) by rw [tvs_at hx 1 (by omega)]; rfl)
      rw [← Addr.add_add] at this
      exact this
    · have := hc a rfl _ _ (show (tvs L)[k * 3 + 2]? = some (.int .i64 (o.pos : Int)) by rw [tvs_at hx 2 (by omega)]; rfl)
      rw [← Addr.add_add] at this
      exact this
theorem elemTok : Elem 23 33 (.agg #[.int .i64 0, .string ⟨#[]⟩, .int .i64 0]) 3 32 := ⟨Tryd.underlying23, by kernel_rfl, by decide, by decide⟩
/-- Tokens' own row. -/
def OwnT (w : World) (base : Nat) (v : Value) (n : Nat) (L : List Tk) : Prop := n = L.length ∧ w.ownsRow base 33 3 v n (tvs L)
theorem OwnT.nil (w : World) (base : Nat) : OwnT w base (.slice none 0 0) 0 [] := ⟨rfl, World.ownsRow_nil _ _ _ _⟩
theorem OwnT.read {w : World} {base : Nat} {v : Value} {n : Nat} {L : List Tk} (h : OwnT w base v n L) (hn : n ≤ 100000) : Tkr w v n L := ⟨h.1, hn, Cells.own h.2 (by decide)⟩
theorem tv_one (o : Tk) : ∀ u ∈ tv o, u.oneCell' = true := by
  intro u hu
  simp only [tv, List.mem_cons, List.not_mem_nil, or_false] at hu
  rcases hu with rfl | rfl | rfl <;> rfl
theorem tok_lit (w : World) (o : Tk) : Cells (w.alloc (.cells #[.int .i64 o.kind, .string (tx o.text), .int .i64 (o.pos : Int)] 33)) (.slice (some ⟨w.heap.size, 0, none⟩) 1 1) 3 1 (tv o) := Cells.lit w (tv o) 33 (0, 0) 3 1 rfl

end Go.Proofs.YtcefcfipomfpkaaDoor
