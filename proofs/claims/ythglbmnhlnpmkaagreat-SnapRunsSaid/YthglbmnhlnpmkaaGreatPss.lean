/- Lists of lists of pairs that are read. Numbers and types by name. -/
import Derived.Test.YthglbmnhlnpmkaaGreatOp
namespace Go.Proofs.YthglbmnhlnpmkaaGreat
open Go.RowKit Go.Lib

def PrVals (w : World) (vs : List Value) (LL : List (List Prm)) : Prop :=
  vs.length = LL.length ∧ ∀ (j : Nat) (L : List Prm), LL[j]? = some L → ∃ ao c, vs[j]? = some (Value.slice ao L.length c) ∧ Prr w (.slice ao L.length c) L.length L

theorem PrVals.later {w w' : World} {vs : List Value} {LL : List (List Prm)} (h : PrVals w vs LL) (hg : Grow w w') : PrVals w' vs LL :=
  ⟨h.1, fun j L hj => by obtain ⟨ao, c, e1, e2⟩ := h.2 j L hj; exact ⟨ao, c, e1, e2.later hg⟩⟩

/-- A list of lists of ops can be read. -/
def Pss (w : World) (v : Value) (n : Nat) (LL : List (List Prm)) : Prop := n = LL.length ∧ n ≤ maxLen ∧ ∃ vs : List Value, Reads w v vs ∧ vs.length = n ∧ PrVals w vs LL

theorem Pss.shape {w : World} {v : Value} {n : Nat} {LL : List (List Prm)} (h : Pss w v n LL) : ∃ ao c, v = .slice ao n c := by
  obtain ⟨_, _, vs, ⟨ao, c, rfl, _⟩, hl, _⟩ := h
  exact ⟨ao, c, by rw [hl]⟩
theorem Pss.later {w w' : World} {v : Value} {n : Nat} {LL : List (List Prm)} (h : Pss w v n LL) (hg : Grow w w') : Pss w' v n LL := by
  obtain ⟨h1, h2, vs, hr, hl, hp⟩ := h
  exact ⟨h1, h2, vs, hr.later hg, hl, hp.later hg⟩
theorem Pss.nil (w : World) : Pss w (.slice none 0 0) 0 [] := ⟨rfl, Nat.zero_le _, [], Reads.nil w, rfl, rfl, fun j p h => by cases h⟩

theorem Pss.at {w : World} {ao : Option Addr} {n c : Nat} {LL : List (List Prm)} (h : Pss w (.slice ao n c) n LL) {k : Nat} (hk : k < n) :
    ∃ a L ap cp, ao = some a ∧ LL[k]? = some L ∧ w.cell? (a.add k) = some (.slice ap L.length cp) ∧ Prr w (.slice ap L.length cp) L.length L := by
  obtain ⟨h1, h2, vs, ⟨ao', c', e, _, hn, hc⟩, hl, hp⟩ := h
  simp only [Value.slice.injEq] at e
  obtain ⟨rfl, _, _⟩ := e
  have hx : LL[k]? = some (LL[k]'(by omega)) := List.getElem?_eq_getElem (by omega)
  obtain ⟨ap, cp, e1, e2⟩ := hp.2 k _ hx
  cases ao with
  | none => have := (hn rfl).1; subst this; simp at hl; omega
  | some a => exact ⟨a, _, ap, cp, rfl, hx, hc a rfl k _ e1, e2⟩

end Go.Proofs.YthglbmnhlnpmkaaGreat
