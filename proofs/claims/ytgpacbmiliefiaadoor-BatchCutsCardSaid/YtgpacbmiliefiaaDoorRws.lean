/- Lists of lists of bytes. Numbers and types by name. -/
import Derived.Test.YtgpacbmiliefiaaDoorFrp
import Derived.Test.YtgpacbmiliefiaaDoorMov
import Derived.Test.YtgpacbmiliefiaaDoorBel
namespace Go.Proofs.YtgpacbmiliefiaaDoor
open Go.RowKit Go.Lib

/-- A list of lists of bytes can be read. -/
def Rws (w : World) (v : Value) (n : Nat) (ps : List (List UInt8)) : Prop :=
  n = ps.length ∧ n ≤ maxLen ∧ ∃ vs : List Value, Reads w v vs ∧ vs.length = n ∧ ∀ (j : Nat) (p : List UInt8), ps[j]? = some p → ∃ ao c, vs[j]? = some (Value.slice ao p.length c) ∧ Reads w (.slice ao p.length c) (bv p) ∧ p.length ≤ maxLen

theorem Rws.shape {w : World} {v : Value} {n : Nat} {ps : List (List UInt8)} (h : Rws w v n ps) : ∃ ao c, v = .slice ao n c := by
  obtain ⟨_, _, vs, ⟨ao, c, rfl, _⟩, hl, _⟩ := h
  exact ⟨ao, c, by rw [hl]⟩

theorem Rws.later {w w' : World} {v : Value} {n : Nat} {ps : List (List UInt8)} (h : Rws w v n ps) (hg : Grow w w') : Rws w' v n ps := by
  obtain ⟨h1, h2, vs, hr, hl, hp⟩ := h
  exact ⟨h1, h2, vs, hr.later hg, hl, fun j p hj => by obtain ⟨ao, c, e1, e2, e3⟩ := hp j p hj; exact ⟨ao, c, e1, e2.later hg, e3⟩⟩

theorem Rws.nil (w : World) : Rws w (.slice none 0 0) 0 [] := ⟨rfl, Nat.zero_le _, [], Reads.nil w, rfl, fun j p h => by cases h⟩

theorem Rws.at {w : World} {ao : Option Addr} {n c : Nat} {ps : List (List UInt8)} (h : Rws w (.slice ao n c) n ps) {k : Nat} (hk : k < n) :
    ∃ a p ap cp, ao = some a ∧ ps[k]? = some p ∧ w.cell? (a.add k) = some (.slice ap p.length cp) ∧ Reads w (.slice ap p.length cp) (bv p) ∧ p.length ≤ maxLen := by
  obtain ⟨h1, h2, vs, ⟨ao', c', e, _, hn, hc⟩, hl, hp⟩ := h
  simp only [Value.slice.injEq] at e
  obtain ⟨rfl, _, _⟩ := e
  have hx : ps[k]? = some (ps[k]'(by omega)) := List.getElem?_eq_getElem (by omega)
  obtain ⟨ap, cp, e1, e2, e3⟩ := hp k _ hx
  cases ao with
  | none => have := (hn rfl).1; subst this; simp at hl; omega
  | some a => exact ⟨a, _, ap, cp, rfl, hx, hc a rfl k _ e1, e2, e3⟩

def bulkR (ps : List (List UInt8)) : Nat := (ps.map fun p => 1 + p.length).sum

theorem bulkR_cons (p : List UInt8) (ps : List (List UInt8)) : bulkR (p :: ps) = 1 + p.length + bulkR ps := by simp [bulkR]

theorem bulkR_append (ps qs : List (List UInt8)) : bulkR (ps ++ qs) = bulkR ps + bulkR qs := by simp [bulkR]

theorem bulkR_length (ps : List (List UInt8)) : ps.length ≤ bulkR ps := by
  induction ps with
  | nil => simp
  | cons p ps ih => rw [bulkR_cons, List.length_cons]; omega

theorem bulkR_mem {ps : List (List UInt8)} {p : List UInt8} (h : p ∈ ps) : 1 + p.length ≤ bulkR ps := by
  induction ps with
  | nil => cases h
  | cons q ps ih =>
    rw [bulkR_cons]
    rcases List.mem_cons.1 h with rfl | h
    · omega
    · have := ih h; omega

theorem take_more {α : Type} {L : List α} {k : Nat} {s : α} (h : L[k]? = some s) : L.take (k + 1) = L.take k ++ [s] := by rw [List.take_add_one, h]; rfl

end Go.Proofs.YtgpacbmiliefiaaDoor
