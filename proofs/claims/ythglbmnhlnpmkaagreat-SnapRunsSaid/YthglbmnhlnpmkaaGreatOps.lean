/- Lists of lists of pairs that came in. Numbers and types by name. -/
import Derived.Test.YthglbmnhlnpmkaaGreatOp
import Derived.Test.YthglbmnhlnpmkaaGreatPss
namespace Go.Proofs.YthglbmnhlnpmkaaGreat
set_option maxRecDepth 100000
open Go.ChangeShapes Go.WideShapes Go.ChangeAt Go.RowKit Go.Lib Go.Deep

theorem cellsPairsK : Tryz.prog.cellsOf 33 = 1 := by kernel_rfl

/-- A [][]api.Pair that came in. -/
theorem open_pairss {H : Type} {enc : TypeId × Value → H} {W : World} {base : Nat} {spare : Nat → Bool} {held : Bool} {fuel : Nat} {a0 : Option Addr} {len cap : Nat} {x : DataW H × List MemPlace}
    (h : DataW.trod enc Tryz.prog W base spare held fuel 23 [.slice a0 len cap] = some x) : ∃ LL : List (List Prm), Pss W (.slice a0 len cap) len LL := by
  rcases open_slice1 Tryz.underlying23 cellsPairsK h with ⟨hcs, _⟩ | ⟨a, len', cap', m, n, V, D, Pl, hcs, _, hl, hm, hmm, _, hcell⟩
  · simp only [List.cons.injEq, Value.slice.injEq, and_true] at hcs
    obtain ⟨rfl, rfl, rfl⟩ := hcs
    exact ⟨[], Pss.nil W⟩
  · simp only [List.cons.injEq, Value.slice.injEq, and_true] at hcs
    obtain ⟨rfl, rfl, rfl⟩ := hcs
    have hlm : len ≤ m := by rw [hmm]; split <;> omega
    have each : ∀ i, i < len → ∃ y : Option Addr × Nat × List Prm, V i = .slice y.1 y.2.2.length y.2.1 ∧ Prr W (.slice y.1 y.2.2.length y.2.1) y.2.2.length y.2.2 := by
      intro i hi
      have h2 := (hcell i (by omega)).2
      obtain ⟨ai, li, ci, hv⟩ : ∃ ai li ci, V i = .slice ai li ci := by
        rcases open_slice Tryz.underlying33 h2 with ⟨e, _⟩ | ⟨b, l2, c2, _, _, _, _, e, _⟩
        · exact ⟨none, 0, 0, by simpa using e⟩
        · exact ⟨some b, l2, c2, by simpa using e⟩
      rw [hv] at h2
      obtain ⟨L, hL⟩ := open_pairs h2
      have e := hL.1
      subst e
      exact ⟨(ai, ci, L), hv, hL⟩
    obtain ⟨y, hy⟩ := choose_lt each
    refine ⟨(List.range len).map fun i => (y i).2.2, by simp, Nat.le_trans hl hm, (List.range len).map V, ⟨some a, cap, by simp, by simpa using hl, (fun e => by cases e), fun a' ha j u hj => ?_⟩, by simp, by simp, fun j p hj => ?_⟩
    · cases ha
      have hj1 : j < len := by
        have := (List.getElem?_eq_some_iff.1 hj).1
        simpa using this
      rw [(hcell j (by omega)).1]
      simpa [hj1] using hj
    · have hj1 : j < len := by
        have := (List.getElem?_eq_some_iff.1 hj).1
        simpa using this
      have e : (y j).2.2 = p := by simpa [hj1] using hj
      obtain ⟨e1, e2⟩ := hy j hj1
      rw [e] at e1 e2
      exact ⟨(y j).1, (y j).2.1, by simp [hj1, e1], e2⟩

end Go.Proofs.YthglbmnhlnpmkaaGreat
