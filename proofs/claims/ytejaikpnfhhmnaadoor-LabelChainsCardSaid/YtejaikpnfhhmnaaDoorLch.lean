/- LabelChains, plainly. Numbers and types by name. -/
import Derived.Test.YtejaikpnfhhmnaaDoorLce
import Derived.Test.YtejaikpnfhhmnaaDoorLrw
namespace Go.Proofs.YtejaikpnfhhmnaaDoor
open Go.RowKit Go.Lib
set_option maxRecDepth 100000

/-- Names of a chain: the letter l, and one more. -/
def nameC (i : Nat) : List UInt8 := [108, UInt8.ofNat (97 + i)]
def rowQ (m : Nat) : List Pr8 := (List.range m).map fun i => (nameC i, nameC (i + 1))
theorem rowQ_succ (m : Nat) : rowQ (m + 1) = rowQ m ++ [(nameC m, nameC (m + 1))] := by
  unfold rowQ
  rw [List.range_succ, List.map_append]
  rfl
theorem rowQ_len (m : Nat) : (rowQ m).length = m := by simp [rowQ]
/-- The text of a chain so far. -/
def chT : Nat → List UInt8
  | 0 => [108, 97, 98, 101, 108, 115, 32]
  | 1 => [108, 97, 98, 101, 108, 115, 32] ++ nameC 0
  | j + 2 => (chT (j + 1) ++ [32, 60, 32]) ++ nameC (j + 1)
theorem ch_lab : ∀ k, k < 13 → 2 ≤ k → (labelsP (chT k ++ [59])).2.1 = 0 ∧ prs (labelsP (chT k ++ [59])).1 = rowQ (k - 1) := by decide +kernel
theorem ch_names : ∀ k, k < 13 → 2 ≤ k → (namesP (rowQ (k - 1))).length = k := by decide +kernel
theorem ch_cert : ∀ k, k < 13 → 2 ≤ k → certB k (baseP (namesP (rowQ (k - 1))) (rowQ (k - 1))) leB (fun x y => y - x) = true ∧ lattP k leB = true := by decide +kernel
theorem ch_join : ∀ k, k < 13 → ∀ a, a < k → ∀ b, b < k → joinI k leB a b = max a b ∧ joinI k (flipB leB) a b = min a b := by decide +kernel
theorem ch_made {lo : Nat} {w : World} {k : Nat} {v : Value} {x : Int} (h : MadeV lo w (rowQ (k - 1)) v x) (h1 : 2 ≤ k) (h2 : k < 13) : x = 0 ∧ LatV lo w (namesP (rowQ (k - 1))) leB v := by
  have hn := ch_names k h2 h1
  obtain ⟨c1, c2⟩ := ch_cert k h2 h1
  exact made_known h (by omega) (by omega) (by rw [hn]; exact clos_cert _ c1) (by rw [hn]; exact c2)
theorem ch_read {lo : Nat} {w : World} {k : Nat} {v : Value} {x a : Int} (h : ReadV lo w (chT k ++ [59]) v x a) (h1 : 2 ≤ k) (h2 : k < 13) : x = 0 ∧ a = 0 ∧ LatV lo w (namesP (rowQ (k - 1))) leB v := by
  obtain ⟨c1, c2⟩ := ch_lab k h2 h1
  rcases h with ⟨h3, _⟩ | ⟨_, h3, h4⟩
  · exact absurd c1 h3
  · rw [c2] at h4
    obtain ⟨h5, h6⟩ := ch_made h4 h1 h2
    exact ⟨h5, h3, h6⟩
theorem leB_refl (x : Nat) : leB x x = true := by simp [leB]
theorem leB_trans {x y z : Nat} (h : leB x y = true) (k : leB y z = true) : leB x z = true := by
  unfold leB at *
  simp only [decide_eq_true_eq] at *
  omega

end Go.Proofs.YtejaikpnfhhmnaaDoor
