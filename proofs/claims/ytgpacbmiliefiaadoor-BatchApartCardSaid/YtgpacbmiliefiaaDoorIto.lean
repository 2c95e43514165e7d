/- strconv.Itoa at a number from 0 on, where the table of powers lies as the program's text lays it. Numbers and types by name. -/
import Derived.Test.YtgpacbmiliefiaaDoorLai
import Derived.Test.YtgpacbmiliefiaaDoorDig
import Derived.Lib.LaidTab
namespace Go.Proofs.YtgpacbmiliefiaaDoor
open Go.RowKit Go.Lib

/-- The table of powers lies as its initialiser lays it. -/
def Tab (w : World) : Prop := Lib.TabIs Tryd.prog w "internal/strconv.uint64pow10" .u64 Lib.pow10Tab

theorem Tab.later {w w' : World} (h : Tab w) (hg : Grow w w') : Tab w' := by
  unfold Tab Lib.TabIs World.var? at *
  generalize Tryd.prog.globalNamed "internal/strconv.uint64pow10" = og at *
  cases og with
  | none => cases h
  | some g =>
    simp only [Option.bind_some] at h ⊢
    cases hx : w.heap[g]? with
    | none => rw [hx] at h; cases h
    | some o =>
      have hlt : g < w.heap.size := (Array.getElem?_eq_some_iff.1 hx).1
      rw [hg.block g hlt]
      exact h

theorem dec_digs : ∀ n : Nat, Lib.decDigits n = digs n := by
  intro n
  induction n using Nat.strongRecOn with
  | _ n ih =>
    rw [Lib.decDigits, digs]
    by_cases h : n < 10
    · rw [dif_pos h, if_pos h]
    · rw [dif_neg h, if_neg h, ih (n / 10) (by omega)]

theorem itoa_any (n : Nat) (w : World) (hn : n ≤ maxLen) (ht : Tab w) :
    Calls Tryd.prog 38 #[.int .i64 (n : Int)] w fun e w' => e = .returned (.string (txt (digs n))) ∧ Below w.heap.size w w' := by
  unfold maxLen at hn
  refine (Tryd.strconv_Itoa (n : Int) (by omega) (by omega) w ht).mono ?_
  rintro e w' ⟨rfl, k, os, rfl⟩
  refine ⟨?_, rfl, rfl, rfl, ?_, fun j hj => ?_⟩
  · have h0 : ¬ (n : Int) < 0 := by omega
    have e1 : Lib.itoa (n : Int) = digs n := by
      unfold Lib.itoa
      rw [if_neg h0, Int.toNat_natCast, dec_digs]
    rw [e1]
    rfl
  · simp [Go.Sort.grow, World.drewN]
  · rw [Go.Sort.heap_grow_old _ _ (by exact hj)]
    rfl

end Go.Proofs.YtgpacbmiliefiaaDoor
