/- The index laws' example, and an index that there is not, walked over what is asked of the code's index. Numbers and types by name. -/
import Derived.Test.YtkeahapgliljoaaIxk
namespace Go.Proofs.Ytkeahapgliljoaa
open Go.RowKit Go.Lib
set_option maxRecDepth 100000

theorem awake_index {C : World → Nat → List Prm → List Nat → Prop} (K : IxK C) (w : World) : Calls Try.prog 7 #[] w fun e w' => e = .returned (.bool true) ∧ Grow w w' := by
  have HK := Lib.hid K
  have N0 := K.new 4 w
  clear K
  go_enter Try.func7, Try.ntmps7
  go_wp2_with fail
  refine N0.mono ?_
  rintro e w1 ⟨x, F, rfl, h1, hF, t1⟩
  have P1 := HK.out.put h1 Fine.nil ⟨#[97]⟩ ⟨#[49]⟩ (by decide) (by decide)
  have H1 := Lib.hid (And.intro hF (And.intro t1 trivial))
  unfold theIx at P1 ⊢
  clear h1 hF t1 N0
  go_wp2_with fail
  refine P1.mono ?_
  rintro e w2 ⟨rfl, F2, h2, hF2, t2⟩
  have f2 : Fine (putP ⟨⟨#[97]⟩, ⟨#[49]⟩⟩ []) := Fine.nil.put (by decide) (by decide) (by decide)
  have P2 := HK.out.put h2 f2 ⟨#[97]⟩ ⟨#[50]⟩ (by decide) (by decide)
  have H2 := Lib.hid (And.intro hF2 (And.intro t2 f2))
  unfold theIx at P2
  clear h2 hF2 t2 f2 P1
  go_wp2_with fail
  refine P2.mono ?_
  rintro e w3 ⟨rfl, F3, h3, hF3, t3⟩
  have f3 : Fine (putP ⟨⟨#[97]⟩, ⟨#[50]⟩⟩ (putP ⟨⟨#[97]⟩, ⟨#[49]⟩⟩ [])) := H2.out.2.2.put (by decide) (by decide) (by decide)
  have G1 := HK.out.get h3 f3 ⟨#[97]⟩ (by decide)
  have ef : findP (putP ⟨⟨#[97]⟩, ⟨#[50]⟩⟩ (putP ⟨⟨#[97]⟩, ⟨#[49]⟩⟩ [])) ⟨#[97]⟩ = (⟨#[50]⟩, true) := by decide +kernel
  rw [ef] at G1
  have HG : Hid (Grow w w3) := Lib.hid (by
    have t12 : Turn [] w w2 := H1.out.2.1.trans' H2.out.2.1 fun q hq => .inr (H1.out.1 q hq)
    refine tg9 (t12.trans' t3 fun q hq => .inr ?_)
    rcases H2.out.1 q hq with h | h
    · exact H1.out.1 q h
    · exact Nat.le_trans H1.out.2.1.size h)
  have H3 := Lib.hid (And.intro h3 f3)
  unfold theIx at G1
  clear h3 hF3 t3 f3 ef P2
  go_wp2_with fail
  refine G1.mono ?_
  rintro e w4 ⟨rfl, t4⟩
  have L1 := HK.out.len (HK.out.keep H3.out.1 t4 (by simp)) H3.out.2
  have el : (putP ⟨⟨#[97]⟩, ⟨#[50]⟩⟩ (putP ⟨⟨#[97]⟩, ⟨#[49]⟩⟩ [])).length = 1 := by decide +kernel
  rw [el] at L1
  have H4 := Lib.hid t4
  unfold theIx at L1
  clear t4 G1 el
  go_wp2_with fail
  refine L1.mono ?_
  rintro e w5 ⟨rfl, t5⟩
  have H5 := Lib.hid (HG.out.trans (tg9 (H4.out.trans t5)))
  clear t5 L1
  go_wp2_with fail
  go_ret
  exact ⟨rfl, H5.out⟩

end Go.Proofs.Ytkeahapgliljoaa
