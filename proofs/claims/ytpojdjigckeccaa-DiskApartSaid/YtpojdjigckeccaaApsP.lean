/- DiskApart holds: for every list of bytes, what was handed in and what was told can be spoilt, and two disks do not touch one another. No conditions. -/
import Derived.Test.YtpojdjigckeccaaKeeP
import Derived.Test.YtpojdjigckeccaaAps
namespace Go.Proofs.Ytpojdjigckeccaa
open Go.ChangeShapes Go.WideShapes Go.ChangeAt Go.RowKit
open Go.ChangeMaps (open_string shut_string)

set_option maxRecDepth 100000 in
theorem diskApart_lifted (os : Os) (started : os.Started) (H : Type) (enc : TypeId × Value → H) :
    ReturnsInHanded {} Try.checked os 8 .any (Rows.diskApartSpec.pre6 enc Try.prog Try.f8 Rows.diskApartRow.domain false) (Rows.diskApartSpec.post enc Try.prog Try.f8 false true false false) := by
  refine returnsInHanded_of_change (C := Try.checked) ownKnobK started (by kernel_rfl) Try.func8
    (ChangeSpec.witness6 (enc := enc) (C := Try.checked) false ⟨#[], #[.slice none 0 0], []⟩ 8 (by kernel_rfl) (by kernel_rfl) (by kernel_rfl) (by kernel_rfl)) ?_
  intro W base args ds gs before hval0 hW _ _
  have hval : ∀ (j : Nat) t v, Try.f8.params[j]? = some t → args[j]? = some v → Value.okWide Try.prog W .any base t v := hval0
  have hW' := hW
  obtain ⟨p, q, hA0, hV, rfl, _, _⟩ := hW
  have hA : DataW.TrodAll enc Try.prog W 0 (fun _ => true) true Try.f8.params.toList args.toList ds p := hA0
  rw [Try.params8] at hA hval
  obtain ⟨v0, d0, rfl, rfl, h0⟩ := trodAll_one hA
  obtain ⟨rfl, rfl⟩ := trodVars_none hV
  obtain ⟨aA, lA, cA, rfl⟩ := okWide_slice Try.underlying33 (hval 0 33 v0 rfl rfl)
  have hA1 : ∃ A : List UInt8, A.length = lA ∧ Reads W (.slice aA lA cA) (bv A) ∧ lA ≤ cA ∧ lA ≤ maxLen := by
    obtain ⟨fuel, hf⟩ := h0
    exact open_bytes (by simpa [Value.cells] using hf)
  obtain ⟨A, rfl, rA, cA1, mA⟩ := hA1
  clear hA0 hval0 hval hA
  simp only [List.append_nil] at hW'
  have hlt : ∀ x ∈ p, x.block < W.heap.size := fun x hx => by simpa using hW'.lt x hx
  have hwalk : Calls Try.prog 8 #[.slice aA A.length cA] W fun e W' => e = .returned (.bool true) ∧ Below W.heap.size W W' := by
    by_cases hz0 : A.length = 0
    · rw [hz0]; exact apart_zero aA cA W
    · by_cases hbig : 500 < A.length
      · exact apart_big aA A.length cA W hbig mA
      · obtain ⟨ao, c, e, hn, _⟩ := id rA
        simp only [Value.slice.injEq] at e
        obtain ⟨rfl, _, rfl⟩ := e
        cases aA with
        | none => exact absurd (by have := (hn rfl).1; simpa [bv] using this) hz0
        | some ad => exact apart_walk ad cA A W rA (by omega) (by omega) cA1
  refine hwalk.mono fun e W' ⟨he, hb⟩ => ?_
  subst he
  refine ⟨_, rfl, _, _, _, [], p, [], hW', trodAll_mk1 (shut_bool Try.underlying4 true), trodAll_mk1 ?_, rfl, hb.frame _, fun h => by cases h⟩
  exact Below.trod laidOutK (by kernel_rfl) (of_decide_eq_true (by kernel_rfl)) h0 hb hlt

theorem diskApart_holds : Rows.DiskApartSaid :=
  OpenClaim.holds_of_wide 8 Try.f8 rfl rfl rfl rfl rfl rfl rfl ⟨rfl, rfl, rfl, rfl, rfl⟩ rfl rfl rfl rfl rfl (by kernel_rfl) Try.func8 (by kernel_rfl)
    (of_decide_eq_true (by kernel_rfl)) (by unfold Func.isWrapper; rw [if_neg (of_decide_eq_false (by kernel_rfl))]; exact ⟨rfl, rfl⟩)
    (fun os started H enc _ => diskApart_lifted os started H enc)

end Go.Proofs.Ytpojdjigckeccaa
