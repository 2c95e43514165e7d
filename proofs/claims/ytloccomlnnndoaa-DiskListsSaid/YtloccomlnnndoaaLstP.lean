/- DiskLists holds: for every list of acts, the files of a disk are told by rising names, each once, none empty, and each can be read. No conditions. -/
import Derived.Test.YtloccomlnnndoaaKeeP
import Derived.Test.YtloccomlnnndoaaLst
namespace Go.Proofs.Ytloccomlnnndoaa
open Go.ChangeShapes Go.WideShapes Go.ChangeAt Go.RowKit
open Go.ChangeMaps (open_string shut_string)

set_option maxRecDepth 100000 in
theorem diskLists_lifted (os : Os) (started : os.Started) (H : Type) (enc : TypeId × Value → H) :
    ReturnsInHanded {} Try.checked os 10 .any (Rows.diskListsSpec.pre6 enc Try.prog Try.f10 Rows.diskListsRow.domain false) (Rows.diskListsSpec.post enc Try.prog Try.f10 false true false false) := by
  refine returnsInHanded_of_change (C := Try.checked) ownKnobK started (by kernel_rfl) Try.func10
    (ChangeSpec.witness6 (enc := enc) (C := Try.checked) false ⟨#[], #[.slice none 0 0], []⟩ 8 (by kernel_rfl) (by kernel_rfl) (by kernel_rfl) (by kernel_rfl)) ?_
  intro W base args ds gs before hval0 hW _ _
  have hval : ∀ (j : Nat) t v, Try.f10.params[j]? = some t → args[j]? = some v → Value.okWide Try.prog W .any base t v := hval0
  have hW' := hW
  obtain ⟨p, q, hA0, hV, rfl, _, _⟩ := hW
  have hA : DataW.TrodAll enc Try.prog W 0 (fun _ => true) true Try.f10.params.toList args.toList ds p := hA0
  rw [Try.params10] at hA hval
  obtain ⟨v0, d0, rfl, rfl, h0⟩ := trodAll_one hA
  obtain ⟨rfl, rfl⟩ := trodVars_none hV
  obtain ⟨aA, lA, cA, rfl⟩ := okWide_slice Try.underlying25 (hval 0 25 v0 rfl rfl)
  have hA1 : (aA = none ∧ lA = 0) ∨ ∃ a, aA = some a ∧ lA ≤ cA ∧ cA ≤ maxLen ∧ ∀ i, i < lA → ∃ d nm to lB lF lK, ActAt W a i d nm to lB lF lK := by
    obtain ⟨fuel, hf⟩ := h0
    exact open_acts (by simpa [Value.cells] using hf)
  clear hA0 hval0 hval hA
  simp only [List.append_nil] at hW'
  have hlt : ∀ x ∈ p, x.block < W.heap.size := fun x hx => by simpa using hW'.lt x hx
  have hwalk : Calls Try.prog 10 #[.slice aA lA cA] W fun e W' => e = .returned (.bool true) ∧ Below W.heap.size W W' := by
    rcases hA1 with ⟨h1, h2⟩ | ⟨a, h1, h2, h3, h4⟩
    · exact lists_walk aA ⟨0, 0, none⟩ lA cA (.inr ⟨h1, h2⟩) W (by omega) (fun i hi => by omega)
    · exact lists_walk aA a lA cA (.inl h1) W (by omega) h4
  refine hwalk.mono fun e W' ⟨he, hb⟩ => ?_
  subst he
  refine ⟨_, rfl, _, _, _, [], p, [], hW', trodAll_mk1 (shut_bool Try.underlying4 true), trodAll_mk1 ?_, rfl, hb.frame _, fun h => by cases h⟩
  exact Below.trod laidOutK (by kernel_rfl) (of_decide_eq_true (by kernel_rfl)) h0 hb hlt

theorem diskLists_holds : Rows.DiskListsSaid :=
  OpenClaim.holds_of_wide 10 Try.f10 rfl rfl rfl rfl rfl rfl rfl ⟨rfl, rfl, rfl, rfl, rfl⟩ rfl rfl rfl rfl rfl (by kernel_rfl) Try.func10 (by kernel_rfl)
    (of_decide_eq_true (by kernel_rfl)) (by unfold Func.isWrapper; rw [if_neg (of_decide_eq_false (by kernel_rfl))]; exact ⟨rfl, rfl⟩)
    (fun os started H enc _ => diskLists_lifted os started H enc)

end Go.Proofs.Ytloccomlnnndoaa
