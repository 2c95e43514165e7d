/- WalCrashes holds where what came in is of bounded bulk: a commit that crashes at either of its calls is told whole behind it, or not at all: as much as stays says which. Conditions: what came in is of bulk at most 1048576; the three tables of the library's that the card lists lie as the program's text lays them; the card ties that. -/
import Derived.Test.YthacjeeafnblmaaGreatDoorRows
import Derived.Test.YthacjeeafnblmaaGreatDoorOou
import Derived.Test.YthacjeeafnblmaaGreatDoorObf
import Derived.Test.YthacjeeafnblmaaGreatDoorWcr
import Derived.Test.YthacjeeafnblmaaGreatDoorObt
import Derived.Test.YthacjeeafnblmaaGreatDoorCards
import Derived.Test.YthacjeeafnblmaaGreatDoorTie
import Derived.SevenTiedAt
import Derived.Deep.DeepHandedRow
import Derived.ProofKit
namespace Go.Proofs.YthacjeeafnblmaaGreatDoor
open Go.ChangeShapes Go.WideShapes Go.ChangeAt Go.RowKit
open Go.ChangeMaps (open_string shut_string)

set_option maxRecDepth 100000 in
theorem walCrashes_reads (os : Os) {H : Type} (enc : TypeId × Value → H) : ∃ places, DataW.whole enc Tryz.prog ((World.doorLaid Tryz.prog 24 os).forCall (fun _ _ => 0) ⟨#[], #[.slice none 0 0, .slice none 0 0, .bool false, .bool false, .int .u16 0], []⟩).memory Tryz.f6.params.toList Rows.walCrashesSpec.vars false (#[.slice none 0 0, .slice none 0 0, .bool false, .bool false, .int .u16 0] : Array Value).toList 8 = some ([.nil, .nil, .lit (.bool false), .lit (.bool false), .lit (.int .u16 0)], [], places) :=
  ⟨[], by kernel_rfl⟩

set_option maxRecDepth 100000 in
theorem walCrashes_lifted (os : Os) (started : os.Started) (H : Type) (enc : TypeId × Value → H) (F : Stop.Interp) :
    ReturnsInHanded {} Tryz.checked os 6 .any ((Rows.OpenSpec.upto Rows.walCrashesSpec).preRow enc Tryz.prog Tryz.f6 Rows.walCrashesUptoRow.domain false Rows.walCrashesUptoRow.laid) (((Rows.OpenSpec.upto Rows.walCrashesSpec).at F).post enc Tryz.prog Tryz.f6 false true false false) := by
  obtain ⟨places, hx⟩ := walCrashes_reads os enc
  refine returnsInHanded_of_row (C := Tryz.checked) (s := Rows.OpenSpec.upto Rows.walCrashesSpec) ownKnobK started (by kernel_rfl) Tryz.func6
    (witness_row_at (enc := enc) (C := Tryz.checked) false (World.doorLaid Tryz.prog 24 os) #[.slice none 0 0, .slice none 0 0, .bool false, .bool false, .int .u16 0] rfl (by kernel_rfl) (by kernel_rfl) (by kernel_rfl)
      (OpenSpec.preRow_of_cond 8 hx (by kernel_rfl) (fun k hk => by cases hk; kernel_rfl) (by kernel_rfl) (door_met os _))) ?_
  intro W base args ds gs before hval0 hW _ hcond _ hL _ _
  have htab := tab_of_laid hL
  have hk := hcond _ rfl
  clear hcond
  have hval : ∀ (j : Nat) t v, Tryz.f6.params[j]? = some t → args[j]? = some v → Value.okWide Tryz.prog W .any base t v := hval0
  have hW' := hW
  obtain ⟨p, q, hA0, hV, rfl, _, _⟩ := hW
  have hA : DataW.TrodAll enc Tryz.prog W 0 (fun _ => true) true Tryz.f6.params.toList args.toList ds p := hA0
  rw [Tryz.params6] at hA hval
  obtain ⟨v0, v1, v2, v3, v4, d0, d1, d2, d3, d4, p0, p1, p2, p3, p4, rfl, rfl, rfl, h0, h1, h2, h3, h4⟩ := trodAll_five hA
  obtain ⟨rfl, rfl⟩ := trodVars_none hV
  have hkk : ∀ d ∈ [d0, d1, d2, d3, d4], Rows.uptoBulk d ≤ 1048576 := fun d hd => Nat.le_trans (bulk_partU (by simpa using hd)) (of_decide_eq_true hk)
  clear hk
  obtain ⟨a0, l0, c0, rfl⟩ := okWide_slice Tryz.underlying49 (hval 0 49 v0 rfl rfl)
  obtain ⟨L0, r0, k0⟩ : ∃ L : List Opm, Opr W (.slice a0 l0 c0) l0 L ∧ bulkO L ≤ 1048576 := by
    obtain ⟨fuel, hf⟩ := h0
    obtain ⟨L, hL1, hL2⟩ := open_opsU (x := (d0, p0)) (by simpa [Value.cells] using hf)
    exact ⟨L, hL1, Nat.le_trans hL2 (hkk d0 (by simp))⟩
  obtain ⟨a1, l1, c1, rfl⟩ := okWide_slice Tryz.underlying49 (hval 1 49 v1 rfl rfl)
  obtain ⟨L1, r1, k1⟩ : ∃ L : List Opm, Opr W (.slice a1 l1 c1) l1 L ∧ bulkO L ≤ 1048576 := by
    obtain ⟨fuel, hf⟩ := h1
    obtain ⟨L, hL1, hL2⟩ := open_opsU (x := (d1, p1)) (by simpa [Value.cells] using hf)
    exact ⟨L, hL1, Nat.le_trans hL2 (hkk d1 (by simp))⟩
  obtain ⟨b2, rfl⟩ := okWide_bool Tryz.underlying4 (hval 2 4 v2 rfl rfl)
  obtain ⟨b3, rfl⟩ := okWide_bool Tryz.underlying4 (hval 3 4 v3 rfl rfl)
  obtain ⟨z4, hz4, _, _, hw4⟩ := open_int Tryz.underlying53 (hval 4 53 v4 rfl rfl) h4
  subst hz4
  have x4 : 0 ≤ z4 ∧ z4 ≤ 65535 := by simpa [Lit.wf, IntKind.min, IntKind.max, IntKind.signed, IntKind.bits] using hw4
  clear hA0 hval0 hval hA hkk
  simp only [List.append_nil] at hW'
  have hlt : ∀ x ∈ p0 ++ p1 ++ p2 ++ p3 ++ p4, x.block < W.heap.size := fun x hx => by simpa using hW'.lt x hx
  refine (crashes_int _ _ l0 l1 L0 L1 b2 b3 z4 W r0 r1 x4 k0 k1 htab).mono fun e W' ⟨he, hb⟩ => ?_
  subst he
  refine ⟨_, rfl, _, _, _, [], p0 ++ (p1 ++ (p2 ++ (p3 ++ p4))), [], hW', trodAll_mk1 (shut_bool Tryz.underlying4 true), trodAll_mk5 ?_ ?_ ?_ ?_ ?_, rfl, hb.frame _, fun h => by cases h⟩
  · exact Below.trod laidOutK (by kernel_rfl) (of_decide_eq_true (by kernel_rfl)) h0 hb (fun x hx => hlt x (by simp [hx]))
  · exact Below.trod laidOutK (by kernel_rfl) (of_decide_eq_true (by kernel_rfl)) h1 hb (fun x hx => hlt x (by simp [hx]))
  · exact Below.trod laidOutK (by kernel_rfl) (of_decide_eq_true (by kernel_rfl)) h2 hb (fun x hx => hlt x (by simp [hx]))
  · exact Below.trod laidOutK (by kernel_rfl) (of_decide_eq_true (by kernel_rfl)) h3 hb (fun x hx => hlt x (by simp [hx]))
  · exact Below.trod laidOutK (by kernel_rfl) (of_decide_eq_true (by kernel_rfl)) h4 hb (fun x hx => hlt x (by simp [hx]))

theorem walCrashes_row : Rows.WalCrashesUptoSaid :=
  OpenClaim.holds_of_cond 6 Tryz.f6 rfl rfl rfl rfl rfl rfl rfl ⟨rfl, rfl, rfl, rfl, rfl⟩ rfl rfl rfl rfl rfl (by kernel_rfl) Tryz.func6 (by kernel_rfl)
    (of_decide_eq_true (by kernel_rfl)) (by unfold Func.isWrapper; first | (rw [if_pos (by decide +kernel)]; kernel_rfl) | (rw [if_neg (by decide +kernel)]; exact ⟨rfl, rfl⟩))
    (fun os started H enc _ F => by rw [OpenClaim.pre_eq_preRow]; exact walCrashes_lifted os started H enc F)

theorem walCrashes_holds : Rows.WalCrashesUptoCardSaid :=
  Claim7.holds_tied_plain_at .later [] Rows.walCrashesUptoCard.laidKinds true Rows.walCrashesUptoCard.stood.harness false
    walCrashes_row (fun _ h => by cases h) (by kernel_rfl) (fun _ h => by cases h) walCrashesUpto_row_tie rfl ⟨rfl, rfl⟩ (by kernel_rfl) rfl
    (fun f fn hf hfn => by
      obtain rfl : f = 6 := Option.some.inj ((show Tryz.prog.funcNamed Rows.walCrashesUptoRow.func = some 6 by kernel_rfl).symm.trans hf) |>.symm
      obtain rfl : fn = Tryz.f6 := (Option.some.inj (Tryz.func6.symm.trans hfn)).symm
      exact ⟨by kernel_rfl, fun j t ht => by
        have hm : t ∈ Tryz.f6.params.toList := by simpa using Array.mem_of_getElem? ht
        have hall : (Tryz.f6.params.toList.all fun u => !Tryz.prog.wantsStandIn u) = true := by kernel_rfl
        exact (show Tryz.prog.wantsStandIn t = false by simpa using List.all_eq_true.1 hall t hm)⟩)
    (by kernel_rfl)

end Go.Proofs.YthacjeeafnblmaaGreatDoor
