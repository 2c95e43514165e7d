/- WalOpens holds where what came in is of bounded bulk: what stands behind the last end is cut when the log is opened: what is committed then is told with what was. Conditions: what came in is of bulk at most 1048576; the three tables of the library's that the card lists lie as the program's text lays them; the card ties that. -/
import Derived.Test.YthacjeeafnblmaaGreatDoorRows
import Derived.Test.YthacjeeafnblmaaGreatDoorOou
import Derived.Test.YthacjeeafnblmaaGreatDoorBeg
import Derived.Test.YthacjeeafnblmaaGreatDoorWjo
import Derived.Test.YthacjeeafnblmaaGreatDoorObt
import Derived.Test.YthacjeeafnblmaaGreatDoorCards
import Derived.Test.YthacjeeafnblmaaGreatDoorTie
import Derived.SevenTiedAt
import Derived.Deep.DeepHandedRow
import Derived.ProofKit
namespace Go.Proofs.YthacjeeafnblmaaGreatDoor
open Go.ChangeShapes Go.WideShapes Go.ChangeAt Go.RowKit
open Go.ChangeMaps (open_string shut_string)

set_option maxRecDepth 100000 in
theorem walOpens_reads (os : Os) {H : Type} (enc : TypeId × Value → H) : ∃ places, DataW.whole enc Tryz.prog ((World.doorLaid Tryz.prog 24 os).forCall (fun _ _ => 0) ⟨#[], #[.slice none 0 0, .slice none 0 0, .slice none 0 0], []⟩).memory Tryz.f5.params.toList Rows.walOpensSpec.vars false (#[.slice none 0 0, .slice none 0 0, .slice none 0 0] : Array Value).toList 8 = some ([.nil, .nil, .nil], [], places) :=
  ⟨[], by kernel_rfl⟩

set_option maxRecDepth 100000 in
theorem walOpens_lifted (os : Os) (started : os.Started) (H : Type) (enc : TypeId × Value → H) (F : Stop.Interp) :
    ReturnsInHanded {} Tryz.checked os 5 .any ((Rows.OpenSpec.upto Rows.walOpensSpec).preRow enc Tryz.prog Tryz.f5 Rows.walOpensUptoRow.domain false Rows.walOpensUptoRow.laid) (((Rows.OpenSpec.upto Rows.walOpensSpec).at F).post enc Tryz.prog Tryz.f5 false true false false) := by
  obtain ⟨places, hx⟩ := walOpens_reads os enc
  refine returnsInHanded_of_row (C := Tryz.checked) (s := Rows.OpenSpec.upto Rows.walOpensSpec) ownKnobK started (by kernel_rfl) Tryz.func5
    (witness_row_at (enc := enc) (C := Tryz.checked) false (World.doorLaid Tryz.prog 24 os) #[.slice none 0 0, .slice none 0 0, .slice none 0 0] rfl (by kernel_rfl) (by kernel_rfl) (by kernel_rfl)
      (OpenSpec.preRow_of_cond 8 hx (by kernel_rfl) (fun k hk => by cases hk; kernel_rfl) (by kernel_rfl) (door_met os _))) ?_
  intro W base args ds gs before hval0 hW _ hcond _ hL _ _
  have htab := tab_of_laid hL
  have hk := hcond _ rfl
  clear hcond
  have hval : ∀ (j : Nat) t v, Tryz.f5.params[j]? = some t → args[j]? = some v → Value.okWide Tryz.prog W .any base t v := hval0
  have hW' := hW
  obtain ⟨p, q, hA0, hV, rfl, _, _⟩ := hW
  have hA : DataW.TrodAll enc Tryz.prog W 0 (fun _ => true) true Tryz.f5.params.toList args.toList ds p := hA0
  rw [Tryz.params5] at hA hval
  obtain ⟨v0, v1, v2, d0, d1, d2, p0, p1, p2, rfl, rfl, rfl, h0, h1, h2⟩ := trodAll_three hA
  obtain ⟨rfl, rfl⟩ := trodVars_none hV
  have hkk : ∀ d ∈ [d0, d1, d2], Rows.uptoBulk d ≤ 1048576 := fun d hd => Nat.le_trans (bulk_partU (by simpa using hd)) (of_decide_eq_true hk)
  clear hk
  obtain ⟨a0, l0, c0, rfl⟩ := okWide_slice Tryz.underlying49 (hval 0 49 v0 rfl rfl)
  obtain ⟨L0, r0, k0⟩ : ∃ L : List Opm, Opr W (.slice a0 l0 c0) l0 L ∧ bulkO L ≤ 1048576 := by
    obtain ⟨fuel, hf⟩ := h0
    obtain ⟨L, hL1, hL2⟩ := open_opsU (x := (d0, p0)) (by simpa [Value.cells] using hf)
    exact ⟨L, hL1, Nat.le_trans hL2 (hkk d0 (by simp))⟩
  obtain ⟨a1, l1, c1, rfl⟩ := okWide_slice Tryz.underlying49 (hval 1 49 v1 rfl rfl)
  obtain ⟨L1, r1, k1⟩ : ∃ L : List Opm, Opr W (.slice a1 l1 c1) l1 L ∧ bulkO L ≤ 1048576 := by
    obtain ⟨fuel, hf⟩ := h1
    obtain ⟨L, hL1, hL2⟩ := open_opsU (x := (d1, p1)) (by simpa [Value.cells] using hf)
    exact ⟨L, hL1, Nat.le_trans hL2 (hkk d1 (by simp))⟩
  obtain ⟨a2, l2, c2, rfl⟩ := okWide_slice Tryz.underlying24 (hval 2 24 v2 rfl rfl)
  obtain ⟨A2, e2, r2, m2⟩ : ∃ A : List UInt8, A.length = l2 ∧ Reads W (.slice a2 l2 c2) (bv A) ∧ l2 ≤ maxLen := by
    obtain ⟨fuel, hf⟩ := h2
    exact open_bytes (by simpa [Value.cells] using hf)
  clear hA0 hval0 hval hA hkk
  simp only [List.append_nil] at hW'
  have hlt : ∀ x ∈ p0 ++ p1 ++ p2, x.block < W.heap.size := fun x hx => by simpa using hW'.lt x hx
  refine (opens_law _ _ l0 l1 L0 L1 _ A2 W r0 r1 r2 (by rw [e2]; exact m2) (by omega) (by omega) htab).mono fun e W' ⟨he, hb⟩ => ?_
  subst he
  refine ⟨_, rfl, _, _, _, [], p0 ++ (p1 ++ p2), [], hW', trodAll_mk1 (shut_bool Tryz.underlying4 true), trodAll_mk3 ?_ ?_ ?_, rfl, hb.frame _, fun h => by cases h⟩
  · exact Below.trod laidOutK (by kernel_rfl) (of_decide_eq_true (by kernel_rfl)) h0 hb (fun x hx => hlt x (by simp [hx]))
  · exact Below.trod laidOutK (by kernel_rfl) (of_decide_eq_true (by kernel_rfl)) h1 hb (fun x hx => hlt x (by simp [hx]))
  · exact Below.trod laidOutK (by kernel_rfl) (of_decide_eq_true (by kernel_rfl)) h2 hb (fun x hx => hlt x (by simp [hx]))

theorem walOpens_row : Rows.WalOpensUptoSaid :=
  OpenClaim.holds_of_cond 5 Tryz.f5 rfl rfl rfl rfl rfl rfl rfl ⟨rfl, rfl, rfl, rfl, rfl⟩ rfl rfl rfl rfl rfl (by kernel_rfl) Tryz.func5 (by kernel_rfl)
    (of_decide_eq_true (by kernel_rfl)) (by unfold Func.isWrapper; first | (rw [if_pos (by decide +kernel)]; kernel_rfl) | (rw [if_neg (by decide +kernel)]; exact ⟨rfl, rfl⟩))
    (fun os started H enc _ F => by rw [OpenClaim.pre_eq_preRow]; exact walOpens_lifted os started H enc F)

theorem walOpens_holds : Rows.WalOpensUptoCardSaid :=
  Claim7.holds_tied_plain_at .later [] Rows.walOpensUptoCard.laidKinds true Rows.walOpensUptoCard.stood.harness false
    walOpens_row (fun _ h => by cases h) (by kernel_rfl) (fun _ h => by cases h) walOpensUpto_row_tie rfl ⟨rfl, rfl⟩ (by kernel_rfl) rfl
    (fun f fn hf hfn => by
      obtain rfl : f = 5 := Option.some.inj ((show Tryz.prog.funcNamed Rows.walOpensUptoRow.func = some 5 by kernel_rfl).symm.trans hf) |>.symm
      obtain rfl : fn = Tryz.f5 := (Option.some.inj (Tryz.func5.symm.trans hfn)).symm
      exact ⟨by kernel_rfl, fun j t ht => by
        have hm : t ∈ Tryz.f5.params.toList := by simpa using Array.mem_of_getElem? ht
        have hall : (Tryz.f5.params.toList.all fun u => !Tryz.prog.wantsStandIn u) = true := by kernel_rfl
        exact (show Tryz.prog.wantsStandIn t = false by simpa using List.all_eq_true.1 hall t hm)⟩)
    (by kernel_rfl)

end Go.Proofs.YthacjeeafnblmaaGreatDoor
