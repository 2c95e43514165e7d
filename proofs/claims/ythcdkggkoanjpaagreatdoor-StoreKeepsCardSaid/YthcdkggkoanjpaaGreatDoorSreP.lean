/- StoreKeeps holds: wherever it crashes, whatever fails and stays, behind it the map is that of all commits that told OK, and perhaps of the one behind them, whole; opened again, the same. Conditions: the three tables of the library's that the card lists lie as the program's text lays them; the card ties that. -/
import Derived.Test.YthcdkggkoanjpaaGreatDoorRows
import Derived.Test.YthcdkggkoanjpaaGreatDoorChecked
import Derived.Test.YthcdkggkoanjpaaGreatDoorCards
import Derived.Test.YthcdkggkoanjpaaGreatDoorTie
import Derived.Test.YthcdkggkoanjpaaGreatDoorBe4
import Derived.Test.YthcdkggkoanjpaaGreatDoorSra
import Derived.Test.YthcdkggkoanjpaaGreatDoorObz
import Derived.Test.YthcdkggkoanjpaaGreatDoorOfv
import Derived.Test.YthcdkggkoanjpaaGreatDoorSip
import Derived.SevenTiedAt
namespace Go.Proofs.YthcdkggkoanjpaaGreatDoor
open Go.ChangeShapes Go.WideShapes Go.ChangeAt Go.RowKit
open Go.ChangeMaps (open_string shut_string)
set_option maxRecDepth 100000 in
theorem storeKeeps_lifted (os : Os) (started : os.Started) (H : Type) (enc : TypeId × Value → H) :
    ReturnsInHanded {} Tryz.checked os 4 .any (fun w args => (Rows.storeKeepsSpec.pre enc Tryz.prog Tryz.f4 [] false w args ∧ laidMetH Tryz.prog laid3 w) ∧ sizedMet enc Tryz.prog Tryz.f4 (OpenSpec.ofChange Rows.storeKeepsSpec) false w args)
      (Rows.storeKeepsSpec.post enc Tryz.prog Tryz.f4 false true false false) := by
  refine returnsInHanded_of_change_and (C := Tryz.checked) (X := fun w _ => laidMetH Tryz.prog laid3 w) (fun _ _ _ hh h => h.of_heap hh) ownKnobK started (by kernel_rfl) Tryz.func4
    (ChangeSpec.witness_shaped (enc := enc) (C := Tryz.checked) (os := os) (X := fun w _ => laidMetH Tryz.prog laid3 w) false (World.doorLaid Tryz.prog 24 os) #[.slice none 0 0, .int .u16 0, .int .u8 0, .bool false, .slice none 0 0, .slice none 0 0] 8 rfl (World.shaped_of_RefB (by kernel_rfl) (by kernel_rfl)) (by kernel_rfl) (by kernel_rfl) (by kernel_rfl) (door_met os _)) ?_
  intro W base args ds gs before hval0 hW _ _ hL _
  have htab := tab_of_laid hL
  have hval : ∀ (j : Nat) t v, Tryz.f4.params[j]? = some t → args[j]? = some v → Value.okWide Tryz.prog W .any base t v := hval0
  have hW' := hW
  obtain ⟨p, q, hA0, hV, rfl, _, _⟩ := hW
  have hA : DataW.TrodAll enc Tryz.prog W 0 (fun _ => true) true Tryz.f4.params.toList args.toList ds p := hA0
  rw [Tryz.params4] at hA hval
  obtain ⟨v0, v1, v2, v3, v4, v5, d0, d1, d2, d3, d4, d5, p0, p1, p2, p3, p4, p5, rfl, rfl, rfl, h0, h1, h2, h3, h4, h5⟩ := trodAll_six hA
  obtain ⟨rfl, rfl⟩ := trodVars_none hV
  obtain ⟨a0, l0, c0, rfl⟩ := okWide_slice Tryz.underlying23 (hval 0 23 v0 rfl rfl)
  obtain ⟨L0, r0⟩ : ∃ L : List (List Opm), Obs W (.slice a0 l0 c0) l0 L := by
    obtain ⟨fuel, hf⟩ := h0
    exact open_batches (by simpa [Value.cells] using hf)
  obtain ⟨z1, hz1, _, _, hw1⟩ := open_int Tryz.underlying58 (hval 1 58 v1 rfl rfl) h1
  subst hz1
  have x1 : 0 ≤ z1 ∧ z1 ≤ 65535 := by simpa [Lit.wf, IntKind.min, IntKind.max, IntKind.signed, IntKind.bits] using hw1
  obtain ⟨z2, hz2, _, _, hw2⟩ := open_int Tryz.underlying5 (hval 2 5 v2 rfl rfl) h2
  subst hz2
  have x2 : 0 ≤ z2 ∧ z2 ≤ 255 := by simpa [Lit.wf, IntKind.min, IntKind.max, IntKind.signed, IntKind.bits] using hw2
  obtain ⟨b3, rfl⟩ := okWide_bool Tryz.underlying4 (hval 3 4 v3 rfl rfl)
  obtain ⟨a4, l4, c4, rfl⟩ := okWide_slice Tryz.underlying24 (hval 4 24 v4 rfl rfl)
  obtain ⟨A4, e4, r4, m4⟩ : ∃ A : List UInt8, A.length = l4 ∧ Reads W (.slice a4 l4 c4) (bv A) ∧ l4 ≤ maxLen := by
    obtain ⟨fuel, hf⟩ := h4
    exact open_bytes (by simpa [Value.cells] using hf)
  obtain ⟨a5, l5, c5, rfl⟩ := okWide_slice Tryz.underlying24 (hval 5 24 v5 rfl rfl)
  obtain ⟨A5, e5, r5, m5⟩ : ∃ A : List UInt8, A.length = l5 ∧ Reads W (.slice a5 l5 c5) (bv A) ∧ l5 ≤ maxLen := by
    obtain ⟨fuel, hf⟩ := h5
    exact open_bytes (by simpa [Value.cells] using hf)
  clear hA0 hval0 hval hA
  simp only [List.append_nil] at hW'
  have hlt : ∀ x ∈ p0 ++ p1 ++ p2 ++ p3 ++ p4 ++ p5, x.block < W.heap.size := fun x hx => by simpa using hW'.lt x hx
  refine (stkeeps_int st_kept _ l0 L0 z1 z2 b3 _ A4 _ A5 W r0 x1 x2 r4 (by rw [e4]; exact m4) r5 (by rw [e5]; exact m5) htab).mono fun e W' ⟨he, hb⟩ => ?_
  subst he
  refine ⟨_, rfl, _, _, _, [], p0 ++ (p1 ++ (p2 ++ (p3 ++ (p4 ++ p5)))), [], hW', trodAll_mk1 (shut_bool Tryz.underlying4 true), trodAll_mk6 ?_ ?_ ?_ ?_ ?_ ?_, rfl, hb.frame _, fun h => by cases h⟩
  · exact Below.trod laidOutK (by kernel_rfl) (of_decide_eq_true (by kernel_rfl)) h0 hb (fun x hx => hlt x (by simp [hx]))
  · exact Below.trod laidOutK (by kernel_rfl) (of_decide_eq_true (by kernel_rfl)) h1 hb (fun x hx => hlt x (by simp [hx]))
  · exact Below.trod laidOutK (by kernel_rfl) (of_decide_eq_true (by kernel_rfl)) h2 hb (fun x hx => hlt x (by simp [hx]))
  · exact Below.trod laidOutK (by kernel_rfl) (of_decide_eq_true (by kernel_rfl)) h3 hb (fun x hx => hlt x (by simp [hx]))
  · exact Below.trod laidOutK (by kernel_rfl) (of_decide_eq_true (by kernel_rfl)) h4 hb (fun x hx => hlt x (by simp [hx]))
  · exact Below.trod laidOutK (by kernel_rfl) (of_decide_eq_true (by kernel_rfl)) h5 hb (fun x hx => hlt x (by simp [hx]))
theorem storeKeeps_row : Rows.StoreKeepsSaid :=
  OpenClaim.holds_of_wide 4 Tryz.f4 rfl rfl rfl rfl rfl rfl rfl ⟨rfl, rfl, rfl, rfl, rfl⟩ rfl rfl rfl rfl rfl (by kernel_rfl) Tryz.func4 (by kernel_rfl)
    (of_decide_eq_true (by kernel_rfl)) (by unfold Func.isWrapper; rw [if_neg (of_decide_eq_false (by kernel_rfl))]; exact ⟨rfl, rfl⟩)
    (fun os started H enc _ => storeKeeps_lifted os started H enc)
theorem storeKeeps_holds : Rows.StoreKeepsCardSaid :=
  Claim7.holds_tied_plain_at .later [] Rows.storeKeepsCard.laidKinds true Rows.storeKeepsCard.stood.harness false
    storeKeeps_row (fun _ h => by cases h) (by kernel_rfl) (fun _ h => by cases h) storeKeeps_row_tie rfl ⟨rfl, rfl⟩ (by kernel_rfl) rfl
    (fun f fn hf hfn => by
      obtain rfl : f = 4 := Option.some.inj ((show Tryz.prog.funcNamed Rows.storeKeepsRow.func = some 4 by kernel_rfl).symm.trans hf) |>.symm
      obtain rfl : fn = Tryz.f4 := (Option.some.inj (Tryz.func4.symm.trans hfn)).symm
      exact ⟨by kernel_rfl, fun j t ht => by
        have hm : t ∈ Tryz.f4.params.toList := by simpa using Array.mem_of_getElem? ht
        have hall : (Tryz.f4.params.toList.all fun u => !Tryz.prog.wantsStandIn u) = true := by kernel_rfl
        exact (show Tryz.prog.wantsStandIn t = false by simpa using List.all_eq_true.1 hall t hm)⟩)
    (by kernel_rfl)
end Go.Proofs.YthcdkggkoanjpaaGreatDoor
