/- DiskRuns holds where what came in is of bounded bulk: whatever is done, by whatever plans, a disk answers, and has, what the document says. -/
import Derived.Test.YtmpjjnjggiipjaaRows
import Derived.Test.YtmpjjnjggiipjaaDr
import Derived.ProofKit
import Derived.JoinedCond
namespace Go.Proofs.Ytmpjjnjggiipjaa
open Go.ChangeShapes Go.WideShapes Go.ChangeAt Go.RowKit

theorem pick_acts {W : World} {a : Addr} {len : Nat} (h : ∀ i, i < len → ∃ v, ActAt W a i v) : ∃ A : Nat → AV, ∀ i, i < len → ActAt W a i (A i) := by
  have h' : ∀ i, ∃ v, i < len → ActAt W a i v := fun i => by
    by_cases hi : i < len
    · obtain ⟨v, hv⟩ := h i hi
      exact ⟨v, fun _ => hv⟩
    · exact ⟨⟨0, ⟨#[]⟩, ⟨#[]⟩, none, 0, [], 0, ⟨0, none, 0, [], 0, false, none, 0, []⟩⟩, fun e => absurd e hi⟩
  exact ⟨fun i => Classical.choose (h' i), fun i => Classical.choose_spec (h' i)⟩

set_option maxRecDepth 100000 in
theorem diskRuns_contract (H : Type) (enc : TypeId × Value → H) (W : World) (base : Nat) (args : Array Value) (ds gs : List (DataW H)) (before : List MemPlace)
    (hval0 : ∀ (j : Nat) t v, Try.f3.params[j]? = some t → args[j]? = some v → Value.okWide Try.prog W .any base t v)
    (hW : DataW.Whole enc Try.prog Try.f3.params.toList Rows.diskRunsSpec.vars false W args.toList ds gs before) (hk : Rows.uptoSmall H (ds ++ gs) = true) :
    Calls Try.prog 3 args W fun e W' => ∃ v, e = .returned v ∧ Rows.diskRunsSpec.post enc Try.prog Try.f3 false true false false W args v W' := by
  have hval : ∀ (j : Nat) t v, Try.f3.params[j]? = some t → args[j]? = some v → Value.okWide Try.prog W .any base t v := hval0
  have hW' := hW
  obtain ⟨p, q, hA0, hV, rfl, _, _⟩ := hW
  have hA : DataW.TrodAll enc Try.prog W 0 (fun _ => true) true Try.f3.params.toList args.toList ds p := hA0
  rw [Try.params3] at hA hval
  obtain ⟨v0, v1, d0, d1, p0, p1, rfl, rfl, rfl, h0, h1⟩ := trodAll_two hA
  obtain ⟨rfl, rfl⟩ := trodVars_none hV
  have hb : Rows.uptoBulk d1 ≤ 1048576 := Nat.le_trans (bulk_part (by simp)) (of_decide_eq_true hk)
  obtain ⟨cs, rfl, hcs⟩ := okWide_struct Try.underlying24 (hval 0 24 v0 rfl rfl)
  rw [cells5] at hcs
  obtain ⟨l⟩ := cs
  obtain ⟨c0, c1, c2, c3, c4, rfl⟩ : ∃ c0 c1 c2 c3 c4, l = [c0, c1, c2, c3, c4] := by
    match l, hcs with
    | [c0, c1, c2, c3, c4], _ => exact ⟨c0, c1, c2, c3, c4, rfl⟩
  obtain ⟨pl, rfl, rfl, rfl, rfl, rfl, hP⟩ : ∃ pl : PV, c0 = .int .i64 pl.cap ∧ c1 = .slice pl.aF pl.zs.length pl.cF ∧ c2 = .int .i64 pl.cr ∧ c3 = .bool pl.dn ∧ c4 = .slice pl.aK pl.ks.length pl.cK ∧ PlanOk W pl := by
    obtain ⟨fuel, hf⟩ := h0
    exact open_plan (by simpa [Value.cells] using hf)
  obtain ⟨aA, lA, cA, rfl⟩ := okWide_slice Try.underlying25 (hval 1 25 v1 rfl rfl)
  have hA1 : (aA = none ∧ lA = 0) ∨ ∃ a, aA = some a ∧ lA ≤ cA ∧ cA ≤ maxLen ∧ ∀ i, i < lA → ∃ v, ActAt W a i v := by
    obtain ⟨fuel, hf⟩ := h1
    exact open_acts (by simpa [Value.cells] using hf) hb
  clear hA0 hval0 hval hA hk hb
  simp only [List.append_nil] at hW'
  have hlt : ∀ x ∈ p0 ++ p1, x.block < W.heap.size := fun x hx => by simpa using hW'.lt x hx
  have hwalk : Calls Try.prog 3 #[planOf pl, .slice aA lA cA] W fun e W' => e = .returned (.bool true) ∧ Below W.heap.size W W' := by
    rcases hA1 with ⟨h1, h2⟩ | ⟨a, h1, h2, h3, h4⟩
    · exact runs_walk pl aA ⟨0, 0, none⟩ lA cA (.inr ⟨h1, h2⟩) W (by omega) (fun _ => ⟨0, ⟨#[]⟩, ⟨#[]⟩, none, 0, [], 0, pl⟩) (fun i hi => by omega) hP
    · obtain ⟨A, hA⟩ := pick_acts h4
      exact runs_walk pl aA a lA cA (.inl h1) W (by omega) A hA hP
  refine hwalk.mono fun e W' ⟨he, hb⟩ => ?_
  subst he
  refine ⟨_, rfl, _, _, _, [], p0 ++ p1, [], hW', trodAll_mk1 (shut_bool Try.underlying4 true), trodAll_mk2 ?_ ?_, rfl, hb.frame _, fun h => by cases h⟩
  · exact Below.trod laidOutK (by kernel_rfl) (of_decide_eq_true (by kernel_rfl)) h0 hb (fun x hx => hlt x (by simp [hx]))
  · exact Below.trod laidOutK (by kernel_rfl) (of_decide_eq_true (by kernel_rfl)) h1 hb (fun x hx => hlt x (by simp [hx]))

set_option maxRecDepth 100000 in
theorem diskRuns_lifted (os : Os) (started : os.Started) (H : Type) (enc : TypeId × Value → H) (F : Stop.Interp) :
    ReturnsInHanded {} Try.checked os 3 .any ((Rows.OpenSpec.upto Rows.diskRunsSpec).pre6 enc Try.prog Try.f3 Rows.diskRunsUptoRow.domain false) (((Rows.OpenSpec.upto Rows.diskRunsSpec).at F).post enc Try.prog Try.f3 false true false false) := by
  refine returnsInHanded_of_cond (C := Try.checked) (s := Rows.OpenSpec.upto Rows.diskRunsSpec) (k := Rows.uptoSmall) rfl ownKnobK started (by kernel_rfl) Try.func3
    (OpenSpec.witness (enc := enc) (C := Try.checked) (s := Rows.OpenSpec.upto Rows.diskRunsSpec) (k := Rows.uptoSmall) rfl false ⟨#[], #[.agg #[.int .i64 0, .slice none 0 0, .int .i64 0, .bool false, .slice none 0 0], .slice none 0 0], []⟩ 8 (by kernel_rfl) (by kernel_rfl) (by kernel_rfl)
      (x := ([.agg [.lit (.int .i64 0), .nil, .lit (.int .i64 0), .lit (.bool false), .nil], .nil], [], [])) (by kernel_rfl) rfl (by kernel_rfl)) ?_
  intro W base args ds gs before hval hW _ hk _
  exact diskRuns_contract H enc W base args ds gs before hval hW hk

theorem diskRuns_holds : Rows.DiskRunsUptoSaid :=
  OpenClaim.holds_of_cond 3 Try.f3 rfl rfl rfl rfl rfl rfl rfl ⟨rfl, rfl, rfl, rfl, rfl⟩ rfl rfl rfl rfl rfl (by kernel_rfl) Try.func3 (by kernel_rfl)
    (of_decide_eq_true (by kernel_rfl)) (by unfold Func.isWrapper; first | (rw [if_pos (by decide +kernel)]; kernel_rfl) | (rw [if_neg (by decide +kernel)]; exact ⟨rfl, rfl⟩))
    (fun os started H enc _ F => diskRuns_lifted os started H enc F)

end Go.Proofs.Ytmpjjnjggiipjaa
