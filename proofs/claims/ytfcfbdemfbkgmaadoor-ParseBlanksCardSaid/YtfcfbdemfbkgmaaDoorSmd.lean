/- The reference's comparing of trees: modules. Made by wip/tools/gensmd.py. Numbers and types by name. -/
import Derived.Test.YtfcfbdemfbkgmaaDoorSmc
import Derived.Deep.CutRange
import Derived.BigQuiet
namespace Go.Proofs.YtfcfbdemfbkgmaaDoor
open Go.RowKit Go.Lib
set_option maxRecDepth 100000

set_option maxHeartbeats 16000000 in
theorem cmp_same_false (m1 m2 : Mdl) (s1 s2 : List Value) (w : World) (h1 : ModT false w m1 s1) (h2 : ModT false w m2 s2) (hab : false = true → m1 = m2) :
    Calls Tryd.prog 18 #[.agg s1.toArray, .agg s2.toArray, .bool false] w (Cmp (m1.nrm false = m2.nrm false) w) := by
  have hq := mdl_nrm false m1 m2
  obtain ⟨z1, vI1, vV1, vP1, rfl, pz1, tI1, tV1, tP1⟩ := h1
  obtain ⟨z2, vI2, vV2, vP2, rfl, pz2, tI2, tV2, tP2⟩ := h2
  obtain ⟨aI1, cI1, rfl⟩ := tI1.shape
  obtain ⟨aV1, cV1, rfl⟩ := tV1.shape
  obtain ⟨aP1, cP1, rfl⟩ := tP1.shape
  obtain ⟨aI2, cI2, rfl⟩ := tI2.shape
  obtain ⟨aV2, cV2, rfl⟩ := tV2.shape
  obtain ⟨aP2, cP2, rfl⟩ := tP2.shape
  have hpz : false = true → z1 = z2 := fun ht => by rw [pz1 ht, pz2 ht, hab ht]
  obtain ⟨nm1, w1, is1, vs1, ps1⟩ := m1
  obtain ⟨nm2, w2, is2, vs2, ps2⟩ := m2
  simp only at hq tI1 tV1 tP1 tI2 tV2 tP2
  have hI1 : is1.length ≤ 9223372036854775807 := Nat.le_trans tI1.1 (by decide)
  have hV1 : vs1.length ≤ 9223372036854775807 := Nat.le_trans tV1.1 (by decide)
  have hP1 : ps1.length ≤ 9223372036854775807 := Nat.le_trans tP1.1 (by decide)
  have HB := Lib.hid (And.intro (And.intro tI1 tI2) (And.intro (And.intro tV1 tV2) (And.intro tP1 tP2)))
  have HX := Lib.hid (And.intro hq (And.intro hab hpz))
  clear tI1 tV1 tP1 tI2 tV2 tP2 pz1 pz2 hq hab hpz
  unfold mdlVT
  simp only
  obtain ⟨W, hW⟩ : ∃ W, (w.alloc (.cells #[.string (tx nm1), .int .i64 z1, .slice aI1 is1.length cI1, .slice aV1 vs1.length cV1, .slice aP1 ps1.length cP1] 27)).alloc (.cells #[.string (tx nm2), .int .i64 z2, .slice aI2 is2.length cI2, .slice aV2 vs2.length cV2, .slice aP2 ps2.length cP2] 27) = W := ⟨_, rfl⟩
  have b1 : W.heap[w.heap.size]? = some (.cells #[.string (tx nm1), .int .i64 z1, .slice aI1 is1.length cI1, .slice aV1 vs1.length cV1, .slice aP1 ps1.length cP1] 27) := by rw [← hW]; exact (two_new w _ _).1
  have b2 : W.heap[w.heap.size + 1]? = some (.cells #[.string (tx nm2), .int .i64 z2, .slice aI2 is2.length cI2, .slice aV2 vs2.length cV2, .slice aP2 ps2.length cP2] 27) := by rw [← hW]; exact (two_new w _ _).2.1
  have HW : Hid (Grow w W) := Lib.hid (by rw [← hW]; exact ((Below.refl _ w).alloc (Nat.le_refl _) _).alloc (by simp) _)
  have x1_0 : W.cell? ⟨w.heap.size, 0, none⟩ = some (.string (tx nm1)) := cellsN b1 0 _ rfl
  have x1_1 : W.cell? ⟨w.heap.size, 1, none⟩ = some (.int .i64 z1) := cellsN b1 1 _ rfl
  have x1_2 : W.cell? ⟨w.heap.size, 2, none⟩ = some (.slice aI1 is1.length cI1) := cellsN b1 2 _ rfl
  have x1_3 : W.cell? ⟨w.heap.size, 3, none⟩ = some (.slice aV1 vs1.length cV1) := cellsN b1 3 _ rfl
  have x1_4 : W.cell? ⟨w.heap.size, 4, none⟩ = some (.slice aP1 ps1.length cP1) := cellsN b1 4 _ rfl
  have x2_0 : W.cell? ⟨w.heap.size + 1, 0, none⟩ = some (.string (tx nm2)) := cellsN b2 0 _ rfl
  have x2_1 : W.cell? ⟨w.heap.size + 1, 1, none⟩ = some (.int .i64 z2) := cellsN b2 1 _ rfl
  have x2_2 : W.cell? ⟨w.heap.size + 1, 2, none⟩ = some (.slice aI2 is2.length cI2) := cellsN b2 2 _ rfl
  have x2_3 : W.cell? ⟨w.heap.size + 1, 3, none⟩ = some (.slice aV2 vs2.length cV2) := cellsN b2 3 _ rfl
  have x2_4 : W.cell? ⟨w.heap.size + 1, 4, none⟩ = some (.slice aP2 ps2.length cP2) := cellsN b2 4 _ rfl
  clear b1 b2
  go_enter Tryd.func18, Tryd.ntmps18
  go_upto_region 1 with fail
  generalize Value.agg #[.string (tx nm1), .int .i64 z1, .slice aI1 is1.length cI1, .slice aV1 vs1.length cV1, .slice aP1 ps1.length cP1] = A1
  generalize Value.agg #[.string (tx nm2), .int .i64 z2, .slice aI2 is2.length cI2, .slice aV2 vs2.length cV2, .slice aP2 ps2.length cP2] = A2
  generalize w.heap.size + 1 = V at *
  generalize w.heap.size = U at *
  go_cut [56] from 15 (fun s56 wx => W = wx ∧ ∃ B : Bool, s56 = .bool B ∧ Hid (B = false ↔ nm1 = nm2 ∧ (false = true → z1 = z2) ∧ is1.length = is2.length ∧ vs1.length = vs2.length ∧ ps1.length = ps2.length))
  case first =>
    have hpz := HX.out.2.2
    clear HB HX HW hW
    go_wp2_with fail
    all_goals go_meet
    all_goals clear x1_0 x1_1 x1_2 x1_3 x1_4 x2_0 x2_1 x2_2 x2_3 x2_4
    all_goals (refine ⟨rfl, _, rfl, Lib.hid ?_⟩; try simp only [tx_list] at *; first | (simp_all; done) | (simp_all; omega))
  case rest =>
    obtain ⟨hw2, B, rfl, hB⟩ := hcut
    subst hw2
    cases B with
    | true =>
      go_wp2_with fail
      go_ret
      refine ⟨false, rfl, ⟨(fun h => by cases h), fun h => ?_⟩, HW.out⟩
      obtain ⟨r1, r2, r3, r4, r5⟩ := HX.out.1.1 h
      have := hB.out.2 ⟨r1, HX.out.2.2, by have := congrArg List.length r3; rwa [List.length_map, List.length_map] at this, by have := congrArg List.length r4; rwa [List.length_map, List.length_map] at this, by have := congrArg List.length r5; rwa [List.length_map, List.length_map] at this⟩
      cases this
    | false =>
    obtain ⟨e1, _, e3, e4, e5⟩ := hB.out.1 rfl
    rw [← e3] at x2_2
    rw [← e4] at x2_3
    rw [← e5] at x2_4
    have hb := HB.out
    rw [← e3, ← e4, ← e5] at hb
    have HB1 := Lib.hid hb.1
    have HB2 := Lib.hid hb.2.1
    have HB3 := Lib.hid hb.2.2
    have HNM := Lib.hid (And.intro e1 (And.intro e3 (And.intro e4 e5)))
    clear hb HB hB e1 e3 e4 e5 x1_0 x1_1 x2_0 x2_1
    have HC1 := Lib.hid (And.intro x1_2 x2_2)
    have HC2 := Lib.hid (And.intro x1_3 x2_3)
    have HC3 := Lib.hid (And.intro x1_4 x2_4)
    clear x1_2 x2_2 x1_3 x2_3 x1_4 x2_4 hW
    obtain ⟨nI, hnI⟩ : ∃ n, is1.length = n := ⟨_, rfl⟩
    rw [hnI] at HC1 HB1 hI1
    have HNI := Lib.hid hnI
    clear hnI
    obtain ⟨nV, hnV⟩ : ∃ n, vs1.length = n := ⟨_, rfl⟩
    rw [hnV] at HC2 HB2 hV1
    have HNV := Lib.hid hnV
    clear hnV
    obtain ⟨nP, hnP⟩ : ∃ n, ps1.length = n := ⟨_, rfl⟩
    rw [hnP] at HC3 HB3 hP1
    have HNP := Lib.hid hnP
    clear hnP
    go_wp2_with fail
    go_loopw [7] (fun i wr => ∃ k : Nat, k ≤ nI ∧ i = .int .i64 k ∧ Hid (Grow W wr ∧ (is1.take k).map (Imp.nrm false) = (is2.take k).map (Imp.nrm false)))
      (fun i _ => nI - (RowKit.intOf i).toNat)
    case atStart => exact ⟨0, Nat.zero_le _, rfl, Lib.hid ⟨Grow.refl W, rfl⟩⟩
    case round =>
      obtain ⟨k, hk, rfl, hG⟩ := hrel
      have d1 := hG.out.1.cell HC1.out.1
      have d2 := hG.out.1.cell HC1.out.2
      by_cases h1 : k < nI
      case pos =>
        as_aux_lemma =>
        have h3 : (k : Int) < (nI : Int) := by omega
        obtain ⟨y1, o1, c1, rfl, e1, ⟨q1, rfl, p1⟩, _, g1⟩ := TRows.at (HB1.out.1.imp (HW.out.trans hG.out.1) fun _ _ h => h) h1
        obtain ⟨y2, o2, c2, rfl, e2, ⟨q2, rfl, p2⟩, _, g2⟩ := TRows.at (HB1.out.2.imp (HW.out.trans hG.out.1) fun _ _ h => h) h1
        have hx := imp_nrm false o1 o2
        have hxa : (is1.map (Imp.nrm false) = is2.map (Imp.nrm false)) → o1.nrm false = o2.nrm false := fun h => map_at _ e1 e2 h
        have HN : Hid (o1.nrm false = o2.nrm false → (is1.take (k + 1)).map (Imp.nrm false) = (is2.take (k + 1)).map (Imp.nrm false)) := Lib.hid fun h => er_take_next (Imp.nrm false) e1 e2 hG.out.2 h
        obtain ⟨n1, w1'⟩ := o1
        obtain ⟨n2, w2'⟩ := o2
        simp only at hx p1 p2
        have a0 := g1.1 _ rfl
        have a1 := g1.2 1 _ (by decide) rfl
        have b0 := g2.1 _ rfl
        have b1 := g2.2 1 _ (by decide) rfl
        simp only at a0 a1 b0 b1
        have HXA := Lib.hid (And.intro hxa hx)
        by_cases hn : n1 = n2
        case neg =>
          have y1 := tx_list n1
          have y2 := tx_list n2
          have hn2 : (n1 == n2) = false := by simpa using hn
          have hn3 : (n1 != n2) = true := by simpa using hn
          clear e1 e2 hxa hx p1 p2 g1 g2
          go_wp2_with fail
          go_quiet (fail)
          go_wp2
          go_ret
          refine ⟨false, rfl, ⟨(fun h => by cases h), fun h => ?_⟩, HW.out.trans (below_drewN hG.out.1 _)⟩
          exact absurd (HXA.out.2.1 (HXA.out.1 (HX.out.1.1 h).2.2.1)).1 hn
        subst hn
        have HO : Hid (false = true → w1' = w2') := Lib.hid fun h => by cases h
        have HN2 := Lib.hid (HN.out (HXA.out.2.2 ⟨rfl, HO.out⟩))
        clear g1 g2 e1 e2 hxa hx p1 p2 HO
        go_wp2_with fail
        go_quiet (fail)
        go_wp2
        case roundEnd => exact ⟨⟨k + 1, by omega, by go_num, Lib.hid ⟨below_drewN hG.out.1 _, HN2.out⟩⟩, by simp [RowKit.intOf]; omega⟩
      case neg =>
      as_aux_lemma =>
      have h3 : ¬ (k : Int) < (nI : Int) := by omega
      obtain rfl : k = nI := by omega
      have HFI : Hid (Grow W wr ∧ is1.map (Imp.nrm false) = is2.map (Imp.nrm false)) := Lib.hid ⟨hG.out.1, by
        have := hG.out.2
        rwa [List.take_of_length_le (by rw [HNI.out]; exact Nat.le_refl _), List.take_of_length_le (by rw [← HNM.out.2.1, HNI.out]; exact Nat.le_refl _)] at this⟩
      clear HC1 hG HB1
      go_wp2_with fail
      clear d1 d2
      go_loopw [8] (fun i wr => ∃ k : Nat, k ≤ nV ∧ i = .int .i64 k ∧ Hid (Grow W wr ∧ (vs1.take k).map (Vrb.nrm false) = (vs2.take k).map (Vrb.nrm false)))
        (fun i _ => nV - (RowKit.intOf i).toNat)
      case atStart => exact ⟨0, Nat.zero_le _, rfl, Lib.hid ⟨HFI.out.1, rfl⟩⟩
      case round =>
        obtain ⟨k, hk, rfl, hG⟩ := hrel
        have d1 := hG.out.1.cell HC2.out.1
        have d2 := hG.out.1.cell HC2.out.2
        by_cases h1 : k < nV
        case pos =>
          as_aux_lemma =>
          have h3 : (k : Int) < (nV : Int) := by omega
          obtain ⟨y1, o1, c1, rfl, e1, ⟨z1, rfl, p1⟩, _, g1⟩ := TRows.at (HB2.out.1.imp (HW.out.trans hG.out.1) fun _ _ h => h) h1
          obtain ⟨y2, o2, c2, rfl, e2, ⟨z2, rfl, p2⟩, _, g2⟩ := TRows.at (HB2.out.2.imp (HW.out.trans hG.out.1) fun _ _ h => h) h1
          have hx := vrb_nrm false o1 o2
          have hxa : (vs1.map (Vrb.nrm false) = vs2.map (Vrb.nrm false)) → o1.nrm false = o2.nrm false := fun h => map_at _ e1 e2 h
          have HN : Hid (o1.nrm false = o2.nrm false → (vs1.take (k + 1)).map (Vrb.nrm false) = (vs2.take (k + 1)).map (Vrb.nrm false)) := Lib.hid fun h => er_take_next (Vrb.nrm false) e1 e2 hG.out.2 h
          obtain ⟨m1, l1, i1, w1'⟩ := o1
          obtain ⟨m2, l2, i2, w2'⟩ := o2
          simp only at hx p1 p2
          have HO : Hid (false = true → w1' = w2') := Lib.hid fun h => by
            cases h
          have HXA := Lib.hid (And.intro hxa hx)
          unfold varVT at g1 g2
          simp only at g1 g2
          clear e1 e2 hxa hx p1 p2
          go_upto_region 11 with fail
          go_cut [9, 10] from 95 to 140 (fun s9 s10 wx => ∃ U2 V2 : Nat, s9 = .pointer (some ⟨U2, 0, none⟩) ∧ s10 = .pointer (some ⟨V2, 0, none⟩) ∧ Hid (Grow wr wx ∧ U2 ≠ V2 ∧ wx.heap[U2]? = some (.cells #[.string (tx m1), .string (tx l1), .int .i64 i1, .int .i64 z1] 41) ∧ wx.heap[V2]? = some (.cells #[.string (tx m2), .string (tx l2), .int .i64 i2, .int .i64 z2] 41)))
          case first =>
            have r1 := fun o : Obj => g1.later ((Below.refl _ wr).alloc (Nat.le_refl _) o)
            have r2 := fun o : Obj => g2.later ((Below.refl _ wr).alloc (Nat.le_refl _) o)
            have s1 := fun o p : Obj => (r1 o).later ((Below.refl _ (wr.alloc o)).alloc (Nat.le_refl _) p)
            have s2 := fun o p : Obj => (r2 o).later ((Below.refl _ (wr.alloc o)).alloc (Nat.le_refl _) p)
            have da1 := fun o : Obj => Grow.cell (w := wr) ((Below.refl _ wr).alloc (Nat.le_refl _) o) d1
            have da2 := fun o : Obj => Grow.cell (w := wr) ((Below.refl _ wr).alloc (Nat.le_refl _) o) d2
            have db1 := fun o p : Obj => Grow.cell (w := wr.alloc o) ((Below.refl _ (wr.alloc o)).alloc (Nat.le_refl _) p) (da1 o)
            have db2 := fun o p : Obj => Grow.cell (w := wr.alloc o) ((Below.refl _ (wr.alloc o)).alloc (Nat.le_refl _) p) (da2 o)
            have a0 := g1.1 _ rfl
            have a1 := g1.2 1 _ (by decide) rfl
            have a2 := g1.2 2 _ (by decide) rfl
            have a3 := g1.2 3 _ (by decide) rfl
            have b0 := g2.1 _ rfl
            have b1 := g2.2 1 _ (by decide) rfl
            have b2 := g2.2 2 _ (by decide) rfl
            have b3 := g2.2 3 _ (by decide) rfl
            have ca0 := fun o : Obj => (r1 o).1 _ rfl
            have ca1 := fun o : Obj => (r1 o).2 1 _ (by decide) rfl
            have ca2 := fun o : Obj => (r1 o).2 2 _ (by decide) rfl
            have ca3 := fun o : Obj => (r1 o).2 3 _ (by decide) rfl
            have cb0 := fun o : Obj => (r2 o).1 _ rfl
            have cb1 := fun o : Obj => (r2 o).2 1 _ (by decide) rfl
            have cb2 := fun o : Obj => (r2 o).2 2 _ (by decide) rfl
            have cb3 := fun o : Obj => (r2 o).2 3 _ (by decide) rfl
            have ea0 := fun o p : Obj => (s1 o p).1 _ rfl
            have ea1 := fun o p : Obj => (s1 o p).2 1 _ (by decide) rfl
            have ea2 := fun o p : Obj => (s1 o p).2 2 _ (by decide) rfl
            have ea3 := fun o p : Obj => (s1 o p).2 3 _ (by decide) rfl
            have eb0 := fun o p : Obj => (s2 o p).1 _ rfl
            have eb1 := fun o p : Obj => (s2 o p).2 1 _ (by decide) rfl
            have eb2 := fun o p : Obj => (s2 o p).2 2 _ (by decide) rfl
            have eb3 := fun o p : Obj => (s2 o p).2 3 _ (by decide) rfl
            clear g1 g2 r1 r2 s1 s2
            go_region
            all_goals go_wp2_with fail
            all_goals go_meet
            case rel => exact ⟨_, _, rfl, rfl, Lib.hid ⟨(two_new wr _ _).2.2, Nat.ne_of_lt (Nat.lt_succ_self _), (two_new wr _ _).1, (two_new wr _ _).2.1⟩⟩
            case rel => exact ⟨_, _, rfl, rfl, Lib.hid ⟨(two_new wr _ _).2.2, Nat.ne_of_gt (Nat.lt_succ_self _), (two_new wr _ _).2.1, (two_new wr _ _).1⟩⟩
          case rest =>
            obtain ⟨U2, V2, rfl, rfl, hW2⟩ := hcut
            go_upto_region 12 with fail
            go_cut [140] from 95 to 140 (fun s140 wx => wc = wx ∧ ∃ B : Bool, s140 = .bool B ∧ Hid (B = false ↔ m1 = m2 ∧ l1 = l2 ∧ i1 = i2))
            case first =>
              have x1_0 : wc.cell? ⟨U2, 0, none⟩ = some (.string (tx m1)) := cellsN hW2.out.2.2.1 0 _ rfl
              have x1_1 : wc.cell? ⟨U2, 1, none⟩ = some (.string (tx l1)) := cellsN hW2.out.2.2.1 1 _ rfl
              have x1_2 : wc.cell? ⟨U2, 2, none⟩ = some (.int .i64 i1) := cellsN hW2.out.2.2.1 2 _ rfl
              have x1_3 : wc.cell? ⟨U2, 3, none⟩ = some (.int .i64 z1) := cellsN hW2.out.2.2.1 3 _ rfl
              have x2_0 : wc.cell? ⟨V2, 0, none⟩ = some (.string (tx m2)) := cellsN hW2.out.2.2.2 0 _ rfl
              have x2_1 : wc.cell? ⟨V2, 1, none⟩ = some (.string (tx l2)) := cellsN hW2.out.2.2.2 1 _ rfl
              have x2_2 : wc.cell? ⟨V2, 2, none⟩ = some (.int .i64 i2) := cellsN hW2.out.2.2.2 2 _ rfl
              have x2_3 : wc.cell? ⟨V2, 3, none⟩ = some (.int .i64 z2) := cellsN hW2.out.2.2.2 3 _ rfl
              clear d1 d2 HB2 HB3 HX HXA HO HN
              go_wp2_with fail
              all_goals go_meet
              all_goals clear x1_0 x1_1 x1_2 x1_3 x2_0 x2_1 x2_2 x2_3 g1 g2
              all_goals (refine ⟨rfl, _, rfl, Lib.hid ?_⟩; try simp only [tx_list] at *; first | (simp_all; done) | (simp_all; omega))
            case rest =>
              obtain ⟨hw3, B, rfl, hB⟩ := hcut
              subst hw3
              cases B with
              | true =>
                go_wp2_with fail
                go_ret
                refine ⟨false, rfl, ⟨(fun h => by cases h), fun h => ?_⟩, HW.out.trans (hG.out.1.trans hW2.out.1)⟩
                have hz := HXA.out.2.1 (HXA.out.1 (HX.out.1.1 h).2.2.2.1)
                have := hB.out.2 ⟨hz.1, hz.2.1, hz.2.2.1⟩
                cases this
              | false =>
                have hz := hB.out.1 rfl
                have HN2 := Lib.hid (And.intro (hG.out.1.trans hW2.out.1) (HN.out (HXA.out.2.2 ⟨hz.1, hz.2.1, hz.2.2, HO.out⟩)))
                clear hz
                go_wp2_with fail
                exact ⟨⟨k + 1, by omega, by go_num, HN2⟩, by simp [RowKit.intOf]; omega⟩
        case neg =>
        as_aux_lemma =>
        have h3 : ¬ (k : Int) < (nV : Int) := by omega
        obtain rfl : k = nV := by omega
        have HFV : Hid (Grow W wr ∧ vs1.map (Vrb.nrm false) = vs2.map (Vrb.nrm false)) := Lib.hid ⟨hG.out.1, by
          have := hG.out.2
          rwa [List.take_of_length_le (by rw [HNV.out]; exact Nat.le_refl _), List.take_of_length_le (by rw [← HNM.out.2.2.1, HNV.out]; exact Nat.le_refl _)] at this⟩
        clear HC2 hG HB2
        go_wp2_with fail
        clear d1 d2
        go_loopw [11] (fun i wr => ∃ k : Nat, k ≤ nP ∧ i = .int .i64 k ∧ Hid (Grow W wr ∧ (ps1.take k).map (Prc.nrm false) = (ps2.take k).map (Prc.nrm false)))
          (fun i _ => nP - (RowKit.intOf i).toNat)
        case atStart => exact ⟨0, Nat.zero_le _, rfl, Lib.hid ⟨HFV.out.1, rfl⟩⟩
        case round =>
          obtain ⟨k, hk, rfl, hG⟩ := hrel
          have d1 := hG.out.1.cell HC3.out.1
          have d2 := hG.out.1.cell HC3.out.2
          by_cases h1 : k < nP
          case neg =>
            as_aux_lemma =>
            have h3 : ¬ (k : Int) < (nP : Int) := by omega
            obtain rfl : k = nP := by omega
            have HFP : Hid (ps1.map (Prc.nrm false) = ps2.map (Prc.nrm false)) := Lib.hid (by
              have := hG.out.2
              rwa [List.take_of_length_le (by rw [HNP.out]; exact Nat.le_refl _), List.take_of_length_le (by rw [← HNM.out.2.2.2, HNP.out]; exact Nat.le_refl _)] at this)
            have HPOS : Hid (false = true → w1 = w2) := Lib.hid fun h => by
              cases h
            have HALL := Lib.hid (HX.out.1.2 ⟨HNM.out.1, HPOS.out, HFI.out.2, HFV.out.2, HFP.out⟩)
            go_wp2_with fail
            go_ret
            exact ⟨true, rfl, ⟨fun _ => HALL.out, fun _ => rfl⟩, HW.out.trans hG.out.1⟩
          as_aux_lemma =>
          have h3 : (k : Int) < (nP : Int) := by omega
          obtain ⟨y1, o1, c1, rfl, e1, ⟨z1, vP1, vU1, vB1, rfl, p1, tP1, tU1, tB1⟩, _, g1⟩ := TRows.at (HB3.out.1.imp (HW.out.trans hG.out.1) fun _ _ h => h.later (HW.out.trans hG.out.1)) h1
          obtain ⟨y2, o2, c2, rfl, e2, ⟨z2, vP2, vU2, vB2, rfl, p2, tP2, tU2, tB2⟩, _, g2⟩ := TRows.at (HB3.out.2.imp (HW.out.trans hG.out.1) fun _ _ h => h.later (HW.out.trans hG.out.1)) h1
          have hx := prc_nrm false o1 o2
          have hxa : (ps1.map (Prc.nrm false) = ps2.map (Prc.nrm false)) → o1.nrm false = o2.nrm false := fun h => map_at _ e1 e2 h
          have HN : Hid (o1.nrm false = o2.nrm false → (ps1.take (k + 1)).map (Prc.nrm false) = (ps2.take (k + 1)).map (Prc.nrm false)) := Lib.hid fun h => er_take_next (Prc.nrm false) e1 e2 hG.out.2 h
          have ho : false = true → o1 = o2 := fun h => by
            cases h
          obtain ⟨aP1, cP1, rfl⟩ := tP1.shape
          obtain ⟨aU1, cU1, rfl⟩ := tU1.shape
          obtain ⟨aB1, cB1, rfl⟩ := tB1.shape
          obtain ⟨aP2, cP2, rfl⟩ := tP2.shape
          obtain ⟨aU2, cU2, rfl⟩ := tU2.shape
          obtain ⟨aB2, cB2, rfl⟩ := tB2.shape
          obtain ⟨m1, pr1, yes1, r1, c1, us1, bd1, w1'⟩ := o1
          obtain ⟨m2, pr2, yes2, r2, c2, us2, bd2, w2'⟩ := o2
          simp only at hx p1 p2 tP1 tU1 tB1 tP2 tU2 tB2
          have HB := Lib.hid (And.intro (And.intro tP1 tP2) (And.intro (And.intro tU1 tU2) (And.intro tB1 tB2)))
          have HXA := Lib.hid (And.intro hxa (And.intro hx ho))
          have hq1 : pr1.length ≤ 9223372036854775807 := Nat.le_trans tP1.1 (by decide)
          have HPOS : Hid (false = true → w1' = w2') := Lib.hid fun h => by
            have := ho h
            simp only [Prc.mk.injEq] at this
            exact this.2.2.2.2.2.2.2
          have HBD : Hid (false = true → bd1 = bd2) := Lib.hid fun h => by
            have := ho h
            simp only [Prc.mk.injEq] at this
            exact this.2.2.2.2.2.2.1
          unfold prcVT at g1 g2
          simp only at g1 g2
          clear e1 e2 hxa hx p1 p2 tP1 tU1 tB1 tP2 tU2 tB2 ho
          go_upto_region 17 with fail
          go_cut [12, 13] from 141 to 272 (fun s12 s13 wx => ∃ U2 V2 : Nat, s12 = .pointer (some ⟨U2, 0, none⟩) ∧ s13 = .pointer (some ⟨V2, 0, none⟩) ∧ Hid (Grow wr wx ∧ U2 ≠ V2 ∧ wx.heap[U2]? = some (.cells #[.string (tx m1), .slice aP1 pr1.length cP1, .bool yes1, .string (tx r1), .string (tx c1), .slice aU1 us1.length cU1, .slice aB1 bd1.length cB1, .int .i64 z1] 70) ∧ wx.heap[V2]? = some (.cells #[.string (tx m2), .slice aP2 pr2.length cP2, .bool yes2, .string (tx r2), .string (tx c2), .slice aU2 us2.length cU2, .slice aB2 bd2.length cB2, .int .i64 z2] 70)))
          case first =>
            have r1 := fun o : Obj => g1.later ((Below.refl _ wr).alloc (Nat.le_refl _) o)
            have r2 := fun o : Obj => g2.later ((Below.refl _ wr).alloc (Nat.le_refl _) o)
            have s1 := fun o p : Obj => (r1 o).later ((Below.refl _ (wr.alloc o)).alloc (Nat.le_refl _) p)
            have s2 := fun o p : Obj => (r2 o).later ((Below.refl _ (wr.alloc o)).alloc (Nat.le_refl _) p)
            have da1 := fun o : Obj => Grow.cell (w := wr) ((Below.refl _ wr).alloc (Nat.le_refl _) o) d1
            have da2 := fun o : Obj => Grow.cell (w := wr) ((Below.refl _ wr).alloc (Nat.le_refl _) o) d2
            have db1 := fun o p : Obj => Grow.cell (w := wr.alloc o) ((Below.refl _ (wr.alloc o)).alloc (Nat.le_refl _) p) (da1 o)
            have db2 := fun o p : Obj => Grow.cell (w := wr.alloc o) ((Below.refl _ (wr.alloc o)).alloc (Nat.le_refl _) p) (da2 o)
            have a0 := g1.1 _ rfl
            have a1 := g1.2 1 _ (by decide) rfl
            have a2 := g1.2 2 _ (by decide) rfl
            have a3 := g1.2 3 _ (by decide) rfl
            have a4 := g1.2 4 _ (by decide) rfl
            have a5 := g1.2 5 _ (by decide) rfl
            have a6 := g1.2 6 _ (by decide) rfl
            have a7 := g1.2 7 _ (by decide) rfl
            have b0 := g2.1 _ rfl
            have b1 := g2.2 1 _ (by decide) rfl
            have b2 := g2.2 2 _ (by decide) rfl
            have b3 := g2.2 3 _ (by decide) rfl
            have b4 := g2.2 4 _ (by decide) rfl
            have b5 := g2.2 5 _ (by decide) rfl
            have b6 := g2.2 6 _ (by decide) rfl
            have b7 := g2.2 7 _ (by decide) rfl
            have ca0 := fun o : Obj => (r1 o).1 _ rfl
            have ca1 := fun o : Obj => (r1 o).2 1 _ (by decide) rfl
            have ca2 := fun o : Obj => (r1 o).2 2 _ (by decide) rfl
            have ca3 := fun o : Obj => (r1 o).2 3 _ (by decide) rfl
            have ca4 := fun o : Obj => (r1 o).2 4 _ (by decide) rfl
            have ca5 := fun o : Obj => (r1 o).2 5 _ (by decide) rfl
            have ca6 := fun o : Obj => (r1 o).2 6 _ (by decide) rfl
            have ca7 := fun o : Obj => (r1 o).2 7 _ (by decide) rfl
            have cb0 := fun o : Obj => (r2 o).1 _ rfl
            have cb1 := fun o : Obj => (r2 o).2 1 _ (by decide) rfl
            have cb2 := fun o : Obj => (r2 o).2 2 _ (by decide) rfl
            have cb3 := fun o : Obj => (r2 o).2 3 _ (by decide) rfl
            have cb4 := fun o : Obj => (r2 o).2 4 _ (by decide) rfl
            have cb5 := fun o : Obj => (r2 o).2 5 _ (by decide) rfl
            have cb6 := fun o : Obj => (r2 o).2 6 _ (by decide) rfl
            have cb7 := fun o : Obj => (r2 o).2 7 _ (by decide) rfl
            have ea0 := fun o p : Obj => (s1 o p).1 _ rfl
            have ea1 := fun o p : Obj => (s1 o p).2 1 _ (by decide) rfl
            have ea2 := fun o p : Obj => (s1 o p).2 2 _ (by decide) rfl
            have ea3 := fun o p : Obj => (s1 o p).2 3 _ (by decide) rfl
            have ea4 := fun o p : Obj => (s1 o p).2 4 _ (by decide) rfl
            have ea5 := fun o p : Obj => (s1 o p).2 5 _ (by decide) rfl
            have ea6 := fun o p : Obj => (s1 o p).2 6 _ (by decide) rfl
            have ea7 := fun o p : Obj => (s1 o p).2 7 _ (by decide) rfl
            have eb0 := fun o p : Obj => (s2 o p).1 _ rfl
            have eb1 := fun o p : Obj => (s2 o p).2 1 _ (by decide) rfl
            have eb2 := fun o p : Obj => (s2 o p).2 2 _ (by decide) rfl
            have eb3 := fun o p : Obj => (s2 o p).2 3 _ (by decide) rfl
            have eb4 := fun o p : Obj => (s2 o p).2 4 _ (by decide) rfl
            have eb5 := fun o p : Obj => (s2 o p).2 5 _ (by decide) rfl
            have eb6 := fun o p : Obj => (s2 o p).2 6 _ (by decide) rfl
            have eb7 := fun o p : Obj => (s2 o p).2 7 _ (by decide) rfl
            clear g1 g2 r1 r2 s1 s2
            go_region
            all_goals go_wp2_with fail
            all_goals go_meet
            case rel => exact ⟨_, _, rfl, rfl, Lib.hid ⟨(two_new wr _ _).2.2, Nat.ne_of_lt (Nat.lt_succ_self _), (two_new wr _ _).1, (two_new wr _ _).2.1⟩⟩
            case rel => exact ⟨_, _, rfl, rfl, Lib.hid ⟨(two_new wr _ _).2.2, Nat.ne_of_gt (Nat.lt_succ_self _), (two_new wr _ _).2.1, (two_new wr _ _).1⟩⟩
          case rest =>
            as_aux_lemma =>
            obtain ⟨U2, V2, rfl, rfl, hW2⟩ := hcut
            clear g1 g2
            rename World => wq
            go_upto_region 18 with fail
            go_cut [219] from 141 to 272 (fun s219 wx => Hid (Grow wq wx) ∧ ∃ B : Bool, s219 = .bool B ∧ Hid (B = false ↔ m1 = m2 ∧ yes1 = yes2 ∧ r1 = r2 ∧ c1 = c2 ∧ us1 = us2 ∧ pr1.length = pr2.length ∧ bd1.map (Stm.nrm false) = bd2.map (Stm.nrm false)))
            case first =>
              have x1_0 : wq.cell? ⟨U2, 0, none⟩ = some (.string (tx m1)) := cellsN hW2.out.2.2.1 0 _ rfl
              have x1_1 : wq.cell? ⟨U2, 1, none⟩ = some (.slice aP1 pr1.length cP1) := cellsN hW2.out.2.2.1 1 _ rfl
              have x1_2 : wq.cell? ⟨U2, 2, none⟩ = some (.bool yes1) := cellsN hW2.out.2.2.1 2 _ rfl
              have x1_3 : wq.cell? ⟨U2, 3, none⟩ = some (.string (tx r1)) := cellsN hW2.out.2.2.1 3 _ rfl
              have x1_4 : wq.cell? ⟨U2, 4, none⟩ = some (.string (tx c1)) := cellsN hW2.out.2.2.1 4 _ rfl
              have x1_5 : wq.cell? ⟨U2, 5, none⟩ = some (.slice aU1 us1.length cU1) := cellsN hW2.out.2.2.1 5 _ rfl
              have x1_6 : wq.cell? ⟨U2, 6, none⟩ = some (.slice aB1 bd1.length cB1) := cellsN hW2.out.2.2.1 6 _ rfl
              have x1_7 : wq.cell? ⟨U2, 7, none⟩ = some (.int .i64 z1) := cellsN hW2.out.2.2.1 7 _ rfl
              have x2_0 : wq.cell? ⟨V2, 0, none⟩ = some (.string (tx m2)) := cellsN hW2.out.2.2.2 0 _ rfl
              have x2_1 : wq.cell? ⟨V2, 1, none⟩ = some (.slice aP2 pr2.length cP2) := cellsN hW2.out.2.2.2 1 _ rfl
              have x2_2 : wq.cell? ⟨V2, 2, none⟩ = some (.bool yes2) := cellsN hW2.out.2.2.2 2 _ rfl
              have x2_3 : wq.cell? ⟨V2, 3, none⟩ = some (.string (tx r2)) := cellsN hW2.out.2.2.2 3 _ rfl
              have x2_4 : wq.cell? ⟨V2, 4, none⟩ = some (.string (tx c2)) := cellsN hW2.out.2.2.2 4 _ rfl
              have x2_5 : wq.cell? ⟨V2, 5, none⟩ = some (.slice aU2 us2.length cU2) := cellsN hW2.out.2.2.2 5 _ rfl
              have x2_6 : wq.cell? ⟨V2, 6, none⟩ = some (.slice aB2 bd2.length cB2) := cellsN hW2.out.2.2.2 6 _ rfl
              have x2_7 : wq.cell? ⟨V2, 7, none⟩ = some (.int .i64 z2) := cellsN hW2.out.2.2.2 7 _ rfl
              have HT := cmp_texts _ _ us1 us2 wq (HB.out.2.1.1.imp hW2.out.1 fun _ _ h => h) (HB.out.2.1.2.imp hW2.out.1 fun _ _ h => h)
              have HTH := Lib.hid HT
              have y1 := tx_list m1
              have y2 := tx_list m2
              have y3 := tx_list r1
              have y4 := tx_list r2
              have y5 := tx_list c1
              have y6 := tx_list c2
              clear d1 d2 HT HXA HN HPOS
              by_cases q0 : m1 = m2
              case neg =>
                have qq0 : (m1 == m2) = false := by simpa using q0
                have qr0 : (m1 != m2) = true := by simpa using q0
                go_wp2_with fail
                go_meet
                exact ⟨Lib.hid (Grow.refl wq), _, rfl, Lib.hid ⟨fun h => (by cases h), fun h => absurd h.1 q0⟩⟩
              subst q0
              by_cases q1 : yes1 = yes2
              case neg =>
                have qq1 : (yes1 == yes2) = false := by simpa using q1
                have qr1 : (yes1 != yes2) = true := by simpa using q1
                go_wp2_with fail
                go_meet
                exact ⟨Lib.hid (Grow.refl wq), _, rfl, Lib.hid ⟨fun h => (by cases h), fun h => absurd h.2.1 q1⟩⟩
              subst q1
              by_cases q2 : r1 = r2
              case neg =>
                have qq2 : (r1 == r2) = false := by simpa using q2
                have qr2 : (r1 != r2) = true := by simpa using q2
                go_wp2_with fail
                go_meet
                exact ⟨Lib.hid (Grow.refl wq), _, rfl, Lib.hid ⟨fun h => (by cases h), fun h => absurd h.2.2.1 q2⟩⟩
              subst q2
              by_cases q3 : c1 = c2
              case neg =>
                have qq3 : (c1 == c2) = false := by simpa using q3
                have qr3 : (c1 != c2) = true := by simpa using q3
                go_wp2_with fail
                go_meet
                exact ⟨Lib.hid (Grow.refl wq), _, rfl, Lib.hid ⟨fun h => (by cases h), fun h => absurd h.2.2.2.1 q3⟩⟩
              subst q3
              go_wp2_with fail
              refine HTH.out.mono ?_
              rintro e w6 ⟨b6, rfl, hb6, hg6⟩
              have p1_1 := hg6.cell x1_1
              have p1_6 := hg6.cell x1_6
              have p1_7 := hg6.cell x1_7
              have p2_1 := hg6.cell x2_1
              have p2_6 := hg6.cell x2_6
              have p2_7 := hg6.cell x2_7
              have H6 := Lib.hid (And.intro hb6 hg6)
              clear x1_0 x1_1 x1_2 x1_3 x1_4 x1_5 x1_6 x1_7 x2_0 x2_1 x2_2 x2_3 x2_4 x2_5 x2_6 x2_7 hb6 hg6 HTH
              cases b6 with
              | false =>
                go_wp2_with fail
                go_meet
                exact ⟨Lib.hid H6.out.2, _, rfl, Lib.hid ⟨fun h => (by cases h), fun h => absurd (H6.out.1.2 h.2.2.2.2.1) (by simp)⟩⟩
              | true =>
                have HS := Lib.hid (cmp_stmts_false _ _ _ bd1 bd2 w6 (Nat.le_refl _) (HB.out.2.2.1.later (hW2.out.1.trans H6.out.2)) (HB.out.2.2.2.later (hW2.out.1.trans H6.out.2)) HBD.out)
                by_cases q9 : pr1.length = pr2.length
                case neg =>
                  have qq9 : ¬ (pr1.length : Int) = (pr2.length : Int) := by omega
                  have qr9 : ((pr1.length : Int) != (pr2.length : Int)) = true := by simpa using qq9
                  clear HS
                  go_wp2_with fail
                  go_meet
                  exact ⟨Lib.hid H6.out.2, _, rfl, Lib.hid ⟨fun h => (by cases h), fun h => absurd h.2.2.2.2.2.1 q9⟩⟩
                have HQ9 := Lib.hid q9
                have qq9 : (pr1.length : Int) = (pr2.length : Int) := by omega
                go_wp2_with fail
                refine HS.out.mono ?_
                rintro e w7 ⟨b7, rfl, hb7, hg7⟩
                have H7 := Lib.hid (And.intro hb7 hg7)
                clear hb7 hg7 HS p1_1 p1_6 p1_7 p2_1 p2_6 p2_7
                cases b7 with
                | false =>
                  go_wp2_with fail
                  go_meet
                  exact ⟨Lib.hid (H6.out.2.trans H7.out.2), _, rfl, Lib.hid ⟨fun h => (by cases h), fun h => absurd (H7.out.1.2 h.2.2.2.2.2.2) (by simp)⟩⟩
                | true =>
                  go_wp2_with fail
                  go_meet
                  exact ⟨Lib.hid (H6.out.2.trans H7.out.2), _, rfl, Lib.hid ⟨fun _ => ⟨by first | rfl | trivial | assumption, by first | rfl | trivial | assumption, by first | rfl | trivial | assumption, by first | rfl | trivial | assumption, H6.out.1.1 (by simp), (by first | rfl | trivial | exact HQ9.out), H7.out.1.1 (by simp)⟩, fun _ => rfl⟩⟩
            case rest =>
              as_aux_lemma =>
              obtain ⟨hgc, B, rfl, hB⟩ := hcut
              have HGW := Lib.hid (HW.out.trans (hG.out.1.trans (hW2.out.1.trans hgc.out)))
              cases B with
              | true =>
                go_wp2_with fail
                go_ret
                refine ⟨false, rfl, ⟨(fun h => by cases h), fun h => ?_⟩, HGW.out⟩
                obtain ⟨q1, q2, q3, q4, q5, q6, q7, q8⟩ := HXA.out.2.1.1 (HXA.out.1 (HX.out.1.1 h).2.2.2.2)
                have := hB.out.2 ⟨q1, q2, q3, q4, q5, (by have := congrArg List.length q7; rwa [List.length_map, List.length_map] at this), q8⟩
                cases this
              | false =>
              have HK := Lib.hid (hB.out.1 rfl)
              have hpl : pr1.length = pr2.length := HK.out.2.2.2.2.2.1
              have x1_1 := hgc.out.cell (show wq.cell? ⟨U2, 1, none⟩ = some (.slice aP1 pr1.length cP1) from cellsN hW2.out.2.2.1 1 _ rfl)
              have x2_1 := hgc.out.cell (show wq.cell? ⟨V2, 1, none⟩ = some (.slice aP2 pr2.length cP2) from cellsN hW2.out.2.2.2 1 _ rfl)
              have HPP : Hid (TRows wr 3 (ParT false) (.slice aP1 pr1.length cP1) pr1 ∧ TRows wr 3 (ParT false) (.slice aP2 pr1.length cP2) pr2) := Lib.hid ⟨HB.out.1.1, by rw [hpl]; exact HB.out.1.2⟩
              rw [← hpl] at x2_1
              have HGV := Lib.hid (hW2.out.1.trans hgc.out)
              clear hpl hB hW2 hgc HB HBD d1 d2
              obtain ⟨nq, hnq⟩ : ∃ n, pr1.length = n := ⟨_, rfl⟩
              rw [hnq] at HPP x1_1 x2_1 hq1
              have HNQ := Lib.hid hnq
              clear hnq
              have HCC := Lib.hid (And.intro x1_1 x2_1)
              go_wp2_with fail
              clear x1_1 x2_1
              go_loopw [14] (fun i wz => ∃ j : Nat, j ≤ nq ∧ i = .int .i64 j ∧ Hid (Grow wc wz ∧ (pr1.take j).map (Par.nrm false) = (pr2.take j).map (Par.nrm false)))
                (fun i _ => nq - (RowKit.intOf i).toNat)
              case atStart => exact ⟨0, Nat.zero_le _, rfl, Lib.hid ⟨Grow.refl _, rfl⟩⟩
              case round =>
                obtain ⟨j, hj, rfl, hGj⟩ := hrel
                have d1 := hGj.out.1.cell HCC.out.1
                have d2 := hGj.out.1.cell HCC.out.2
                by_cases hjn : j < nq
                case neg =>
                  as_aux_lemma =>
                  have h4 : ¬ (j : Int) < (nq : Int) := by omega
                  obtain rfl : j = nq := by omega
                  have HFIN := Lib.hid (And.intro (hG.out.1.trans (HGV.out.trans hGj.out.1)) (HN.out (HXA.out.2.1.2 ⟨HK.out.1, HK.out.2.1, HK.out.2.2.1, HK.out.2.2.2.1, HK.out.2.2.2.2.1, HPOS.out, (by have := hGj.out.2; rwa [List.take_of_length_le (by rw [HNQ.out]; exact Nat.le_refl _), List.take_of_length_le (by rw [← HK.out.2.2.2.2.2.1, HNQ.out]; exact Nat.le_refl _)] at this), HK.out.2.2.2.2.2.2⟩)))
                  go_wp2_with fail
                  exact ⟨⟨k + 1, by omega, by go_num, HFIN⟩, by simp [RowKit.intOf]; omega⟩
                have h4 : (j : Int) < (nq : Int) := by omega
                obtain ⟨t1, o1, u1, e5, f1, ⟨q1, rfl, g1⟩, _, s1⟩ := TRows.at (HPP.out.1.imp (HGV.out.trans hGj.out.1) fun _ _ h => h) hjn
                obtain ⟨t2, o2, u2, e6, f2, ⟨q2, rfl, g2⟩, _, s2⟩ := TRows.at (HPP.out.2.imp (HGV.out.trans hGj.out.1) fun _ _ h => h) hjn
                cases e5
                cases e6
                have hy := par_nrm false o1 o2
                have hya : (pr1.map (Par.nrm false) = pr2.map (Par.nrm false)) → o1.nrm false = o2.nrm false := fun h => map_at _ f1 f2 h
                have HM : Hid (o1.nrm false = o2.nrm false → (pr1.take (j + 1)).map (Par.nrm false) = (pr2.take (j + 1)).map (Par.nrm false)) := Lib.hid fun h => er_take_next (Par.nrm false) f1 f2 hGj.out.2 h
                obtain ⟨n1, l1, w1''⟩ := o1
                obtain ⟨n2, l2, w2''⟩ := o2
                simp only at hy g1 g2
                have HO : Hid (false = true → w1'' = w2'') := Lib.hid fun h => by
                  cases h
                have HYA := Lib.hid (And.intro hya hy)
                unfold parVT at s1 s2
                have a0 := s1.1 _ rfl
                have a1 := s1.2 1 _ (by decide) rfl
                have a2 := s1.2 2 _ (by decide) rfl
                have b0 := s2.1 _ rfl
                have b1 := s2.2 1 _ (by decide) rfl
                have b2 := s2.2 2 _ (by decide) rfl
                clear f1 f2 hya hy g1 g2 s1 s2
                have y1 := tx_list n1
                have y2 := tx_list n2
                have y3 := tx_list l1
                have y4 := tx_list l2
                by_cases hn : n1 = n2
                case neg =>
                  as_aux_lemma =>
                  have hn2 : (n1 == n2) = false := by simpa using hn
                  have hn3 : (n1 != n2) = true := by simpa using hn
                  go_wp2_with fail
                  go_quiet (fail)
                  go_wp2
                  go_ret
                  refine ⟨false, rfl, ⟨(fun h => by cases h), fun h => ?_⟩, HGW.out.trans (below_drewN hGj.out.1 _)⟩
                  exact absurd (HYA.out.2.1 (HYA.out.1 (HXA.out.2.1.1 (HXA.out.1 (HX.out.1.1 h).2.2.2.2)).2.2.2.2.2.2.1)).1 hn
                subst hn
                by_cases hn : l1 = l2
                case neg =>
                  as_aux_lemma =>
                  have hn2 : (l1 == l2) = false := by simpa using hn
                  have hn3 : (l1 != l2) = true := by simpa using hn
                  go_wp2_with fail
                  go_quiet (fail)
                  go_wp2
                  go_ret
                  refine ⟨false, rfl, ⟨(fun h => by cases h), fun h => ?_⟩, HGW.out.trans (below_drewN hGj.out.1 _)⟩
                  exact absurd (HYA.out.2.1 (HYA.out.1 (HXA.out.2.1.1 (HXA.out.1 (HX.out.1.1 h).2.2.2.2)).2.2.2.2.2.2.1)).2.1 hn
                subst hn
                have HM2 := Lib.hid (HM.out (HYA.out.2.2 ⟨rfl, rfl, HO.out⟩))
                as_aux_lemma =>
                go_wp2_with fail
                go_quiet (fail)
                go_wp2
                case roundEnd => exact ⟨⟨j + 1, by omega, by go_num, Lib.hid ⟨below_drewN hGj.out.1 _, HM2.out⟩⟩, by simp [RowKit.intOf]; omega⟩

end Go.Proofs.YtfcfbdemfbkgmaaDoor

