/- The reference's Whole. Numbers and types by name. -/
import Derived.Test.YtfcfbdemfbkgmaaGreatDoorSmg
import Derived.Deep.CutRange
import Derived.BigQuiet
/- The reference's comparing of a module with itself, places and all. Made by wip/tools/gensme.py. Numbers and types by name. -/
namespace Go.Proofs.YtfcfbdemfbkgmaaGreatDoor
open Go.RowKit Go.Lib
set_option maxRecDepth 100000

set_option maxHeartbeats 16000000 in
theorem yes_whole (m : Mdl) (s1 s2 : List Value) (w : World) (h1 : ModT true w m s1) (h2 : ModT true w m s2) :
    Calls Tryz.prog 37 #[.agg s1.toArray, .agg s2.toArray, .bool true] w fun e w' => e = .returned (.bool true) ∧ Grow w w' := by
  obtain ⟨z1, vI1, vV1, vP1, rfl, pz1, tI1, tV1, tP1⟩ := h1
  obtain ⟨z2, vI2, vV2, vP2, rfl, pz2, tI2, tV2, tP2⟩ := h2
  obtain ⟨aI1, cI1, rfl⟩ := tI1.shape
  obtain ⟨aV1, cV1, rfl⟩ := tV1.shape
  obtain ⟨aP1, cP1, rfl⟩ := tP1.shape
  obtain ⟨aI2, cI2, rfl⟩ := tI2.shape
  obtain ⟨aV2, cV2, rfl⟩ := tV2.shape
  obtain ⟨aP2, cP2, rfl⟩ := tP2.shape
  obtain rfl : z1 = z2 := by rw [pz1 rfl, pz2 rfl]
  obtain ⟨nm, wp, is, vs, ps⟩ := m
  simp only at tI1 tV1 tP1 tI2 tV2 tP2
  have hI1 : is.length ≤ 9223372036854775807 := Nat.le_trans tI1.1 (by decide)
  have hV1 : vs.length ≤ 9223372036854775807 := Nat.le_trans tV1.1 (by decide)
  have hP1 : ps.length ≤ 9223372036854775807 := Nat.le_trans tP1.1 (by decide)
  have HB1 := Lib.hid (And.intro tI1 tI2)
  have HB2 := Lib.hid (And.intro tV1 tV2)
  have HB3 := Lib.hid (And.intro tP1 tP2)
  clear tI1 tV1 tP1 tI2 tV2 tP2 pz1 pz2
  unfold mdlVT
  simp only
  obtain ⟨nI, hnI⟩ : ∃ n, is.length = n := ⟨_, rfl⟩
  obtain ⟨nV, hnV⟩ : ∃ n, vs.length = n := ⟨_, rfl⟩
  obtain ⟨nP, hnP⟩ : ∃ n, ps.length = n := ⟨_, rfl⟩
  rw [hnI] at HB1 hI1 ⊢
  rw [hnV] at HB2 hV1 ⊢
  rw [hnP] at HB3 hP1 ⊢
  clear hnI hnV hnP
  obtain ⟨W, hW⟩ : ∃ W, (w.alloc (.cells #[.string (tx nm), .int .i64 z1, .slice aI1 nI cI1, .slice aV1 nV cV1, .slice aP1 nP cP1] 27)).alloc (.cells #[.string (tx nm), .int .i64 z1, .slice aI2 nI cI2, .slice aV2 nV cV2, .slice aP2 nP cP2] 27) = W := ⟨_, rfl⟩
  have b1 : W.heap[w.heap.size]? = some (.cells #[.string (tx nm), .int .i64 z1, .slice aI1 nI cI1, .slice aV1 nV cV1, .slice aP1 nP cP1] 27) := by rw [← hW]; exact (two_new w _ _).1
  have b2 : W.heap[w.heap.size + 1]? = some (.cells #[.string (tx nm), .int .i64 z1, .slice aI2 nI cI2, .slice aV2 nV cV2, .slice aP2 nP cP2] 27) := by rw [← hW]; exact (two_new w _ _).2.1
  have HW : Hid (Grow w W) := Lib.hid (by rw [← hW]; exact ((Below.refl _ w).alloc (Nat.le_refl _) _).alloc (by simp) _)
  have x1_0 : W.cell? ⟨w.heap.size, 0, none⟩ = some (.string (tx nm)) := cellsN b1 0 _ rfl
  have x1_1 : W.cell? ⟨w.heap.size, 1, none⟩ = some (.int .i64 z1) := cellsN b1 1 _ rfl
  have x1_2 : W.cell? ⟨w.heap.size, 2, none⟩ = some (.slice aI1 nI cI1) := cellsN b1 2 _ rfl
  have x1_3 : W.cell? ⟨w.heap.size, 3, none⟩ = some (.slice aV1 nV cV1) := cellsN b1 3 _ rfl
  have x1_4 : W.cell? ⟨w.heap.size, 4, none⟩ = some (.slice aP1 nP cP1) := cellsN b1 4 _ rfl
  have x2_0 : W.cell? ⟨w.heap.size + 1, 0, none⟩ = some (.string (tx nm)) := cellsN b2 0 _ rfl
  have x2_1 : W.cell? ⟨w.heap.size + 1, 1, none⟩ = some (.int .i64 z1) := cellsN b2 1 _ rfl
  have x2_2 : W.cell? ⟨w.heap.size + 1, 2, none⟩ = some (.slice aI2 nI cI2) := cellsN b2 2 _ rfl
  have x2_3 : W.cell? ⟨w.heap.size + 1, 3, none⟩ = some (.slice aV2 nV cV2) := cellsN b2 3 _ rfl
  have x2_4 : W.cell? ⟨w.heap.size + 1, 4, none⟩ = some (.slice aP2 nP cP2) := cellsN b2 4 _ rfl
  clear b1 b2
  go_enter Tryz.func37, Tryz.ntmps37
  go_upto_region 1 with fail
  generalize Value.agg #[.string (tx nm), .int .i64 z1, .slice aI1 nI cI1, .slice aV1 nV cV1, .slice aP1 nP cP1] = A1
  generalize Value.agg #[.string (tx nm), .int .i64 z1, .slice aI2 nI cI2, .slice aV2 nV cV2, .slice aP2 nP cP2] = A2
  generalize w.heap.size + 1 = V at *
  generalize w.heap.size = U at *
  go_cut [56] from 15 (fun s56 wx => W = wx ∧ s56 = .bool false)
  case first =>
    clear HB1 HB2 HB3 HW hW
    go_wp2_with fail
    go_meet
    exact ⟨rfl, rfl⟩
  case rest =>
    obtain ⟨hw2, rfl⟩ := hcut
    subst hw2
    have HC1 := Lib.hid (And.intro x1_2 x2_2)
    have HC2 := Lib.hid (And.intro x1_3 x2_3)
    have HC3 := Lib.hid (And.intro x1_4 x2_4)
    clear x1_0 x1_1 x2_0 x2_1 x1_2 x2_2 x1_3 x2_3 x1_4 x2_4 hW
    go_wp2_with fail
    go_loopw [7] (fun i wr => ∃ k : Nat, k ≤ nI ∧ i = .int .i64 k ∧ Hid (Grow W wr)) (fun i _ => nI - (RowKit.intOf i).toNat)
    case atStart => exact ⟨0, Nat.zero_le _, rfl, Lib.hid (Grow.refl W)⟩
    case round =>
      obtain ⟨k, hk, rfl, hG⟩ := hrel
      have d1 := hG.out.cell HC1.out.1
      have d2 := hG.out.cell HC1.out.2
      by_cases h1 : k < nI
      case pos =>
        as_aux_lemma =>
        have h3 : (k : Int) < (nI : Int) := by omega
        obtain ⟨y1, o1, c1, rfl, e1, ⟨q1, rfl, p1⟩, _, g1⟩ := TRows.at (HB1.out.1.imp (HW.out.trans hG.out) fun _ _ h => h) h1
        obtain ⟨y2, o2, c2, rfl, e2, ⟨q2, rfl, p2⟩, _, g2⟩ := TRows.at (HB1.out.2.imp (HW.out.trans hG.out) fun _ _ h => h) h1
        rw [e1] at e2
        cases e2
        obtain rfl : q1 = q2 := by rw [p1 rfl, p2 rfl]
        obtain ⟨n1, wa⟩ := o1
        unfold impVT at g1 g2
        have a0 := g1.1 _ rfl
        have a1 := g1.2 1 _ (by decide) rfl
        have b0 := g2.1 _ rfl
        have b1 := g2.2 1 _ (by decide) rfl
        clear e1 p1 p2 g1 g2 HB1 HB2 HB3
        go_wp2_with fail
        go_quiet (fail)
        go_wp2
        case roundEnd => exact ⟨⟨k + 1, by omega, by go_num, Lib.hid (below_drewN hG.out _)⟩, by simp [RowKit.intOf]; omega⟩
      case neg =>
      as_aux_lemma =>
      have h3 : ¬ (k : Int) < (nI : Int) := by omega
      have HFI := hG
      clear HC1 hG HB1
      go_wp2_with fail
      clear d1 d2
      go_loopw [8] (fun i wr => ∃ k : Nat, k ≤ nV ∧ i = .int .i64 k ∧ Hid (Grow W wr)) (fun i _ => nV - (RowKit.intOf i).toNat)
      case atStart => exact ⟨0, Nat.zero_le _, rfl, HFI⟩
      case round =>
        obtain ⟨k, hk, rfl, hG⟩ := hrel
        have d1 := hG.out.cell HC2.out.1
        have d2 := hG.out.cell HC2.out.2
        by_cases h1 : k < nV
        case pos =>
          as_aux_lemma =>
          have h3 : (k : Int) < (nV : Int) := by omega
          obtain ⟨y1, o1, c1, rfl, e1, ⟨vz, rfl, p1⟩, _, g1⟩ := TRows.at (HB2.out.1.imp (HW.out.trans hG.out) fun _ _ h => h) h1
          obtain ⟨y2, o2, c2, rfl, e2, ⟨vz2, rfl, p2⟩, _, g2⟩ := TRows.at (HB2.out.2.imp (HW.out.trans hG.out) fun _ _ h => h) h1
          rw [e1] at e2
          cases e2
          obtain rfl : vz = vz2 := by rw [p1 rfl, p2 rfl]
          obtain ⟨vm, vl, vi, wa⟩ := o1
          unfold varVT at g1 g2
          simp only at g1 g2
          clear e1 p1 p2 HB2 HB3
          go_upto_region 11 with fail
          go_cut [9, 10] from 95 to 140 (fun s9 s10 wx => ∃ U2 V2 : Nat, s9 = .pointer (some ⟨U2, 0, none⟩) ∧ s10 = .pointer (some ⟨V2, 0, none⟩) ∧ Hid (Grow wr wx ∧ U2 ≠ V2 ∧ wx.heap[U2]? = some (.cells #[.string (tx vm), .string (tx vl), .int .i64 vi, .int .i64 vz] 90) ∧ wx.heap[V2]? = some (.cells #[.string (tx vm), .string (tx vl), .int .i64 vi, .int .i64 vz] 90)))
          case first =>
            have r1 := fun o : Obj => g1.later ((Below.refl _ wr).alloc (Nat.le_refl _) o)
            have r2 := fun o : Obj => g2.later ((Below.refl _ wr).alloc (Nat.le_refl _) o)
            have s1 := fun o p : Obj => (r1 o).later ((Below.refl _ (wr.alloc o)).alloc (Nat.le_refl _) p)
            have s2 := fun o p : Obj => (r2 o).later ((Below.refl _ (wr.alloc o)).alloc (Nat.le_refl _) p)
            have da1 := fun o : Obj => Grow.cell (w := wr) ((Below.refl _ wr).alloc (Nat.le_refl _) o) d1
            have da2 := fun o : Obj => Grow.cell (w := wr) ((Below.refl _ wr).alloc (Nat.le_refl _) o) d2
            have db1 := fun o p : Obj => Grow.cell (w := wr.alloc o) ((Below.refl _ (wr.alloc o)).alloc (Nat.le_refl _) p) (da1 o)
            have db2 := fun o p : Obj => Grow.cell (w := wr.alloc o) ((Below.refl _ (wr.alloc o)).alloc (Nat.le_refl _) p) (da2 o)
            have a0 := g1.1 _ rfl
            have a1 := g1.2 1 _ (by decide) rfl
            have a2 := g1.2 2 _ (by decide) rfl
            have a3 := g1.2 3 _ (by decide) rfl
            have b0 := g2.1 _ rfl
            have b1 := g2.2 1 _ (by decide) rfl
            have b2 := g2.2 2 _ (by decide) rfl
            have b3 := g2.2 3 _ (by decide) rfl
            have ca0 := fun o : Obj => (r1 o).1 _ rfl
            have ca1 := fun o : Obj => (r1 o).2 1 _ (by decide) rfl
            have ca2 := fun o : Obj => (r1 o).2 2 _ (by decide) rfl
            have ca3 := fun o : Obj => (r1 o).2 3 _ (by decide) rfl
            have cb0 := fun o : Obj => (r2 o).1 _ rfl
            have cb1 := fun o : Obj => (r2 o).2 1 _ (by decide) rfl
            have cb2 := fun o : Obj => (r2 o).2 2 _ (by decide) rfl
            have cb3 := fun o : Obj => (r2 o).2 3 _ (by decide) rfl
            have ea0 := fun o p : Obj => (s1 o p).1 _ rfl
            have ea1 := fun o p : Obj => (s1 o p).2 1 _ (by decide) rfl
            have ea2 := fun o p : Obj => (s1 o p).2 2 _ (by decide) rfl
            have ea3 := fun o p : Obj => (s1 o p).2 3 _ (by decide) rfl
            have eb0 := fun o p : Obj => (s2 o p).1 _ rfl
            have eb1 := fun o p : Obj => (s2 o p).2 1 _ (by decide) rfl
            have eb2 := fun o p : Obj => (s2 o p).2 2 _ (by decide) rfl
            have eb3 := fun o p : Obj => (s2 o p).2 3 _ (by decide) rfl
            clear g1 g2 r1 r2 s1 s2
            go_region
            all_goals go_wp2_with fail
            all_goals go_meet
            case rel => exact ⟨_, _, rfl, rfl, Lib.hid ⟨(two_new wr _ _).2.2, Nat.ne_of_lt (Nat.lt_succ_self _), (two_new wr _ _).1, (two_new wr _ _).2.1⟩⟩
            case rel => exact ⟨_, _, rfl, rfl, Lib.hid ⟨(two_new wr _ _).2.2, Nat.ne_of_gt (Nat.lt_succ_self _), (two_new wr _ _).2.1, (two_new wr _ _).1⟩⟩
          case rest =>
            as_aux_lemma =>
            obtain ⟨U2, V2, rfl, rfl, hW2⟩ := hcut
            have x1_0 : wc.cell? ⟨U2, 0, none⟩ = some (.string (tx vm)) := cellsN hW2.out.2.2.1 0 _ rfl
            have x1_1 : wc.cell? ⟨U2, 1, none⟩ = some (.string (tx vl)) := cellsN hW2.out.2.2.1 1 _ rfl
            have x1_2 : wc.cell? ⟨U2, 2, none⟩ = some (.int .i64 vi) := cellsN hW2.out.2.2.1 2 _ rfl
            have x1_3 : wc.cell? ⟨U2, 3, none⟩ = some (.int .i64 vz) := cellsN hW2.out.2.2.1 3 _ rfl
            have x2_0 : wc.cell? ⟨V2, 0, none⟩ = some (.string (tx vm)) := cellsN hW2.out.2.2.2 0 _ rfl
            have x2_1 : wc.cell? ⟨V2, 1, none⟩ = some (.string (tx vl)) := cellsN hW2.out.2.2.2 1 _ rfl
            have x2_2 : wc.cell? ⟨V2, 2, none⟩ = some (.int .i64 vi) := cellsN hW2.out.2.2.2 2 _ rfl
            have x2_3 : wc.cell? ⟨V2, 3, none⟩ = some (.int .i64 vz) := cellsN hW2.out.2.2.2 3 _ rfl
            clear d1 d2 g1 g2
            go_wp2_with fail
            exact ⟨⟨k + 1, by omega, by go_num, Lib.hid (hG.out.trans hW2.out.1)⟩, by simp [RowKit.intOf]; omega⟩
        case neg =>
        as_aux_lemma =>
        have h3 : ¬ (k : Int) < (nV : Int) := by omega
        have HFV := hG
        clear HC2 hG HB2
        go_wp2_with fail
        clear d1 d2
        go_loopw [11] (fun i wr => ∃ k : Nat, k ≤ nP ∧ i = .int .i64 k ∧ Hid (Grow W wr)) (fun i _ => nP - (RowKit.intOf i).toNat)
        case atStart => exact ⟨0, Nat.zero_le _, rfl, HFV⟩
        case round =>
          obtain ⟨k, hk, rfl, hG⟩ := hrel
          have d1 := hG.out.cell HC3.out.1
          have d2 := hG.out.cell HC3.out.2
          by_cases h1 : k < nP
          case neg =>
            as_aux_lemma =>
            have h3 : ¬ (k : Int) < (nP : Int) := by omega
            go_wp2_with fail
            go_ret
            exact ⟨rfl, HW.out.trans hG.out⟩
          as_aux_lemma =>
          have h3 : (k : Int) < (nP : Int) := by omega
          obtain ⟨y1, o1, c1, rfl, e1, ⟨pz, vP1, vU1, vB1, rfl, p1, tP1, tU1, tB1⟩, _, g1⟩ := TRows.at (HB3.out.1.imp (HW.out.trans hG.out) fun _ _ h => h.later (HW.out.trans hG.out)) h1
          obtain ⟨y2, o2, c2, rfl, e2, ⟨pz2, vP2, vU2, vB2, rfl, p2, tP2, tU2, tB2⟩, _, g2⟩ := TRows.at (HB3.out.2.imp (HW.out.trans hG.out) fun _ _ h => h.later (HW.out.trans hG.out)) h1
          rw [e1] at e2
          cases e2
          obtain ⟨aP1, cP1, rfl⟩ := tP1.shape
          obtain ⟨aU1, cU1, rfl⟩ := tU1.shape
          obtain ⟨aB1, cB1, rfl⟩ := tB1.shape
          obtain ⟨aP2, cP2, rfl⟩ := tP2.shape
          obtain ⟨aU2, cU2, rfl⟩ := tU2.shape
          obtain ⟨aB2, cB2, rfl⟩ := tB2.shape
          obtain rfl : pz = pz2 := by rw [p1 rfl, p2 rfl]
          obtain ⟨pm, prs, yes, pr, pc, us, bd, wa⟩ := o1
          simp only at tP1 tU1 tB1 tP2 tU2 tB2
          have HB := Lib.hid (And.intro (And.intro tP1 tP2) (And.intro (And.intro tU1 tU2) (And.intro tB1 tB2)))
          have hq1 : prs.length ≤ 9223372036854775807 := Nat.le_trans tP1.1 (by decide)
          unfold prcVT at g1 g2
          simp only at g1 g2
          clear e1 p1 p2 tP1 tU1 tB1 tP2 tU2 tB2 HB3
          go_upto_region 17 with fail
          go_cut [12, 13] from 141 to 272 (fun s12 s13 wx => ∃ U2 V2 : Nat, s12 = .pointer (some ⟨U2, 0, none⟩) ∧ s13 = .pointer (some ⟨V2, 0, none⟩) ∧ Hid (Grow wr wx ∧ U2 ≠ V2 ∧ wx.heap[U2]? = some (.cells #[.string (tx pm), .slice aP1 prs.length cP1, .bool yes, .string (tx pr), .string (tx pc), .slice aU1 us.length cU1, .slice aB1 bd.length cB1, .int .i64 pz] 76) ∧ wx.heap[V2]? = some (.cells #[.string (tx pm), .slice aP2 prs.length cP2, .bool yes, .string (tx pr), .string (tx pc), .slice aU2 us.length cU2, .slice aB2 bd.length cB2, .int .i64 pz] 76)))
          case first =>
            have r1 := fun o : Obj => g1.later ((Below.refl _ wr).alloc (Nat.le_refl _) o)
            have r2 := fun o : Obj => g2.later ((Below.refl _ wr).alloc (Nat.le_refl _) o)
            have s1 := fun o p : Obj => (r1 o).later ((Below.refl _ (wr.alloc o)).alloc (Nat.le_refl _) p)
            have s2 := fun o p : Obj => (r2 o).later ((Below.refl _ (wr.alloc o)).alloc (Nat.le_refl _) p)
            have da1 := fun o : Obj => Grow.cell (w := wr) ((Below.refl _ wr).alloc (Nat.le_refl _) o) d1
            have da2 := fun o : Obj => Grow.cell (w := wr) ((Below.refl _ wr).alloc (Nat.le_refl _) o) d2
            have db1 := fun o p : Obj => Grow.cell (w := wr.alloc o) ((Below.refl _ (wr.alloc o)).alloc (Nat.le_refl _) p) (da1 o)
            have db2 := fun o p : Obj => Grow.cell (w := wr.alloc o) ((Below.refl _ (wr.alloc o)).alloc (Nat.le_refl _) p) (da2 o)
            have a0 := g1.1 _ rfl
            have a1 := g1.2 1 _ (by decide) rfl
            have a2 := g1.2 2 _ (by decide) rfl
            have a3 := g1.2 3 _ (by decide) rfl
            have a4 := g1.2 4 _ (by decide) rfl
            have a5 := g1.2 5 _ (by decide) rfl
            have a6 := g1.2 6 _ (by decide) rfl
            have a7 := g1.2 7 _ (by decide) rfl
            have b0 := g2.1 _ rfl
            have b1 := g2.2 1 _ (by decide) rfl
            have b2 := g2.2 2 _ (by decide) rfl
            have b3 := g2.2 3 _ (by decide) rfl
            have b4 := g2.2 4 _ (by decide) rfl
            have b5 := g2.2 5 _ (by decide) rfl
            have b6 := g2.2 6 _ (by decide) rfl
            have b7 := g2.2 7 _ (by decide) rfl
            have ca0 := fun o : Obj => (r1 o).1 _ rfl
            have ca1 := fun o : Obj => (r1 o).2 1 _ (by decide) rfl
            have ca2 := fun o : Obj => (r1 o).2 2 _ (by decide) rfl
            have ca3 := fun o : Obj => (r1 o).2 3 _ (by decide) rfl
            have ca4 := fun o : Obj => (r1 o).2 4 _ (by decide) rfl
            have ca5 := fun o : Obj => (r1 o).2 5 _ (by decide) rfl
            have ca6 := fun o : Obj => (r1 o).2 6 _ (by decide) rfl
            have ca7 := fun o : Obj => (r1 o).2 7 _ (by decide) rfl
            have cb0 := fun o : Obj => (r2 o).1 _ rfl
            have cb1 := fun o : Obj => (r2 o).2 1 _ (by decide) rfl
            have cb2 := fun o : Obj => (r2 o).2 2 _ (by decide) rfl
            have cb3 := fun o : Obj => (r2 o).2 3 _ (by decide) rfl
            have cb4 := fun o : Obj => (r2 o).2 4 _ (by decide) rfl
            have cb5 := fun o : Obj => (r2 o).2 5 _ (by decide) rfl
            have cb6 := fun o : Obj => (r2 o).2 6 _ (by decide) rfl
            have cb7 := fun o : Obj => (r2 o).2 7 _ (by decide) rfl
            have ea0 := fun o p : Obj => (s1 o p).1 _ rfl
            have ea1 := fun o p : Obj => (s1 o p).2 1 _ (by decide) rfl
            have ea2 := fun o p : Obj => (s1 o p).2 2 _ (by decide) rfl
            have ea3 := fun o p : Obj => (s1 o p).2 3 _ (by decide) rfl
            have ea4 := fun o p : Obj => (s1 o p).2 4 _ (by decide) rfl
            have ea5 := fun o p : Obj => (s1 o p).2 5 _ (by decide) rfl
            have ea6 := fun o p : Obj => (s1 o p).2 6 _ (by decide) rfl
            have ea7 := fun o p : Obj => (s1 o p).2 7 _ (by decide) rfl
            have eb0 := fun o p : Obj => (s2 o p).1 _ rfl
            have eb1 := fun o p : Obj => (s2 o p).2 1 _ (by decide) rfl
            have eb2 := fun o p : Obj => (s2 o p).2 2 _ (by decide) rfl
            have eb3 := fun o p : Obj => (s2 o p).2 3 _ (by decide) rfl
            have eb4 := fun o p : Obj => (s2 o p).2 4 _ (by decide) rfl
            have eb5 := fun o p : Obj => (s2 o p).2 5 _ (by decide) rfl
            have eb6 := fun o p : Obj => (s2 o p).2 6 _ (by decide) rfl
            have eb7 := fun o p : Obj => (s2 o p).2 7 _ (by decide) rfl
            clear g1 g2 r1 r2 s1 s2
            go_region
            all_goals go_wp2_with fail
            all_goals go_meet
            case rel => exact ⟨_, _, rfl, rfl, Lib.hid ⟨(two_new wr _ _).2.2, Nat.ne_of_lt (Nat.lt_succ_self _), (two_new wr _ _).1, (two_new wr _ _).2.1⟩⟩
            case rel => exact ⟨_, _, rfl, rfl, Lib.hid ⟨(two_new wr _ _).2.2, Nat.ne_of_gt (Nat.lt_succ_self _), (two_new wr _ _).2.1, (two_new wr _ _).1⟩⟩
          case rest =>
            as_aux_lemma =>
            obtain ⟨U2, V2, rfl, rfl, hW2⟩ := hcut
            clear g1 g2
            rename World => wq
            have x1_0 : wq.cell? ⟨U2, 0, none⟩ = some (.string (tx pm)) := cellsN hW2.out.2.2.1 0 _ rfl
            have x1_1 : wq.cell? ⟨U2, 1, none⟩ = some (.slice aP1 prs.length cP1) := cellsN hW2.out.2.2.1 1 _ rfl
            have x1_2 : wq.cell? ⟨U2, 2, none⟩ = some (.bool yes) := cellsN hW2.out.2.2.1 2 _ rfl
            have x1_3 : wq.cell? ⟨U2, 3, none⟩ = some (.string (tx pr)) := cellsN hW2.out.2.2.1 3 _ rfl
            have x1_4 : wq.cell? ⟨U2, 4, none⟩ = some (.string (tx pc)) := cellsN hW2.out.2.2.1 4 _ rfl
            have x1_5 : wq.cell? ⟨U2, 5, none⟩ = some (.slice aU1 us.length cU1) := cellsN hW2.out.2.2.1 5 _ rfl
            have x1_6 : wq.cell? ⟨U2, 6, none⟩ = some (.slice aB1 bd.length cB1) := cellsN hW2.out.2.2.1 6 _ rfl
            have x1_7 : wq.cell? ⟨U2, 7, none⟩ = some (.int .i64 pz) := cellsN hW2.out.2.2.1 7 _ rfl
            have x2_0 : wq.cell? ⟨V2, 0, none⟩ = some (.string (tx pm)) := cellsN hW2.out.2.2.2 0 _ rfl
            have x2_1 : wq.cell? ⟨V2, 1, none⟩ = some (.slice aP2 prs.length cP2) := cellsN hW2.out.2.2.2 1 _ rfl
            have x2_2 : wq.cell? ⟨V2, 2, none⟩ = some (.bool yes) := cellsN hW2.out.2.2.2 2 _ rfl
            have x2_3 : wq.cell? ⟨V2, 3, none⟩ = some (.string (tx pr)) := cellsN hW2.out.2.2.2 3 _ rfl
            have x2_4 : wq.cell? ⟨V2, 4, none⟩ = some (.string (tx pc)) := cellsN hW2.out.2.2.2 4 _ rfl
            have x2_5 : wq.cell? ⟨V2, 5, none⟩ = some (.slice aU2 us.length cU2) := cellsN hW2.out.2.2.2 5 _ rfl
            have x2_6 : wq.cell? ⟨V2, 6, none⟩ = some (.slice aB2 bd.length cB2) := cellsN hW2.out.2.2.2 6 _ rfl
            have x2_7 : wq.cell? ⟨V2, 7, none⟩ = some (.int .i64 pz) := cellsN hW2.out.2.2.2 7 _ rfl
            have HTH := Lib.hid (cmp_texts _ _ us us wq (HB.out.2.1.1.imp hW2.out.1 fun _ _ h => h) (HB.out.2.1.2.imp hW2.out.1 fun _ _ h => h))
            clear d1 d2
            go_wp2_with fail
            refine HTH.out.mono ?_
            rintro e w6 ⟨b6, rfl, hb6, hg6⟩
            obtain rfl := hb6.2 trivial
            have p1_1 := hg6.cell x1_1
            have p1_6 := hg6.cell x1_6
            have p1_7 := hg6.cell x1_7
            have p2_1 := hg6.cell x2_1
            have p2_6 := hg6.cell x2_6
            have p2_7 := hg6.cell x2_7
            have H6 := Lib.hid hg6
            clear x1_0 x1_1 x1_2 x1_3 x1_4 x1_5 x1_6 x1_7 x2_0 x2_1 x2_2 x2_3 x2_4 x2_5 x2_6 x2_7 hb6 hg6 HTH
            have HS := Lib.hid (cmp_stmts_true _ _ _ bd bd w6 (Nat.le_refl _) (HB.out.2.2.1.later (hW2.out.1.trans H6.out)) (HB.out.2.2.2.later (hW2.out.1.trans H6.out)) (fun _ => rfl))
            go_wp2_with fail
            refine HS.out.mono ?_
            rintro e w7 ⟨b7, rfl, hb7, hg7⟩
            obtain rfl := hb7.2 trivial
            have HCC := Lib.hid (And.intro (hg7.cell p1_1) (hg7.cell p2_1))
            have HGV := Lib.hid (hW2.out.1.trans (H6.out.trans hg7))
            clear hb7 hg7 HS p1_1 p1_6 p1_7 p2_1 p2_6 p2_7
            obtain ⟨nq, hnq⟩ : ∃ n, prs.length = n := ⟨_, rfl⟩
            rw [hnq] at HB HCC hq1
            clear hnq
            have c1_1 := HCC.out.1
            have c2_1 := HCC.out.2
            go_wp2_with fail
            clear c1_1 c2_1
            go_loopw [14] (fun i wz => ∃ j : Nat, j ≤ nq ∧ i = .int .i64 j ∧ Hid (Grow w7 wz)) (fun i _ => nq - (RowKit.intOf i).toNat)
            case atStart => exact ⟨0, Nat.zero_le _, rfl, Lib.hid (Grow.refl _)⟩
            case round =>
              obtain ⟨j, hj, rfl, hGj⟩ := hrel
              have d1 := hGj.out.cell HCC.out.1
              have d2 := hGj.out.cell HCC.out.2
              by_cases hjn : j < nq
              case neg =>
                as_aux_lemma =>
                have h4 : ¬ (j : Int) < (nq : Int) := by omega
                go_wp2_with fail
                exact ⟨⟨k + 1, by omega, by go_num, Lib.hid (hG.out.trans (HGV.out.trans hGj.out))⟩, by simp [RowKit.intOf]; omega⟩
              as_aux_lemma =>
              have h4 : (j : Int) < (nq : Int) := by omega
              obtain ⟨t1, o1, u1, e5, f1, ⟨q1, rfl, g1⟩, _, s1⟩ := TRows.at (HB.out.1.1.imp (HGV.out.trans hGj.out) fun _ _ h => h) hjn
              obtain ⟨t2, o2, u2, e6, f2, ⟨q2, rfl, g2⟩, _, s2⟩ := TRows.at (HB.out.1.2.imp (HGV.out.trans hGj.out) fun _ _ h => h) hjn
              cases e5
              cases e6
              rw [f1] at f2
              cases f2
              obtain rfl : q1 = q2 := by rw [g1 rfl, g2 rfl]
              obtain ⟨n1, l1, wa2⟩ := o1
              unfold parVT at s1 s2
              have a0 := s1.1 _ rfl
              have a1 := s1.2 1 _ (by decide) rfl
              have a2 := s1.2 2 _ (by decide) rfl
              have b0 := s2.1 _ rfl
              have b1 := s2.2 1 _ (by decide) rfl
              have b2 := s2.2 2 _ (by decide) rfl
              clear f1 g1 g2 s1 s2 HB
              go_wp2_with fail
              go_quiet (fail)
              go_wp2
              case roundEnd => exact ⟨⟨j + 1, by omega, by go_num, Lib.hid (below_drewN hGj.out _)⟩, by simp [RowKit.intOf]; omega⟩

end Go.Proofs.YtfcfbdemfbkgmaaGreatDoor

namespace Go.Proofs.YtfcfbdemfbkgmaaGreatDoor
open Go.RowKit Go.Lib
set_option maxRecDepth 100000

theorem ref_Whole (m1 m2 : Mdl) (s1 s2 : List Value) (w : World) (h1 : ModT true w m1 s1) (h2 : ModT true w m2 s2) (h : m1 = m2) :
    Calls Tryz.prog 14 #[.agg s1.toArray, .agg s2.toArray] w (Cmp (m1 = m2) w) := by
  subst h
  have P := fun W (hg : Grow w W) => yes_whole m1 s1 s2 W (h1.later hg) (h2.later hg)
  obtain ⟨z1, aI1, nI1, cI1, aV1, nV1, cV1, aP1, nP1, cP1, rfl⟩ := modT_shape h1
  obtain ⟨z2, aI2, nI2, cI2, aV2, nV2, cV2, aP2, nP2, cP2, rfl⟩ := modT_shape h2
  generalize tx m1.name = n1 at *
  obtain ⟨W, hW⟩ : ∃ W, (w.alloc (.cells #[.string n1, .int .i64 z1, .slice aI1 nI1 cI1, .slice aV1 nV1 cV1, .slice aP1 nP1 cP1] 27)).alloc (.cells #[.string n1, .int .i64 z2, .slice aI2 nI2 cI2, .slice aV2 nV2 cV2, .slice aP2 nP2 cP2] 27) = W := ⟨_, rfl⟩
  have b1 : W.heap[w.heap.size]? = some (.cells #[.string n1, .int .i64 z1, .slice aI1 nI1 cI1, .slice aV1 nV1 cV1, .slice aP1 nP1 cP1] 27) := by rw [← hW]; exact (two_new w _ _).1
  have b2 : W.heap[w.heap.size + 1]? = some (.cells #[.string n1, .int .i64 z2, .slice aI2 nI2 cI2, .slice aV2 nV2 cV2, .slice aP2 nP2 cP2] 27) := by rw [← hW]; exact (two_new w _ _).2.1
  have HW : Hid (Grow w W) := Lib.hid (by rw [← hW]; exact ((Below.refl _ w).alloc (Nat.le_refl _) _).alloc (by simp) _)
  have HP := Lib.hid (P W HW.out)
  have x1_0 : W.cell? ⟨w.heap.size, 0, none⟩ = some (.string n1) := cellsN b1 0 _ rfl
  have x1_1 : W.cell? ⟨w.heap.size, 1, none⟩ = some (.int .i64 z1) := cellsN b1 1 _ rfl
  have x1_2 : W.cell? ⟨w.heap.size, 2, none⟩ = some (.slice aI1 nI1 cI1) := cellsN b1 2 _ rfl
  have x1_3 : W.cell? ⟨w.heap.size, 3, none⟩ = some (.slice aV1 nV1 cV1) := cellsN b1 3 _ rfl
  have x1_4 : W.cell? ⟨w.heap.size, 4, none⟩ = some (.slice aP1 nP1 cP1) := cellsN b1 4 _ rfl
  have x2_0 : W.cell? ⟨w.heap.size + 1, 0, none⟩ = some (.string n1) := cellsN b2 0 _ rfl
  have x2_1 : W.cell? ⟨w.heap.size + 1, 1, none⟩ = some (.int .i64 z2) := cellsN b2 1 _ rfl
  have x2_2 : W.cell? ⟨w.heap.size + 1, 2, none⟩ = some (.slice aI2 nI2 cI2) := cellsN b2 2 _ rfl
  have x2_3 : W.cell? ⟨w.heap.size + 1, 3, none⟩ = some (.slice aV2 nV2 cV2) := cellsN b2 3 _ rfl
  have x2_4 : W.cell? ⟨w.heap.size + 1, 4, none⟩ = some (.slice aP2 nP2 cP2) := cellsN b2 4 _ rfl
  clear b1 b2 P h1 h2
  go_enter Tryz.func14, Tryz.ntmps14
  go_wp2_with fail
  refine HP.out.mono ?_
  rintro e w6 ⟨rfl, hg⟩
  have H6 := Lib.hid (HW.out.trans hg)
  clear hg x1_0 x1_1 x1_2 x1_3 x1_4 x2_0 x2_1 x2_2 x2_3 x2_4 hW
  go_wp2_with fail
  go_ret
  exact ⟨true, rfl, ⟨fun _ => by trivial, fun _ => rfl⟩, H6.out⟩

end Go.Proofs.YtfcfbdemfbkgmaaGreatDoor
