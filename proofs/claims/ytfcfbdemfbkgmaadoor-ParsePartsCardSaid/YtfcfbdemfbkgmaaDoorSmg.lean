/- The reference's comparing of trees: statements. Made by wip/tools/gensmc.py. Numbers and types by name. -/
import Derived.Test.YtfcfbdemfbkgmaaDoorObp
import Derived.Deep.CutRange
namespace Go.Proofs.YtfcfbdemfbkgmaaDoor
open Go.RowKit Go.Lib
set_option maxRecDepth 100000

set_option maxHeartbeats 16000000 in
theorem cmp_stmts_true : ∀ (N : Nat) (v1 v2 : Value) (a b : List Stm) (w : World), szS a ≤ N → BodyT true w v1 a → BodyT true w v2 b → (true = true → a = b) →
    Calls Tryd.prog 36 #[v1, v2, .bool true] w (Cmp (a.map (Stm.nrm true) = b.map (Stm.nrm true)) w) := by
  intro N
  induction N using Nat.strongRecOn with
  | ind N ih =>
  intro v1 v2 a b w hsz h1 h2 hab
  obtain ⟨a1, c1, rfl⟩ := h1.shape
  obtain ⟨a2, c2, rfl⟩ := h2.shape
  have m1 := h1.1
  have hml : a.length ≤ 9223372036854775807 := Nat.le_trans m1 (by decide)
  have H1 := Lib.hid h1
  have H2 := Lib.hid h2
  have IH := Lib.hid (And.intro ih hsz)
  have HAB := Lib.hid hab
  clear h1 h2 ih hsz hab
  obtain ⟨n, hn⟩ : ∃ n, a.length = n := ⟨_, rfl⟩
  obtain ⟨m, hm⟩ : ∃ n, b.length = n := ⟨_, rfl⟩
  rw [hn] at H1 m1 hml ⊢
  rw [hm] at H2 ⊢
  have HN := Lib.hid (And.intro hn hm)
  clear hn hm
  by_cases hne : n = m
  case neg =>
    have h3 : ¬ (n : Int) = (m : Int) := by omega
    have h4 : ((n : Int) != (m : Int)) = true := by simpa using h3
    go_enter Tryd.func36, Tryd.ntmps36
    go_wp2_with fail
    go_ret
    refine ⟨false, rfl, ⟨(fun h => by cases h), fun h => ?_⟩, Grow.refl w⟩
    have := congrArg List.length h
    rw [List.length_map, List.length_map, HN.out.1, HN.out.2] at this
    exact absurd this hne
  subst hne
  go_enter Tryd.func36, Tryd.ntmps36
  go_wp2_with fail
  go_loopw [7] (fun i wr => ∃ k : Nat, k ≤ n ∧ i = .int .i64 k ∧ Hid (Grow w wr ∧ (a.take k).map (Stm.nrm true) = (b.take k).map (Stm.nrm true)))
    (fun i _ => n - (RowKit.intOf i).toNat)
  case atStart => exact ⟨0, Nat.zero_le _, rfl, Lib.hid ⟨Grow.refl w, rfl⟩⟩
  case round =>
    obtain ⟨k, hk, rfl, hG⟩ := hrel
    by_cases h1 : k < n
    case neg =>
      have h3 : ¬ (k : Int) < (n : Int) := by omega
      obtain rfl : k = n := by omega
      go_wp2_with fail
      go_ret
      refine ⟨true, rfl, ⟨fun _ => ?_, fun _ => rfl⟩, hG.out.1⟩
      have := hG.out.2
      rw [List.take_of_length_le (by rw [HN.out.1]; exact Nat.le_refl _), List.take_of_length_le (by rw [HN.out.2]; exact Nat.le_refl _)] at this
      exact this
    have h3 : (k : Int) < (n : Int) := by omega
    obtain ⟨x1, o1, s1, rfl, e1, st1, _, g1⟩ := TRows.at (BodyT.later H1.out hG.out.1) h1
    obtain ⟨x2, o2, s2, rfl, e2, st2, _, g2⟩ := TRows.at (BodyT.later H2.out hG.out.1) h1
    obtain ⟨hd1, bd1, el1⟩ := o1
    obtain ⟨hd2, bd2, el2⟩ := o2
    obtain ⟨z1, vE1, vA1, vB1, vC1, rfl, pz1, tE1, tA1, tB1, tC1⟩ := StmT.iff.1 st1
    obtain ⟨z2, vE2, vA2, vB2, vC2, rfl, pz2, tE2, tA2, tB2, tC2⟩ := StmT.iff.1 st2
    obtain ⟨aE1, cE1, rfl⟩ := tE1.shape
    obtain ⟨aA1, cA1, rfl⟩ := tA1.shape
    obtain ⟨aB1, cB1, rfl⟩ := tB1.shape
    obtain ⟨aC1, cC1, rfl⟩ := tC1.shape
    obtain ⟨aE2, cE2, rfl⟩ := tE2.shape
    obtain ⟨aA2, cA2, rfl⟩ := tA2.shape
    obtain ⟨aB2, cB2, rfl⟩ := tB2.shape
    obtain ⟨aC2, cC2, rfl⟩ := tC2.shape
    have hq := stm_nrm true hd1 hd2 bd1 bd2 el1 el2
    have hxa : a.map (Stm.nrm true) = b.map (Stm.nrm true) → (Stm.mk hd1 bd1 el1).nrm true = (Stm.mk hd2 bd2 el2).nrm true := fun h => map_at (Stm.nrm true) e1 e2 h
    have hxb : (Stm.mk hd1 bd1 el1).nrm true = (Stm.mk hd2 bd2 el2).nrm true → (a.take (k + 1)).map (Stm.nrm true) = (b.take (k + 1)).map (Stm.nrm true) := fun h => er_take_next (Stm.nrm true) e1 e2 hG.out.2 h
    have hto : true = true → Stm.mk hd1 bd1 el1 = Stm.mk hd2 bd2 el2 := fun ht => by
      have := HAB.out (by simp)
      subst this
      rw [e1] at e2
      exact Option.some.inj e2
    have hz1 : szS bd1 + szS el1 < N := by
      have := sz_at e1
      rw [sz_mk] at this
      have := IH.out.2
      omega
    obtain ⟨k1, w1, m1, n1, l1, yes1, p1, q1, ee1, aa1⟩ := hd1
    obtain ⟨k2, w2, m2, n2, l2, yes2, p2, q2, ee2, aa2⟩ := hd2
    simp only at hq pz1 pz2 tE1 tE2 tA1 tA2
    have hpz : true = true → z1 = z2 := fun ht => by
      have := hto (by simp)
      simp only [Stm.mk.injEq, SH.mk.injEq] at this
      rw [pz1 (by simp), pz2 (by simp), this.1.2.1]
    have HB := Lib.hid (And.intro (And.intro tE1 tE2) (And.intro (And.intro tA1 tA2) (And.intro (And.intro tB1 tB2) (And.intro tC1 tC2))))
    have HX := Lib.hid (And.intro hxa (And.intro hxb (And.intro hq (And.intro hto hpz))))
    have HI : Hid ((∀ (v1 v2 : Value) (w : World), BodyT true w v1 bd1 → BodyT true w v2 bd2 → Calls Tryd.prog 36 #[v1, v2, .bool true] w (Cmp (bd1.map (Stm.nrm true) = bd2.map (Stm.nrm true)) w)) ∧ ∀ (v1 v2 : Value) (w : World), BodyT true w v1 el1 → BodyT true w v2 el2 → Calls Tryd.prog 36 #[v1, v2, .bool true] w (Cmp (el1.map (Stm.nrm true) = el2.map (Stm.nrm true)) w)) := Lib.hid
      ⟨fun v1 v2 w h1 h2 => IH.out.1 _ hz1 v1 v2 bd1 bd2 w (by omega) h1 h2 fun ht => by (have := hto (by simp); simp only [Stm.mk.injEq] at this; exact this.2.1), fun v1 v2 w h1 h2 => IH.out.1 _ hz1 v1 v2 el1 el2 w (by omega) h1 h2 fun ht => by (have := hto (by simp); simp only [Stm.mk.injEq] at this; exact this.2.2)⟩
    have hA1 : aa1.length ≤ 9223372036854775807 := Nat.le_trans tA1.1 (by decide)
    clear e1 e2 st1 st2 tE1 tE2 tA1 tA2 tB1 tB2 tC1 tC2 pz1 pz2 hz1 hq hxa hxb hto hpz IH HAB
    unfold stmHeadT at g1 g2
    simp only at g1 g2 HB
    go_upto_region 6 with fail
    go_cut [8, 9] from 16 to 140 (fun s8 s9 wx => ∃ U V : Nat, s8 = .pointer (some ⟨U, 0, none⟩) ∧ s9 = .pointer (some ⟨V, 0, none⟩) ∧ Hid (Grow wr wx ∧ U ≠ V ∧ wx.heap[U]? = some (.cells #[.int .i64 k1, .int .i64 z1, .string (tx m1), .string (tx n1), .string (tx l1), .bool yes1, .string (tx p1), .string (tx q1), .slice aE1 ee1.length cE1, .slice aA1 aa1.length cA1, .slice aB1 bd1.length cB1, .slice aC1 el1.length cC1] 88) ∧ wx.heap[V]? = some (.cells #[.int .i64 k2, .int .i64 z2, .string (tx m2), .string (tx n2), .string (tx l2), .bool yes2, .string (tx p2), .string (tx q2), .slice aE2 ee2.length cE2, .slice aA2 aa2.length cA2, .slice aB2 bd2.length cB2, .slice aC2 el2.length cC2] 88)))
    case first =>
      have r1 := fun o : Obj => g1.later ((Below.refl _ wr).alloc (Nat.le_refl _) o)
      have r2 := fun o : Obj => g2.later ((Below.refl _ wr).alloc (Nat.le_refl _) o)
      have s1 := fun o p : Obj => (r1 o).later ((Below.refl _ (wr.alloc o)).alloc (Nat.le_refl _) p)
      have s2 := fun o p : Obj => (r2 o).later ((Below.refl _ (wr.alloc o)).alloc (Nat.le_refl _) p)
      have a0 := g1.1 _ rfl
      have a1 := g1.2 1 _ (by decide) rfl
      have a2 := g1.2 2 _ (by decide) rfl
      have a3 := g1.2 3 _ (by decide) rfl
      have a4 := g1.2 4 _ (by decide) rfl
      have a5 := g1.2 5 _ (by decide) rfl
      have a6 := g1.2 6 _ (by decide) rfl
      have a7 := g1.2 7 _ (by decide) rfl
      have a8 := g1.2 8 _ (by decide) rfl
      have a9 := g1.2 9 _ (by decide) rfl
      have a10 := g1.2 10 _ (by decide) rfl
      have a11 := g1.2 11 _ (by decide) rfl
      have b0 := g2.1 _ rfl
      have b1 := g2.2 1 _ (by decide) rfl
      have b2 := g2.2 2 _ (by decide) rfl
      have b3 := g2.2 3 _ (by decide) rfl
      have b4 := g2.2 4 _ (by decide) rfl
      have b5 := g2.2 5 _ (by decide) rfl
      have b6 := g2.2 6 _ (by decide) rfl
      have b7 := g2.2 7 _ (by decide) rfl
      have b8 := g2.2 8 _ (by decide) rfl
      have b9 := g2.2 9 _ (by decide) rfl
      have b10 := g2.2 10 _ (by decide) rfl
      have b11 := g2.2 11 _ (by decide) rfl
      have c0 := fun o : Obj => (r1 o).1 _ rfl
      have c1 := fun o : Obj => (r1 o).2 1 _ (by decide) rfl
      have c2 := fun o : Obj => (r1 o).2 2 _ (by decide) rfl
      have c3 := fun o : Obj => (r1 o).2 3 _ (by decide) rfl
      have c4 := fun o : Obj => (r1 o).2 4 _ (by decide) rfl
      have c5 := fun o : Obj => (r1 o).2 5 _ (by decide) rfl
      have c6 := fun o : Obj => (r1 o).2 6 _ (by decide) rfl
      have c7 := fun o : Obj => (r1 o).2 7 _ (by decide) rfl
      have c8 := fun o : Obj => (r1 o).2 8 _ (by decide) rfl
      have c9 := fun o : Obj => (r1 o).2 9 _ (by decide) rfl
      have c10 := fun o : Obj => (r1 o).2 10 _ (by decide) rfl
      have c11 := fun o : Obj => (r1 o).2 11 _ (by decide) rfl
      have d0 := fun o : Obj => (r2 o).1 _ rfl
      have d1 := fun o : Obj => (r2 o).2 1 _ (by decide) rfl
      have d2 := fun o : Obj => (r2 o).2 2 _ (by decide) rfl
      have d3 := fun o : Obj => (r2 o).2 3 _ (by decide) rfl
      have d4 := fun o : Obj => (r2 o).2 4 _ (by decide) rfl
      have d5 := fun o : Obj => (r2 o).2 5 _ (by decide) rfl
      have d6 := fun o : Obj => (r2 o).2 6 _ (by decide) rfl
      have d7 := fun o : Obj => (r2 o).2 7 _ (by decide) rfl
      have d8 := fun o : Obj => (r2 o).2 8 _ (by decide) rfl
      have d9 := fun o : Obj => (r2 o).2 9 _ (by decide) rfl
      have d10 := fun o : Obj => (r2 o).2 10 _ (by decide) rfl
      have d11 := fun o : Obj => (r2 o).2 11 _ (by decide) rfl
      have e0 := fun o p : Obj => (s1 o p).1 _ rfl
      have e1 := fun o p : Obj => (s1 o p).2 1 _ (by decide) rfl
      have e2 := fun o p : Obj => (s1 o p).2 2 _ (by decide) rfl
      have e3 := fun o p : Obj => (s1 o p).2 3 _ (by decide) rfl
      have e4 := fun o p : Obj => (s1 o p).2 4 _ (by decide) rfl
      have e5 := fun o p : Obj => (s1 o p).2 5 _ (by decide) rfl
      have e6 := fun o p : Obj => (s1 o p).2 6 _ (by decide) rfl
      have e7 := fun o p : Obj => (s1 o p).2 7 _ (by decide) rfl
      have e8 := fun o p : Obj => (s1 o p).2 8 _ (by decide) rfl
      have e9 := fun o p : Obj => (s1 o p).2 9 _ (by decide) rfl
      have e10 := fun o p : Obj => (s1 o p).2 10 _ (by decide) rfl
      have e11 := fun o p : Obj => (s1 o p).2 11 _ (by decide) rfl
      have f0 := fun o p : Obj => (s2 o p).1 _ rfl
      have f1 := fun o p : Obj => (s2 o p).2 1 _ (by decide) rfl
      have f2 := fun o p : Obj => (s2 o p).2 2 _ (by decide) rfl
      have f3 := fun o p : Obj => (s2 o p).2 3 _ (by decide) rfl
      have f4 := fun o p : Obj => (s2 o p).2 4 _ (by decide) rfl
      have f5 := fun o p : Obj => (s2 o p).2 5 _ (by decide) rfl
      have f6 := fun o p : Obj => (s2 o p).2 6 _ (by decide) rfl
      have f7 := fun o p : Obj => (s2 o p).2 7 _ (by decide) rfl
      have f8 := fun o p : Obj => (s2 o p).2 8 _ (by decide) rfl
      have f9 := fun o p : Obj => (s2 o p).2 9 _ (by decide) rfl
      have f10 := fun o p : Obj => (s2 o p).2 10 _ (by decide) rfl
      have f11 := fun o p : Obj => (s2 o p).2 11 _ (by decide) rfl
      clear g1 g2 r1 r2 s1 s2
      clear HB HX HI H1 H2 HN
      go_region
      all_goals go_wp2_with fail
      all_goals go_meet
      case rel => exact ⟨_, _, rfl, rfl, Lib.hid ⟨(two_new wr _ _).2.2, Nat.ne_of_lt (Nat.lt_succ_self _), (two_new wr _ _).1, (two_new wr _ _).2.1⟩⟩
      case rel => exact ⟨_, _, rfl, rfl, Lib.hid ⟨(two_new wr _ _).2.2, Nat.ne_of_gt (Nat.lt_succ_self _), (two_new wr _ _).2.1, (two_new wr _ _).1⟩⟩
    case rest =>
      obtain ⟨U, V, rfl, rfl, hW⟩ := hcut
      clear g1 g2
      go_upto_region 7 with fail
      go_cut [95] from 16 to 140 (fun s95 wx => wc = wx ∧ ∃ B : Bool, s95 = .bool B ∧ Hid (B = false ↔ k1 = k2 ∧ (true = true → z1 = z2) ∧ m1 = m2 ∧ n1 = n2 ∧ l1 = l2 ∧ yes1 = yes2 ∧ p1 = p2 ∧ q1 = q2 ∧ aa1.length = aa2.length))
      case first =>
        have x1_0 : wc.cell? ⟨U, 0, none⟩ = some (.int .i64 k1) := cellsN hW.out.2.2.1 0 _ rfl
        have x1_1 : wc.cell? ⟨U, 1, none⟩ = some (.int .i64 z1) := cellsN hW.out.2.2.1 1 _ rfl
        have x1_2 : wc.cell? ⟨U, 2, none⟩ = some (.string (tx m1)) := cellsN hW.out.2.2.1 2 _ rfl
        have x1_3 : wc.cell? ⟨U, 3, none⟩ = some (.string (tx n1)) := cellsN hW.out.2.2.1 3 _ rfl
        have x1_4 : wc.cell? ⟨U, 4, none⟩ = some (.string (tx l1)) := cellsN hW.out.2.2.1 4 _ rfl
        have x1_5 : wc.cell? ⟨U, 5, none⟩ = some (.bool yes1) := cellsN hW.out.2.2.1 5 _ rfl
        have x1_6 : wc.cell? ⟨U, 6, none⟩ = some (.string (tx p1)) := cellsN hW.out.2.2.1 6 _ rfl
        have x1_7 : wc.cell? ⟨U, 7, none⟩ = some (.string (tx q1)) := cellsN hW.out.2.2.1 7 _ rfl
        have x1_8 : wc.cell? ⟨U, 8, none⟩ = some (.slice aE1 ee1.length cE1) := cellsN hW.out.2.2.1 8 _ rfl
        have x1_9 : wc.cell? ⟨U, 9, none⟩ = some (.slice aA1 aa1.length cA1) := cellsN hW.out.2.2.1 9 _ rfl
        have x1_10 : wc.cell? ⟨U, 10, none⟩ = some (.slice aB1 bd1.length cB1) := cellsN hW.out.2.2.1 10 _ rfl
        have x1_11 : wc.cell? ⟨U, 11, none⟩ = some (.slice aC1 el1.length cC1) := cellsN hW.out.2.2.1 11 _ rfl
        have x2_0 : wc.cell? ⟨V, 0, none⟩ = some (.int .i64 k2) := cellsN hW.out.2.2.2 0 _ rfl
        have x2_1 : wc.cell? ⟨V, 1, none⟩ = some (.int .i64 z2) := cellsN hW.out.2.2.2 1 _ rfl
        have x2_2 : wc.cell? ⟨V, 2, none⟩ = some (.string (tx m2)) := cellsN hW.out.2.2.2 2 _ rfl
        have x2_3 : wc.cell? ⟨V, 3, none⟩ = some (.string (tx n2)) := cellsN hW.out.2.2.2 3 _ rfl
        have x2_4 : wc.cell? ⟨V, 4, none⟩ = some (.string (tx l2)) := cellsN hW.out.2.2.2 4 _ rfl
        have x2_5 : wc.cell? ⟨V, 5, none⟩ = some (.bool yes2) := cellsN hW.out.2.2.2 5 _ rfl
        have x2_6 : wc.cell? ⟨V, 6, none⟩ = some (.string (tx p2)) := cellsN hW.out.2.2.2 6 _ rfl
        have x2_7 : wc.cell? ⟨V, 7, none⟩ = some (.string (tx q2)) := cellsN hW.out.2.2.2 7 _ rfl
        have x2_8 : wc.cell? ⟨V, 8, none⟩ = some (.slice aE2 ee2.length cE2) := cellsN hW.out.2.2.2 8 _ rfl
        have x2_9 : wc.cell? ⟨V, 9, none⟩ = some (.slice aA2 aa2.length cA2) := cellsN hW.out.2.2.2 9 _ rfl
        have x2_10 : wc.cell? ⟨V, 10, none⟩ = some (.slice aB2 bd2.length cB2) := cellsN hW.out.2.2.2 10 _ rfl
        have x2_11 : wc.cell? ⟨V, 11, none⟩ = some (.slice aC2 el2.length cC2) := cellsN hW.out.2.2.2 11 _ rfl
        have hpz := HX.out.2.2.2.2
        have hz := hpz (by simp)
        subst hz
        clear hpz
        clear HB HI H1 H2 HN hW HX
        have hWW : Hid True := Lib.hid trivial
        go_wp2_with fail
        all_goals go_meet
        all_goals clear x1_0 x1_1 x1_2 x1_3 x1_4 x1_5 x1_6 x1_7 x1_8 x1_9 x1_10 x1_11 x2_0 x2_1 x2_2 x2_3 x2_4 x2_5 x2_6 x2_7 x2_8 x2_9 x2_10 x2_11
        all_goals (refine ⟨rfl, _, rfl, Lib.hid ?_⟩; (first | exact ⟨fun h => (by cases h), fun h => absurd h.1 (by assumption)⟩ | (try simp only [tx_list] at *; first | done | (simp_all; done) | (simp_all; omega))))
      case rest =>
        obtain ⟨hw2, B, rfl, hB⟩ := hcut
        subst hw2
        have HGW := Lib.hid (hG.out.1.trans hW.out.1)
        cases B with
        | true =>
          go_wp2_with fail
          go_ret
          refine ⟨false, rfl, ⟨(fun h => by cases h), fun h => ?_⟩, HGW.out⟩
          obtain ⟨r1, r2, r3, r4, r5, r6, r7, r8, r9, r10, r11, r12⟩ := HX.out.2.2.1.1 (HX.out.1 h)
          have := hB.out.2 ⟨r1, HX.out.2.2.2.2, r3, r4, r5, r6, r7, r8, by have := congrArg List.length r10; rwa [List.length_map, List.length_map] at this⟩
          cases this
        | false =>
        have HK := Lib.hid (hB.out.1 rfl)
        have hal : aa1.length = aa2.length := HK.out.2.2.2.2.2.2.2.2
        have x1_8 : wc.cell? ⟨U, 8, none⟩ = some (.slice aE1 ee1.length cE1) := cellsN hW.out.2.2.1 8 _ rfl
        have x1_9 : wc.cell? ⟨U, 9, none⟩ = some (.slice aA1 aa1.length cA1) := cellsN hW.out.2.2.1 9 _ rfl
        have x1_10 : wc.cell? ⟨U, 10, none⟩ = some (.slice aB1 bd1.length cB1) := cellsN hW.out.2.2.1 10 _ rfl
        have x1_11 : wc.cell? ⟨U, 11, none⟩ = some (.slice aC1 el1.length cC1) := cellsN hW.out.2.2.1 11 _ rfl
        have x2_8 : wc.cell? ⟨V, 8, none⟩ = some (.slice aE2 ee2.length cE2) := cellsN hW.out.2.2.2 8 _ rfl
        have x2_9 : wc.cell? ⟨V, 9, none⟩ = some (.slice aA2 aa2.length cA2) := cellsN hW.out.2.2.2 9 _ rfl
        have x2_10 : wc.cell? ⟨V, 10, none⟩ = some (.slice aB2 bd2.length cB2) := cellsN hW.out.2.2.2 10 _ rfl
        have x2_11 : wc.cell? ⟨V, 11, none⟩ = some (.slice aC2 el2.length cC2) := cellsN hW.out.2.2.2 11 _ rfl
        rw [← hal] at x2_9
        have HB1 := Lib.hid HB.out.1
        have HB2 : Hid (ArgsT true wr (.slice aA1 aa1.length cA1) aa1 ∧ ArgsT true wr (.slice aA2 aa1.length cA2) aa2) := Lib.hid ⟨HB.out.2.1.1, by rw [hal]; exact HB.out.2.1.2⟩
        have HB3 := Lib.hid HB.out.2.2
        have H5 := Lib.hid hW.out.1
        clear hal hB hW HB
        go_wp2_with fail
        refine (cmp_exprs _ _ _ ee1 ee2 _ (HB1.out.1.later H5.out) (HB1.out.2.later H5.out)).mono ?_
        rintro e w6 ⟨b6, rfl, hb6, hg6⟩
        have p1_9 := hg6.cell x1_9
        have p2_9 := hg6.cell x2_9
        have p1_10 := hg6.cell x1_10
        have p2_10 := hg6.cell x2_10
        have p1_11 := hg6.cell x1_11
        have p2_11 := hg6.cell x2_11
        have H6 := Lib.hid (H5.out.trans hg6)
        have C6 := Lib.hid hb6
        clear x1_8 x1_9 x1_10 x1_11 x2_8 x2_9 x2_10 x2_11 hg6 hb6 H5 HB1
        cases b6 with
        | false =>
          go_wp2_with fail
          go_ret
          refine ⟨false, rfl, ⟨(fun h => by cases h), fun h => ?_⟩, hG.out.1.trans H6.out⟩
          obtain ⟨r1, r2, r3, r4, r5, r6, r7, r8, r9, r10, r11, r12⟩ := HX.out.2.2.1.1 (HX.out.1 h)
          have := C6.out.2 r9
          cases this
        | true =>
        go_wp2_with fail
        refine (HI.out.1 _ _ _ (HB3.out.1.1.later H6.out) (HB3.out.1.2.later H6.out)).mono ?_
        rintro e w7 ⟨b7, rfl, hb7, hg7⟩
        have r1_9 := hg7.cell p1_9
        have r2_9 := hg7.cell p2_9
        have r1_11 := hg7.cell p1_11
        have r2_11 := hg7.cell p2_11
        have H7 := Lib.hid (H6.out.trans hg7)
        have C7 := Lib.hid hb7
        clear p1_9 p2_9 p1_10 p2_10 p1_11 p2_11 hg7 hb7 H6
        cases b7 with
        | false =>
          go_wp2_with fail
          go_ret
          refine ⟨false, rfl, ⟨(fun h => by cases h), fun h => ?_⟩, hG.out.1.trans H7.out⟩
          obtain ⟨r1, r2, r3, r4, r5, r6, r7, r8, r9, r10, r11, r12⟩ := HX.out.2.2.1.1 (HX.out.1 h)
          have := C7.out.2 r11
          cases this
        | true =>
        go_wp2_with fail
        refine (HI.out.2 _ _ _ (HB3.out.2.1.later H7.out) (HB3.out.2.2.later H7.out)).mono ?_
        rintro e w8 ⟨b8, rfl, hb8, hg8⟩
        have HC := Lib.hid (And.intro (hg8.cell r1_9) (hg8.cell r2_9))
        have H8 := Lib.hid (H7.out.trans hg8)
        have C8 := Lib.hid hb8
        clear r1_9 r2_9 r1_11 r2_11 hg8 hb8 H7 HB3 HI
        cases b8 with
        | false =>
          go_wp2_with fail
          go_ret
          refine ⟨false, rfl, ⟨(fun h => by cases h), fun h => ?_⟩, hG.out.1.trans H8.out⟩
          obtain ⟨r1, r2, r3, r4, r5, r6, r7, r8, r9, r10, r11, r12⟩ := HX.out.2.2.1.1 (HX.out.1 h)
          have := C8.out.2 r12
          cases this
        | true =>
        obtain ⟨na, hna⟩ : ∃ na, aa1.length = na := ⟨_, rfl⟩
        rw [hna] at HC HB2 hA1
        have HNA := Lib.hid hna
        clear hna
        go_wp2_with fail
        go_loopw [10] (fun i wq => ∃ j : Nat, j ≤ na ∧ i = .int .i64 j ∧ Hid (Grow w8 wq ∧ (aa1.take j).map (List.map (Nd.nrm true)) = (aa2.take j).map (List.map (Nd.nrm true)))) (fun i _ => na - (RowKit.intOf i).toNat)
        case atStart => exact ⟨0, Nat.zero_le _, rfl, Lib.hid ⟨Grow.refl w8, rfl⟩⟩
        case round =>
          obtain ⟨j, hj, rfl, hGj⟩ := hrel
          have d1 := hGj.out.1.cell HC.out.1
          have d2 := hGj.out.1.cell HC.out.2
          by_cases hjn : j < na
          · have h4 : (j : Int) < (na : Int) := by omega
            obtain ⟨y1, o1, u1, e5, f1, f2, f3⟩ := argsT_at (HB2.out.1.later (H8.out.trans hGj.out.1)) hjn
            obtain ⟨y2, o2, u2, e6, f4, f5, f6⟩ := argsT_at (HB2.out.2.later (H8.out.trans hGj.out.1)) hjn
            cases e5
            cases e6
            obtain ⟨b1, e1, rfl⟩ := f3.shape
            obtain ⟨b2, e2, rfl⟩ := f6.shape
            have HF := Lib.hid (And.intro f3 (And.intro f6 (And.intro f1 f4)))
            clear f1 f3 f4 f6
            go_wp2_with fail
            go_region_law (go_simp; go_at_call 49; refine (cmp_exprs _ _ _ _ _ _ (HF.out.1.later (grow_drew _)) (HF.out.2.1.later (grow_drew _))).mono ?_; rintro e w9 ⟨b9, rfl, hb9, hg9⟩; have H9 := Lib.hid (And.intro hb9 (hGj.out.1.trans ((grow_drew _).trans hg9))); clear hb9 hg9)
            all_goals
              cases b9 with
              | false =>
                go_wp2_with fail
                go_ret
                refine ⟨false, rfl, ⟨(fun h => by cases h), fun h => ?_⟩, hG.out.1.trans (H8.out.trans H9.out.2)⟩
                obtain ⟨r1, r2, r3, r4, r5, r6, r7, r8, r9, r10, r11, r12⟩ := HX.out.2.2.1.1 (HX.out.1 h)
                have := H9.out.1.2 (map_at (List.map (Nd.nrm true)) HF.out.2.2.1 HF.out.2.2.2 r10)
                cases this
              | true =>
                have HN9 := Lib.hid (And.intro H9.out.2 (er_take_next (List.map (Nd.nrm true)) HF.out.2.2.1 HF.out.2.2.2 hGj.out.2 (H9.out.1.1 rfl)))
                go_wp2_with fail
                exact ⟨⟨j + 1, by omega, by go_num, HN9⟩, by simp [RowKit.intOf]; omega⟩
          · have h4 : ¬ (j : Int) < (na : Int) := by omega
            obtain rfl : j = na := by omega
            have HFIN := Lib.hid (And.intro (hG.out.1.trans (H8.out.trans hGj.out.1)) (HX.out.2.1 (HX.out.2.2.1.2 ⟨HK.out.1, fun ht => (by (have := HX.out.2.2.2.1 (by simp); simp only [Stm.mk.injEq, SH.mk.injEq] at this; exact this.1.2.1)), HK.out.2.2.1, HK.out.2.2.2.1, HK.out.2.2.2.2.1, HK.out.2.2.2.2.2.1, HK.out.2.2.2.2.2.2.1, HK.out.2.2.2.2.2.2.2.1, C6.out.1 (by simp), (by have := hGj.out.2; rwa [List.take_of_length_le (by rw [HNA.out]; exact Nat.le_refl _), List.take_of_length_le (by rw [← HK.out.2.2.2.2.2.2.2.2, HNA.out]; exact Nat.le_refl _)] at this), C7.out.1 (by simp), C8.out.1 (by simp)⟩)))
            go_wp2_with fail
            exact ⟨⟨k + 1, by omega, by go_num, HFIN⟩, by simp [RowKit.intOf]; omega⟩

end Go.Proofs.YtfcfbdemfbkgmaaDoor

