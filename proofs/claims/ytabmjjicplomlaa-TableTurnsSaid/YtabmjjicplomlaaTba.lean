/- TableBack, walked. Numbers and types by name. -/
import Derived.Test.YtabmjjicplomlaaTal
namespace Go.Proofs.Ytabmjjicplomlaa
open Go.RowKit Go.Lib Go.Sort

theorem bytesT_inj {A B : List Prm} (ha : Rise A) (hb : Rise B) (h1 : bulkP A ≤ 5000) (h2 : bulkP B ≤ 5000) : (bytesT A = bytesT B) = (A = B) := by
  refine propext ⟨fun h => ?_, fun h => by rw [h]⟩
  unfold bytesT at h
  rw [if_pos ha, if_pos hb] at h
  have e1 := unP_frm ha (by omega)
  have e2 := unP_frm hb (by omega)
  rw [h, e2] at e1
  exact (Option.some.inj e1).symm
theorem listF_T {A : List Prm} (ha : Rise A) (h1 : bulkP A ≤ 5000) : listF (bytesT A) = A ∧ errF (bytesT A) = 0 ∧ errT A = 0 := by
  unfold listF errF errT bytesT
  rw [if_pos ha, unP_frm ha (by omega)]
  simp [ha]

/-- What Pairs tells, in any later world. -/
theorem same_pairs_at (v1 v2 : Value) (n m : Nat) (ps qs : List Prm) (b : Bool) (hb : b = decide (ps = qs)) (w w' : World) (h1 : Prr w v1 n ps) (h2 : Prr w v2 m qs) (hg : Grow w w') :
    Calls Try.prog 19 #[v1, v2] w' fun e w'' => e = .returned (.bool b) ∧ Grow w' w'' := by
  refine (same_pairs v1 v2 n m ps qs w' (h1.later hg) (h2.later hg)).mono ?_
  rintro e w'' ⟨k, rfl, rfl⟩
  exact ⟨by rw [hb], below_drewN (Below.refl _ w') k⟩

set_option maxHeartbeats 4000000 in
theorem back_table (v1 v2 : Value) (n m : Nat) (A B : List Prm) (w : World) (h1 : Prr w v1 n A) (h2 : Prr w v2 m B) :
    Calls Try.prog 4 #[v1, v2] w fun e w' => e = .returned (.bool true) ∧ Below w.heap.size w w' := by
  obtain ⟨a1, c1, rfl⟩ := h1.shape
  obtain ⟨a2, c2, rfl⟩ := h2.shape
  have H1 := Lib.hid h1
  have H2 := Lib.hid h2
  clear h1 h2
  go_enter Try.func4, Try.ntmps4
  go_wp2_with fail
  refine (great_pairs _ n A w H1.out).mono ?_
  rintro e w1 ⟨g, q, rfl, hw1, hb⟩
  have B1 := Lib.hid (show Below w.heap.size w w1 by rw [hw1]; exact below_drewN (Below.refl _ w) q)
  cases g with
  | true =>
    clear hb hw1
    go_wp2_with (go_at_call 10; refine (awake_tab _).mono ?_; rintro e w' ⟨rfl, hb9⟩)
    go_ret
    exact ⟨rfl, B1.out.trans (hb9.mono B1.out.size)⟩
  | false =>
  have HA := Lib.hid (hb rfl)
  clear hb hw1
  go_wp2_with fail
  refine (great_pairs _ m B w1 (H2.out.later B1.out)).mono ?_
  rintro e w2 ⟨g, q, rfl, hw2, hb⟩
  have B2 := Lib.hid (B1.out.trans (show Below w.heap.size w1 w2 by rw [hw2]; exact below_drewN (Below.refl _ w1) q))
  cases g with
  | true =>
    clear hb hw2
    go_wp2_with (go_at_call 10; refine (awake_tab _).mono ?_; rintro e w' ⟨rfl, hb9⟩)
    go_ret
    exact ⟨rfl, B2.out.trans (hb9.mono B2.out.size)⟩
  | false =>
  have HB := Lib.hid (hb rfl)
  clear hb hw2
  have HNM : Hid (n ≤ 3000 ∧ m ≤ 3000) := Lib.hid (by
    have := bulkP_length A; have := bulkP_length B; have := HA.out; have := HB.out; have := H1.out.1; have := H2.out.1; omega)
  go_wp2_with fail
  refine (tapply_any _ _ n 0 A [] w2 (H1.out.later B2.out) (Opr.nil _) (by have := HNM.out; omega) (by omega)).mono ?_
  rintro e w3 ⟨ax, n', cx, rfl, hx, hb3⟩
  have B3 := Lib.hid (B2.out.trans (hb3.mono B2.out.size))
  have HX := Lib.hid hx
  clear hx hb3
  go_wp2_with fail
  refine (tapply_any _ _ m 0 B [] w3 (H2.out.later B3.out) (Opr.nil _) (by have := HNM.out; omega) (by omega)).mono ?_
  rintro e w4 ⟨ay, m', cy, rfl, hy, hb4⟩
  have B4 := Lib.hid (B3.out.trans (hb4.mono B3.out.size))
  have HX4 := Lib.hid (HX.out.later hb4)
  have HY := Lib.hid hy
  have RA := Lib.hid (And.intro (rise_apply A []) (show bulkP (applyP A []) ≤ 5000 by have := bulkP_base A; have := HA.out; show bulkP (baseP A) ≤ 5000; omega))
  have RB := Lib.hid (And.intro (rise_apply B []) (show bulkP (applyP B []) ≤ 5000 by have := bulkP_base B; have := HB.out; show bulkP (baseP B) ≤ 5000; omega))
  clear hy hb4 HX
  generalize applyP A [] = P at *
  generalize applyP B [] = Q at *
  go_wp2_with fail
  refine (tenc_any _ n' P w4 HX4.out RA.out.2).mono ?_
  rintro e w5 ⟨ae, me, ce, rfl, hme, he, hb5⟩
  have B5 := Lib.hid (B4.out.trans (hb5.mono B4.out.size))
  have G5 : Hid (Grow w4 w5) := Lib.hid hb5
  have HE := Lib.hid (And.intro hme he)
  clear hme he hb5
  go_wp2_with fail
  refine (tenc_any _ m' Q w5 (HY.out.later G5.out) RB.out.2).mono ?_
  rintro e w6 ⟨af, mf, cf, rfl, hmf, hf, hb6⟩
  have B6 := Lib.hid (B5.out.trans (hb6.mono B5.out.size))
  have G6 : Hid (Grow w4 w6) := Lib.hid (Grow.trans G5.out hb6)
  have HE6 := Lib.hid (And.intro HE.out.1 (HE.out.2.later hb6))
  have HF := Lib.hid hf
  have hme9 : me ≤ 1000000 := by
    rw [HE6.out.1]
    have h1 := RA.out.1
    have h2 := enc_length (flatP P)
    have h3 := flatP_length P
    have h4 := flatP_bulk P
    have h5 := bulkP_length P
    have h6 := RA.out.2
    unfold bytesT
    rw [if_pos h1, frm_length]
    omega
  clear hmf hf hb6 HE G5
  go_wp2_with fail
  refine (tdec_any _ me (bytesT P) w6 HE6.out.2 HE6.out.1 hme9).mono ?_
  intro e w7 hd
  obtain ⟨ap, qp, cp, rfl, hp, hb7⟩ := hd.told
  have hl := listF_T RA.out.1 RA.out.2
  have hl2 := listF_T RB.out.1 RB.out.2
  rw [hl.1] at hp
  rw [hl.2.1, hl.2.2, hl2.2.2]
  have B7 := Lib.hid (B6.out.trans (hb7.mono B6.out.size))
  have hd7 : Grow w7 w7.drew := below_drewN (Below.refl _ w7) 1
  have cvx := conv_up (w := w7.drew) ((HE6.out.2.later hb7).later hd7)
  have cvy := conv_up (w := w7.drew) ((HF.out.later hb7).later hd7)
  have HX7 := HX4.out.later (Grow.trans G6.out (Grow.trans hb7 hd7))
  have HY7 := HY.out.later (Grow.trans G6.out (Grow.trans hb7 hd7))
  obtain ⟨bq, hbq⟩ : ∃ bq : Bool, bq = decide (P = Q) := ⟨_, rfl⟩
  have SP := Lib.hid fun w' (hg : Grow w7.drew w') => same_pairs_at _ _ _ _ P P true (by simp) w7.drew w' (hp.later hd7) HX7 hg
  have SQ := Lib.hid fun w' (hg : Grow w7.drew w') => same_pairs_at _ _ _ _ P Q bq hbq w7.drew w' HX7 HY7 hg
  have heq : (bytesT P == bytesT Q) = bq := by
    rw [hbq, Bool.eq_iff_iff, beq_iff_eq, decide_eq_true_eq, bytesT_inj RA.out.1 RB.out.1 RA.out.2 RB.out.2]
  have BD : Hid (Below w.heap.size w w7.drew) := Lib.hid (below_drewN B7.out 1)
  clear hb7 hp hl hl2 hd hd7 HX7 HY7 hbq HE6 HF HX4 HY hme9
  generalize bytesT P = X at *
  generalize bytesT Q = Y at *
  go_wp2_with fail
  refine wp_region_mv [(0, 1, true), (1, 1, false), (2, 3, true), (5, 1, false), (6, 4, true), (10, 1, false), (11, 5, true), (16, 1, false), (17, 9, true), (26, 1, false), (27, 3, true), (30, 1, false), (31, 2, true)] (by kernel_rfl) (by kernel_rfl) ?_
  simp only [mvAll, mvSeg, List.drop_succ_cons, List.drop_zero, List.cons_append, List.nil_append, Nat.reduceAdd]
  iterate 1
    refine wpLin_still ?_ (fun w' hG K hK => ?_) (fun K hK => ?_)
    rotate_left
    · unfold mvVal
      go_simp
      try exact hK
    go_simp
    refine hK _ ?_
    clear hK K
  refine wpLin_call (fun K hK => ?_)
  unfold mvRun
  go_simp
  simp only [mvUpon]
  refine (num_code _ _).mono ?_
  rintro e w9 ⟨rfl, rfl⟩
  refine ⟨_, rfl, ?_⟩
  go_simp
  refine hK _ _ (Grow.refl _) ?_
  clear hK K
  iterate 3
    refine wpLin_still ?_ (fun w' hG K hK => ?_) (fun K hK => ?_)
    rotate_left
    · unfold mvVal
      go_simp
      try exact hK
    go_simp
    refine hK _ ?_
    clear hK K
  refine wpLin_call (fun K hK => ?_)
  unfold mvRun
  go_simp
  simp only [mvUpon]
  refine (num_code _ _).mono ?_
  rintro e w9 ⟨rfl, rfl⟩
  refine ⟨_, rfl, ?_⟩
  go_simp
  refine hK _ _ (Grow.refl _) ?_
  clear hK K
  iterate 4
    refine wpLin_still ?_ (fun w' hG K hK => ?_) (fun K hK => ?_)
    rotate_left
    · unfold mvVal
      go_simp
      try exact hK
    go_simp
    refine hK _ ?_
    clear hK K
  refine wpLin_call (fun K hK => ?_)
  unfold mvRun
  go_simp
  simp only [mvUpon]
  refine (num_code _ _).mono ?_
  rintro e w9 ⟨rfl, rfl⟩
  refine ⟨_, rfl, ?_⟩
  go_simp
  refine hK _ _ (Grow.refl _) ?_
  clear hK K
  iterate 5
    refine wpLin_still ?_ (fun w' hG K hK => ?_) (fun K hK => ?_)
    rotate_left
    · unfold mvVal
      go_simp
      try exact hK
    go_simp
    refine hK _ ?_
    clear hK K
  refine wpLin_call (fun K hK => ?_)
  unfold mvRun
  go_simp
  simp only [mvUpon]
  refine (SP.out _ (Grow.refl _)).mono ?_
  rintro e w9 ⟨rfl, hg9⟩
  refine ⟨_, rfl, ?_⟩
  go_simp
  refine hK _ _ hg9 ?_
  clear hK K
  have G9 := Lib.hid hg9
  have cvx9 := fun w' hg => cvx w' (Grow.trans hg9 hg)
  have cvy9 := fun w' hg => cvy w' (Grow.trans hg9 hg)
  clear cvx cvy hg9
  iterate 9
    refine wpLin_still ?_ (fun w' hG K hK => ?_) (fun K hK => ?_)
    rotate_left
    · unfold mvVal
      go_simp
      try exact hK
    go_simp
    refine hK _ ?_
    clear hK K
  refine wpLin_call (fun K hK => ?_)
  unfold mvRun
  go_simp
  simp only [mvUpon]
  refine (SQ.out _ G9.out).mono ?_
  rintro e w10 ⟨rfl, hg10⟩
  refine ⟨_, rfl, ?_⟩
  go_simp
  refine hK _ _ hg10 ?_
  clear hK K
  have G10 := Lib.hid (Grow.trans G9.out hg10)
  clear hg10 cvx9 cvy9
  iterate 3
    refine wpLin_still ?_ (fun w' hG K hK => ?_) (fun K hK => ?_)
    rotate_left
    · unfold mvVal
      go_simp
      try exact hK
    go_simp
    refine hK _ ?_
    clear hK K
  refine wpLin_call (fun K hK => ?_)
  unfold mvRun
  go_simp
  simp only [mvUpon]
  refine (awake_tab _).mono ?_
  rintro e w11 ⟨rfl, hb11⟩
  refine ⟨_, rfl, ?_⟩
  go_simp
  refine hK _ _ hb11 ?_
  clear hK K
  have B11 := Lib.hid (BD.out.trans ((Grow.trans G10.out hb11).mono BD.out.size))
  clear hb11
  iterate 2
    refine wpLin_still ?_ (fun w' hG K hK => ?_) (fun K hK => ?_)
    rotate_left
    · unfold mvVal
      go_simp
      try exact hK
    go_simp
    refine hK _ ?_
    clear hK K
  refine wpLin_nil ?_
  go_wp2
  go_ret
  exact ⟨rfl, B11.out⟩

end Go.Proofs.Ytabmjjicplomlaa
