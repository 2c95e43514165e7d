/- BatchApart, walked. Numbers and types by name. -/
import Derived.Test.YtgpacbmiliefiaaDoorBal
namespace Go.Proofs.YtgpacbmiliefiaaDoor
open Go.RowKit Go.Lib

theorem frms_append (l m : List (List UInt8)) : frms (l ++ m) = frms l ++ frms m := by simp [frms]

theorem recs_inj {A B : List Opm} (ha : bulkO A ≤ 5000) (hb : bulkO B ≤ 5000) (oa : okOps A = true) (ob : okOps B = true) (h : frms (recs A) = frms (recs B)) : A = B := by
  have h1 := scans_frms scans_nil (recs A) (fun p hp => by have := recs_short ha p hp; omega)
  have h2 := scans_frms scans_nil (recs B) (fun p hp => by have := recs_short hb p hp; omega)
  rw [h] at h1
  have h3 := (scans_det h1 h2).1
  rw [List.append_nil, List.append_nil] at h3
  have e1 := play_recs A ha oa [] 0 [] 0
  have e2 := play_recs B hb ob [] 0 [] 0
  rw [h3] at e1
  rw [e1] at e2
  simp only [play, List.nil_append, Prod.mk.injEq, List.cons.injEq, and_true] at e2
  exact e2.1

/-- What SameOps tells, in any later world. -/
theorem same_ops_at (v1 v2 : Value) (n m : Nat) (ps qs : List Opm) (w w' : World) (h1 : Opr w v1 n ps) (h2 : Opr w v2 m qs) (hg : Grow w w') :
    Calls Tryd.prog 18 #[v1, v2] w' fun e w'' => e = .returned (.bool (decide (ps = qs))) ∧ Grow w' w'' := by
  refine (same_ops v1 v2 n m ps qs w' (h1.later hg) (h2.later hg)).mono ?_
  rintro e w'' ⟨b, k, rfl, rfl, hb⟩
  exact ⟨by rw [show b = decide (ps = qs) by rw [Bool.eq_iff_iff, hb]; simp], below_drewN (Below.refl _ w') k⟩

set_option maxHeartbeats 4000000 in
theorem apart_batch (v1 v2 : Value) (n m : Nat) (A B : List Opm) (w : World) (h1 : Opr w v1 n A) (h2 : Opr w v2 m B) (ht : Tab w) :
    Calls Tryd.prog 5 #[v1, v2] w fun e w' => e = .returned (.bool true) ∧ Below w.heap.size w w' := by
  obtain ⟨a1, c1, rfl⟩ := h1.shape
  obtain ⟨a2, c2, rfl⟩ := h2.shape
  have H1 := Lib.hid h1
  have H2 := Lib.hid h2
  have HTB := Lib.hid ht
  clear h1 h2 ht
  go_enter Tryd.func5, Tryd.ntmps5
  go_wp2_with fail
  refine (great_ops _ n A w H1.out).mono ?_
  rintro e w1 ⟨g, q, rfl, hw1, hb⟩
  have B1 := Lib.hid (show Below w.heap.size w w1 by rw [hw1]; exact below_drewN (Below.refl _ w) q)
  cases g with
  | true =>
    clear hb hw1
    go_wp2_with (go_at_call 8; refine (awake_batch _ (HTB.out.later B1.out)).mono ?_; rintro e w' ⟨rfl, hb9⟩)
    go_ret
    exact ⟨rfl, B1.out.trans (hb9.mono B1.out.size)⟩
  | false =>
  have HA := Lib.hid (hb rfl)
  clear hb hw1
  go_wp2_with fail
  refine (great_ops _ m B w1 (H2.out.later B1.out)).mono ?_
  rintro e w2 ⟨g, q, rfl, hw2, hb⟩
  have B2 := Lib.hid (B1.out.trans (show Below w.heap.size w1 w2 by rw [hw2]; exact below_drewN (Below.refl _ w1) q))
  cases g with
  | true =>
    clear hb hw2
    go_wp2_with (go_at_call 8; refine (awake_batch _ (HTB.out.later B2.out)).mono ?_; rintro e w' ⟨rfl, hb9⟩)
    go_ret
    exact ⟨rfl, B2.out.trans (hb9.mono B2.out.size)⟩
  | false =>
  have HB := Lib.hid (hb rfl)
  clear hb hw2
  have R1 := (right_ref _ n A w2 (H1.out.later B2.out)).mono fun e w' h => And.intro h.1 h.2.symm
  have R2 := (right_ref _ m B w2 (H2.out.later B2.out)).mono fun e w' h => And.intro h.1 h.2.symm
  cases oa : okOps A with
  | false =>
    rw [oa] at R1
    clear oa R2
    go_wp2_with (first | (go_at_call 14; refine R1.mono ?_; rintro e w' ⟨rfl, rfl⟩) | (go_at_call 8; refine (awake_batch _ (HTB.out.later B2.out)).mono ?_; rintro e w' ⟨rfl, hb9⟩))
    go_ret
    exact ⟨rfl, B2.out.trans (hb9.mono B2.out.size)⟩
  | true =>
  cases ob : okOps B with
  | false =>
    rw [oa] at R1
    rw [ob] at R2
    clear oa ob
    go_wp2_with (first | (go_at_call 14; (first | ((with_reducible refine R1.mono ?_); rintro e w' ⟨rfl, rfl⟩) | ((with_reducible refine R2.mono ?_); rintro e w' ⟨rfl, rfl⟩))) | (go_at_call 8; refine (awake_batch _ (HTB.out.later B2.out)).mono ?_; rintro e w' ⟨rfl, hb9⟩))
    go_ret
    exact ⟨rfl, B2.out.trans (hb9.mono B2.out.size)⟩
  | true =>
  rw [oa] at R1
  rw [ob] at R2
  have HOK := Lib.hid (And.intro oa ob)
  clear oa ob
  go_wp2_with (first | (go_at_call 14; (first | ((with_reducible refine R1.mono ?_); rintro e w' ⟨rfl, rfl⟩) | ((with_reducible refine R2.mono ?_); rintro e w' ⟨rfl, rfl⟩))))
  clear R1 R2
  refine (batch_any _ n A w2 (H1.out.later B2.out) (HTB.out.later B2.out) HOK.out.1 HA.out).mono ?_
  rintro e w3 ⟨ax, mx, cx, rfl, hx, hb3⟩
  have B3 := Lib.hid (B2.out.trans (hb3.mono B2.out.size))
  have HX := Lib.hid hx
  clear hx hb3
  go_wp2_with fail
  refine (batch_any _ m B w3 (H2.out.later B3.out) (HTB.out.later B3.out) HOK.out.2 HB.out).mono ?_
  rintro e w4 ⟨ay, my, cy, rfl, hy, hb4⟩
  have B4 := Lib.hid (B3.out.trans (hb4.mono B3.out.size))
  have RX4 := Lib.hid (HX.out.reads.later hb4)
  have RY4 := Lib.hid hy.reads
  have HMX := Lib.hid HX.out.1
  have HMY := Lib.hid hy.1
  have hmx := recs_frms HA.out
  have hmy := recs_frms HB.out
  rw [← HMX.out] at hmx
  rw [← HMY.out] at hmy
  obtain ⟨s, hs⟩ : ∃ s, s = mx + my := ⟨_, rfl⟩
  have F1 : Hid (mx ≤ maxLen) := Lib.hid (by unfold maxLen; omega)
  have F2 : Hid (mx * 1 ≤ 140737488355328) := Lib.hid (by omega)
  have F3 : Hid (s ≤ maxLen) := Lib.hid (by unfold maxLen; omega)
  have F4 : Hid (s * 1 ≤ 140737488355328) := Lib.hid (by omega)
  have hs9 : s ≤ 220000 := by omega
  have HS := Lib.hid hs
  clear hy hb4 HX hs
  go_wp2_with (first | (at_builtin; refine wpList_append_bytes rfl (.tmp 41) (.tmp 42) rfl w4.heap.size _ 0 [] rfl (Bs.empty w4 w4.heap.size (Nat.le_refl _)) (.slice ax mx cx) mx _ HMX.out rfl (RX4.out.alloc _) mx (Nat.zero_add mx).symm F1 F2 (by simp) ?_; intro ao5 c5 w5 hown5 hb5) | (at_builtin; refine wpList_append_bytes rfl (.tmp 44) (.tmp 45) rfl w4.heap.size _ mx _ rfl hown5 (.slice ay my cy) my _ HMY.out rfl (RY4.out.later (((Below.refl _ w4).alloc (Nat.le_refl _) _).trans hb5)) s HS.out F3 F4 (Nat.le_trans (by simp) hb5.size) ?_; intro ao6 c6 w6 hown6 hb6))
  have G6 : Hid (Grow w4 w6) := Lib.hid ((((Below.refl _ w4).alloc (Nat.le_refl _) _).trans hb5).trans hb6)
  have B6 := Lib.hid (B4.out.trans (G6.out.mono B4.out.size))
  have HZ : Hid (Reads w6 (.slice ao6 s c6) (bv (frms (recs A ++ recs B))) ∧ s = (frms (recs A ++ recs B)).length) := Lib.hid (by rw [frms_append]; exact ⟨hown6.reads, hown6.1⟩)
  clear hown5 hb5 hown6 hb6 F1 F2 F3 F4
  refine (ref_scan _ s _ w6 HZ.out.1 HZ.out.2 (Lib.hid (by omega))).mono ?_
  rintro e w7 ⟨hb7, l, n7, al, cl, hsc, hn7, rfl, ho⟩
  have hshort : ∀ p ∈ recs A ++ recs B, p.length ≤ 6000 := fun p hp => by
    rcases List.mem_append.1 hp with hp | hp
    · exact recs_short HA.out p hp
    · exact recs_short HB.out p hp
  obtain ⟨rfl, _⟩ := scans_all (fun p hp => by have := hshort p hp; omega) hsc
  have hll : (recs A ++ recs B).length ≤ 30000 := by have := bulk_scans' hsc; have := HZ.out.2; omega
  have B7 := Lib.hid (B6.out.trans (hb7.mono B6.out.size))
  have G7 := Lib.hid (Grow.trans G6.out hb7)
  have HR7 := Lib.hid (ho.rows (by unfold maxLen; omega))
  have HSH := Lib.hid hshort
  obtain ⟨t, ht⟩ : ∃ t, t = (recs A ++ recs B).length := ⟨_, rfl⟩
  rw [← ht] at HR7 hll ⊢
  clear ho hsc hn7 hb7 hshort ht
  go_wp2_with fail
  refine (replay_any _ t _ w7 HR7.out (HTB.out.later B7.out) (by omega)).mono ?_
  rintro e w8 ⟨hb8, LL, u, am, j, cm, hpl, _, _, rfl, hL⟩
  have hplay : play (recs A ++ recs B) 0 [] [] 0 = ([A, B], n + m + 2) := by
    rw [play_recs A HA.out HOK.out.1]
    have := play_recs B HB.out HOK.out.2 [] (0 + A.length + 1) ([] ++ [A]) (0 + A.length + 1)
    rw [List.append_nil] at this
    rw [this]
    simp only [play, List.nil_append, List.singleton_append, Prod.mk.injEq, true_and]
    have := H1.out.1
    have := H2.out.1
    omega
  rw [hplay] at hpl
  simp only [Prod.mk.injEq] at hpl
  obtain ⟨rfl, rfl⟩ := hpl
  have hj2 : j = 2 := hL.1
  subst hj2
  obtain ⟨am', L0, ap0, cp0, rfl, e0, cc0, r0⟩ := hL.at (k := 0) (by omega)
  obtain ⟨am'', L1, ap1, cp1, e1', e1, cc1, r1⟩ := hL.at (k := 1) (by omega)
  obtain rfl : am' = am'' := by simpa using e1'
  obtain rfl : A = L0 := by simpa using e0
  obtain rfl : B = L1 := by simpa using e1
  rw [show am'.add 0 = am' by simp [Addr.add]] at cc0
  have B8 := Lib.hid (B7.out.trans (hb8.mono B7.out.size))
  have G8 := Lib.hid (Grow.trans G7.out hb8)
  have hd8 : Grow w8 w8.drew := below_drewN (Below.refl _ w8) 1
  have d0 : ∀ w', Grow w8.drew w' → w'.cell? am' = some (.slice ap0 A.length cp0) := fun w' hg => grow_cell (Grow.trans hd8 hg) cc0
  have d1 : ∀ w', Grow w8.drew w' → w'.cell? ⟨am'.block, am'.off + 1, none⟩ = some (.slice ap1 B.length cp1) := fun w' hg => grow_cell (Grow.trans hd8 hg) (by simpa [Addr.add] using cc1)
  have cvx := conv_up (w := w8.drew) ((RX4.out.later G8.out).later hd8)
  have cvy := conv_up (w := w8.drew) ((RY4.out.later G8.out).later hd8)
  obtain ⟨bq, hbq⟩ : ∃ bq : Bool, bq = decide (A = B) := ⟨_, rfl⟩
  have SA := Lib.hid fun w' (hg : Grow w8.drew w') => (same_ops_at _ _ _ _ A A w8.drew w' (r0.later hd8) ((H1.out.later B8.out).later hd8) hg).mono fun e w'' (h : _ ∧ _) => And.intro (show e = .returned (.bool true) by rw [h.1]; simp) h.2
  have SB := Lib.hid fun w' (hg : Grow w8.drew w') => (same_ops_at _ _ _ _ B B w8.drew w' (r1.later hd8) ((H2.out.later B8.out).later hd8) hg).mono fun e w'' (h : _ ∧ _) => And.intro (show e = .returned (.bool true) by rw [h.1]; simp) h.2
  have SAB := Lib.hid fun w' (hg : Grow w8.drew w') => (same_ops_at _ _ _ _ A B w8.drew w' ((H1.out.later B8.out).later hd8) ((H2.out.later B8.out).later hd8) hg).mono fun e w'' (h : _ ∧ _) => And.intro (show e = .returned (.bool bq) by rw [h.1, hbq]) h.2
  have hinj : (frms (recs A) = frms (recs B)) = (A = B) := propext ⟨recs_inj HA.out HB.out HOK.out.1 HOK.out.2, fun h => by rw [h]⟩
  have BD : Hid (Below w.heap.size w w8.drew) := Lib.hid (below_drewN B8.out 1)
  have heq : (frms (recs A) == frms (recs B)) = bq := by
    rw [hbq, Bool.eq_iff_iff, beq_iff_eq, decide_eq_true_eq, hinj]
  have hn5 : n ≤ 5000 := by have := bulkO_length A; have := HA.out; have := H1.out.1; omega
  have hm5 : m ≤ 5000 := by have := bulkO_length B; have := HB.out; have := H2.out.1; omega
  have wnm : IntKind.i64.wrap ((n : Int) + (m : Int)) = (n : Int) + (m : Int) := by rw [IntKind.wrap_i64]; omega
  have wnm2 : IntKind.i64.wrap ((n : Int) + (m : Int) + 2) = (n : Int) + (m : Int) + 2 := by rw [IntKind.wrap_i64]; omega
  clear hb8 hL e0 e1 e1' r0 r1 cc0 cc1 hplay HMX HMY HS HZ HR7 HSH RX4 RY4 hinj hd8 G6 G7 G8 B7 B6 B4 B3 B2 B1 hmx hmy hs9 hll
  clear hbq
  generalize frms (recs A) = X at *
  generalize frms (recs B) = Y at *
  generalize A.length = la at *
  generalize B.length = lb at *
  go_wp2_with fail
  refine wp_region_mv [(0, 1, true), (1, 1, false), (2, 3, true), (5, 1, false), (6, 10, true), (16, 1, false), (17, 12, true), (29, 1, false), (30, 6, true), (36, 1, false), (37, 12, true), (49, 1, false), (50, 2, true)] (by kernel_rfl) (by kernel_rfl) ?_
  simp only [mvAll, mvSeg, List.drop_succ_cons, List.drop_zero, List.cons_append, List.nil_append, Nat.reduceAdd]
  have GG : Hid (Grow w8.drew w8.drew) := Lib.hid (Grow.refl _)
  iterate 1
    refine wpLin_still ?_ (fun w' hG K hK => ?_) (fun K hK => ?_)
    rotate_left
    · unfold mvVal
      go_simp
      try exact hK
    go_simp
    refine hK _ ?_
    clear hK K
  refine wpLin_call (fun K hK => ?_)
  unfold mvRun
  go_simp
  simp only [mvUpon]
  refine (num_code _ _).mono ?_
  rintro e w9 ⟨rfl, rfl⟩
  refine ⟨_, rfl, ?_⟩
  go_simp
  refine hK _ _ (Grow.refl _) ?_
  clear hK K
  iterate 3
    refine wpLin_still ?_ (fun w' hG K hK => ?_) (fun K hK => ?_)
    rotate_left
    · unfold mvVal
      go_simp
      try exact hK
    go_simp
    refine hK _ ?_
    clear hK K
  refine wpLin_call (fun K hK => ?_)
  unfold mvRun
  go_simp
  simp only [mvUpon]
  refine (num_code _ _).mono ?_
  rintro e w9 ⟨rfl, rfl⟩
  refine ⟨_, rfl, ?_⟩
  go_simp
  refine hK _ _ (Grow.refl _) ?_
  clear hK K
  iterate 10
    refine wpLin_still ?_ (fun w' hG K hK => ?_) (fun K hK => ?_)
    rotate_left
    · unfold mvVal
      go_simp
      try exact hK
    go_simp
    refine hK _ ?_
    clear hK K
  refine wpLin_call (fun K hK => ?_)
  unfold mvRun
  go_simp
  simp only [mvUpon]
  refine (SAB.out _ (Grow.refl _)).mono ?_
  rintro e w9 ⟨rfl, hg9⟩
  refine ⟨_, rfl, ?_⟩
  go_simp
  refine hK _ _ hg9 ?_
  clear hK K
  have e0 : ∀ w', Grow w9 w' → w'.cell? am' = some (.slice ap0 la cp0) := fun w' hg => d0 w' (Grow.trans hg9 hg)
  have e1 : ∀ w', Grow w9 w' → w'.cell? ⟨am'.block, am'.off + 1, none⟩ = some (.slice ap1 lb cp1) := fun w' hg => d1 w' (Grow.trans hg9 hg)
  have G9 := Lib.hid hg9
  clear d0 d1 cvx cvy hg9
  iterate 12
    refine wpLin_still ?_ (fun w' hG K hK => ?_) (fun K hK => ?_)
    rotate_left
    · unfold mvVal
      go_simp
      try exact hK
    go_simp
    refine hK _ ?_
    clear hK K
  refine wpLin_call (fun K hK => ?_)
  unfold mvRun
  go_simp
  simp only [mvUpon]
  refine (SA.out _ G9.out).mono ?_
  rintro e w10 ⟨rfl, hg10⟩
  refine ⟨_, rfl, ?_⟩
  go_simp
  refine hK _ _ hg10 ?_
  clear hK K
  have f1 : ∀ w', Grow w10 w' → w'.cell? ⟨am'.block, am'.off + 1, none⟩ = some (.slice ap1 lb cp1) := fun w' hg => e1 w' (Grow.trans hg10 hg)
  have G10 := Lib.hid (Grow.trans G9.out hg10)
  clear e0 e1 hg10
  iterate 6
    refine wpLin_still ?_ (fun w' hG K hK => ?_) (fun K hK => ?_)
    rotate_left
    · unfold mvVal
      go_simp
      try exact hK
    go_simp
    refine hK _ ?_
    clear hK K
  refine wpLin_call (fun K hK => ?_)
  unfold mvRun
  go_simp
  simp only [mvUpon]
  refine (SB.out _ G10.out).mono ?_
  rintro e w11 ⟨rfl, hg11⟩
  refine ⟨_, rfl, ?_⟩
  go_simp
  refine hK _ _ hg11 ?_
  clear hK K
  have G11 := Lib.hid (Grow.trans G10.out hg11)
  clear f1 hg11
  iterate 12
    refine wpLin_still ?_ (fun w' hG K hK => ?_) (fun K hK => ?_)
    rotate_left
    · unfold mvVal
      go_simp
      try exact hK
    go_simp
    refine hK _ ?_
    clear hK K
  refine wpLin_call (fun K hK => ?_)
  unfold mvRun
  go_simp
  simp only [mvUpon]
  refine (awake_batch _ (HTB.out.later (BD.out.trans (G11.out.mono BD.out.size)))).mono ?_
  rintro e w12 ⟨rfl, hb12⟩
  refine ⟨_, rfl, ?_⟩
  go_simp
  refine hK _ _ hb12 ?_
  clear hK K
  have B12 := Lib.hid (BD.out.trans ((Grow.trans G11.out hb12).mono BD.out.size))
  clear hb12
  iterate 2
    refine wpLin_still ?_ (fun w' hG K hK => ?_) (fun K hK => ?_)
    rotate_left
    · unfold mvVal
      go_simp
      try exact hK
    go_simp
    refine hK _ ?_
    clear hK K
  refine wpLin_nil ?_
  go_wp2
  go_ret
  exact ⟨rfl, B12.out⟩

end Go.Proofs.YtgpacbmiliefiaaDoor
