/- SnapFalls, walked. Numbers and types by name. -/
import Derived.Test.YthglbmnhlnpmkaaGreatSnv
namespace Go.Proofs.YthglbmnhlnpmkaaGreat
open Go.RowKit Go.Lib
set_option maxRecDepth 100000

theorem well_restart8 {M : MD} {j : Nat} (h : Well 24100 M j) {cap cr : Int} {dn : Bool} (hc : cap ≤ 9223372036854775807) : Well 24100 (M.restart cap cr dn [] []) (j + 1) := well_restart h hc (by simp) (by simp)

theorem wrap_small8 {k : Int} (h : 0 ≤ k) (h2 : k ≤ 100000) : wrap64 k = k := wrap64_id _ (by omega)
theorem wrap_less8 {k : Int} (h : -1 ≤ k) (h2 : k ≤ 100000) : wrap64 k = k := wrap64_id _ (by omega)

set_option maxHeartbeats 8000000 in
theorem falls_snap (v1 : Value) (n1 : Nat) (A0 : List Prm) (v2 : Value) (n2 : Nat) (B0 : List Prm) (w : World) (h1 : Prr w v1 n1 A0) (h2 : Prr w v2 n2 B0) :
    Calls Tryz.prog 5 #[v1, v2] w fun e w' => e = .returned (.bool true) ∧ Below w.heap.size w w' := by
  obtain ⟨a1, c1, rfl⟩ := h1.shape
  obtain ⟨a2, c2, rfl⟩ := h2.shape
  have G1 := great_pairs _ n1 A0 w h1
  have H1 := Lib.hid (And.intro h1 h2)
  clear h1 h2
  go_enter Tryz.func5, Tryz.ntmps5
  go_wp2_with fail
  refine G1.mono ?_
  rintro e w1 ⟨g, q, rfl, hw1, hb1⟩
  have B1 : Hid (Grow w w1) := Lib.hid (show Grow w w1 by rw [hw1]; exact below_drewN (Below.refl _ w) q)
  clear G1 hw1
  cases g with
  | true =>
    clear hb1
    go_wp2_with (go_at_call 7; refine (awake_snap _).mono ?_; rintro e w' ⟨rfl, hb9⟩)
    go_ret
    exact ⟨rfl, B1.out.trans hb9⟩
  | false =>
  have G2 := great_pairs _ n2 B0 w1 (H1.out.2.later B1.out)
  have HBA := Lib.hid (hb1 rfl)
  clear hb1
  go_wp2_with fail
  refine G2.mono ?_
  rintro e w2 ⟨g, q2, rfl, hw2, hb2⟩
  have B2 : Hid (Grow w w2) := Lib.hid (show Grow w w2 by rw [hw2]; exact below_drewN B1.out q2)
  clear G2 hw2
  cases g with
  | true =>
    clear hb2
    go_wp2_with (go_at_call 7; refine (awake_snap _).mono ?_; rintro e w' ⟨rfl, hb9⟩)
    go_ret
    exact ⟨rfl, B2.out.trans hb9⟩
  | false =>
  have HBB := Lib.hid (hb2 rfl)
  clear hb2
  have P1 := apply_nil _ n1 A0 w2 (H1.out.1.later B2.out) HBA.out
  go_wp2_with fail
  refine P1.mono ?_
  rintro e w3 ⟨aa, na, ca, rfl, hA, hg3⟩
  have HA3 := Lib.hid (And.intro hA (B2.out.trans hg3))
  clear hA hg3 P1
  have P2 := apply_nil _ n2 B0 w3 (H1.out.2.later HA3.out.2) HBB.out
  go_wp2_with fail
  refine P2.mono ?_
  rintro e w4 ⟨ab, nb, cb, rfl, hB, hg4⟩
  have HB4 := Lib.hid (And.intro (HA3.out.1.later hg4) (And.intro hB (HA3.out.2.trans hg4)))
  clear hB hg4 P2
  obtain ⟨A, hA⟩ : ∃ A, A = baseP A0 := ⟨_, rfl⟩
  obtain ⟨B, hB⟩ : ∃ B, B = baseP B0 := ⟨_, rfl⟩
  have hRA : Rise A := by rw [hA]; exact rise_base A0
  have hRB : Rise B := by rw [hB]; exact rise_base B0
  have hbA : bulkP A ≤ 3000 := by rw [hA]; exact Nat.le_trans (bulkP_base A0) HBA.out
  have hbB : bulkP B ≤ 3000 := by rw [hB]; exact Nat.le_trans (bulkP_base B0) HBB.out
  have HR4 : Hid (Prr w4 (.slice aa na ca) na A ∧ Prr w4 (.slice ab nb cb) nb B ∧ Grow w w4) := Lib.hid (by rw [hA, hB]; exact HB4.out)
  have T1 := reftable_own _ na A w4 HR4.out.1 hbA
  have T2 := fun (w5 : World) (hg : Grow w4 w5) => reftable_own _ nb B w5 (HR4.out.2.1.later hg) hbB
  have lA := bytesT_length hbA
  have lB := bytesT_length hbB
  have pA := bytesT_pos hRA
  have pB := bytesT_pos hRB
  unfold ToldB at T1 T2
  obtain ⟨xa, hxa⟩ : ∃ xa, xa = (bytesT A).length := ⟨_, rfl⟩
  obtain ⟨xb, hxb⟩ : ∃ xb, xb = (bytesT B).length := ⟨_, rfl⟩
  obtain ⟨d1, hd1⟩ : ∃ d1 : Int, d1 = ((xa + xb : Nat) : Int) - 1 := ⟨_, rfl⟩
  obtain ⟨d2, hd2⟩ : ∃ d2 : Int, d2 = ((xa + xb : Nat) : Int) := ⟨_, rfl⟩
  obtain ⟨M0, e0⟩ : ∃ M, M = MD.new d1 0 false [] [] := ⟨_, rfl⟩
  obtain ⟨k1, M1, e1⟩ : ∃ k M, saveT M0 A = (k, M) := ⟨_, _, rfl⟩
  obtain ⟨k2, M2, e2⟩ : ∃ k M, saveT M1 B = (k, M) := ⟨_, _, rfl⟩
  obtain ⟨M3, e3⟩ : ∃ M, M = M2.restart d2 0 false [] [] := ⟨_, rfl⟩
  obtain ⟨k3, M4, e4⟩ : ∃ k M, saveT M3 B = (k, M) := ⟨_, _, rfl⟩
  obtain ⟨rfl, rfl, p3, p4, rfl, p6, p7⟩ := falls_plain hRA hRB hbA hbB d1 d2 (by rw [hd1, hxa, hxb]) (by rw [hd2, hxa, hxb]) M0 M1 M2 M3 M4 k1 k2 k3 e0 e1 e2 e3 e4
  have hw0 : Well 24100 M0 0 := by rw [e0]; exact well_new _ _ _ _ _ _ (by rw [hd1]; omega) (by simp) (by simp)
  have hw1 : Well 24100 M1 5 := by have := well_saveT hw0 lA; rw [e1] at this; exact this
  have hw2 : Well 24100 M2 10 := by have := well_saveT hw1 lB; rw [e2] at this; exact this
  have hw3 : Well 24100 M3 11 := by rw [e3]; exact well_restart8 hw2 (by rw [hd2]; omega)
  have hw4 : Well 24100 M4 16 := by have := well_saveT hw3 lB; rw [e4] at this; exact this
  have N0 := fun (w6 : World) => sol_new d1 0 false (.slice none 0 0) (.slice none 0 0) [] [] w6 (Reads.nil w6) (Reads.nil w6) (by simp) (by simp)
  rw [← e0] at N0
  have HP := Lib.hid (And.intro e1 (And.intro e2 (And.intro e3 e4)))
  have HPL := Lib.hid (And.intro p3 (And.intro p4 (And.intro p6 p7)))
  have HW := Lib.hid (And.intro hw0 (And.intro hw1 (And.intro hw2 (And.intro hw3 hw4))))
  have HLN := Lib.hid (And.intro lA (And.intro lB (And.intro hbA hbB)))
  have HX := Lib.hid (And.intro hxa hxb)
  have z0 : 0 ≤ (xa : Int) + (xb : Int) ∧ (xa : Int) + (xb : Int) ≤ 100000 := by omega
  have z4 : d2 = (xa : Int) + (xb : Int) := by rw [hd2, Int.natCast_add]
  have z5 : d1 = d2 - 1 := by rw [hd1, hd2]
  have z6 : -1 ≤ d2 - 1 ∧ d2 - 1 ≤ 100000 := by omega
  have z1 : wrap64 ((xa : Int) + (xb : Int)) = d2 := by rw [z4]; exact wrap_small8 z0.1 z0.2
  have z2 : wrap64 (d2 - 1) = d1 := by rw [z5]; exact wrap_less8 z6.1 z6.2
  clear z0 z4 z5 z6
  have HT2 := Lib.hid T2
  have HN0 := Lib.hid N0
  clear p3 p4 p6 p7 e0 e1 e2 e3 e4 hw0 hw1 hw2 hw3 hw4 lA lB pA pB hA hB hRA hRB hbA hbB HB4 HA3 hxa hxb hd1 hd2 T2 N0
  go_wp2_with fail
  refine T1.mono ?_
  rintro e w5 ⟨at1, mt1, ct1, rfl, hb1, hg5⟩
  have hl1 : mt1 = xa := by rw [hb1.1, HX.out.1]
  subst hl1
  have HG5 := Lib.hid (show Grow w4 w5 from hg5)
  have T2 := HT2.out w5 hg5
  clear hb1 hg5 T1 HT2
  go_wp2_with fail
  refine T2.mono ?_
  rintro e w6 ⟨at2, mt2, ct2, rfl, hb2, hg6⟩
  have hl2 : mt2 = xb := by rw [hb2.1, HX.out.2]
  subst hl2
  have HG6 := Lib.hid (show Grow w4 w6 from HG5.out.trans hg6)
  have N0 := HN0.out w6
  clear hb2 hg6 T2 HG5 HN0
  go_wp2_with fail
  refine N0.mono ?_
  rintro e w7 ⟨b, rfl, hs, t⟩
  have HS7 := Lib.hid (And.intro hs (turn_grow8 t))
  have S1 := sol_save hs (HR4.out.1.later (HG6.out.trans (turn_grow8 t))) HLN.out.2.2.1 HW.out.1 (J := 125) (by omega) room8 HLN.out.1
  rw [HP.out.1] at S1
  unfold theDisk at S1
  unfold theDisk
  clear hs t N0
  go_wp2_with fail
  refine S1.mono ?_
  rintro e w8 ⟨rfl, hs, hst⟩
  have hg8 : Grow w6 w8 := Below.trans HS7.out.2 hst.below
  have HS8 := Lib.hid (And.intro hs hg8)
  have S2 := sol_save hs (HR4.out.2.1.later (HG6.out.trans hg8)) HLN.out.2.2.2 HW.out.2.1 (J := 125) (by omega) room8 HLN.out.2.1
  rw [HP.out.2.1] at S2
  unfold theDisk at S2
  clear hs hst hg8 S1 HS7
  go_wp2_with fail
  refine S2.mono ?_
  rintro e w9 ⟨rfl, hs, hst⟩
  have hg9 : Grow w6 w9 := Below.trans HS8.out.2 hst.below
  have HS9 := Lib.hid (And.intro hs hg9)
  have L1 := sol_load hs (lim_small room8 HW.out.2.2.1 (by omega)) (load_fits HW.out.2.2.1 (by omega))
  rw [HPL.out.1, HPL.out.2.1] at L1
  unfold theDisk at L1
  clear hs hst hg9 S2 HS8
  go_wp2_with fail
  refine L1.mono ?_
  rintro e w10 ⟨am, qm, cm, rfl, hpm, t10, hs10, hfm⟩
  have HM := Lib.hid (And.intro hpm (And.intro t10 (And.intro hs10 hfm)))
  have hg10 : Grow w6 w10 := HS9.out.2.trans (turn_grow8 t10)
  have R1 := sol_restart hs10 (well_lim room8 HW.out.2.2.1 (by omega)) d2 0 false
  rw [← HP.out.2.2.1] at R1
  have HG10 := Lib.hid hg10
  unfold theDisk at R1
  clear hpm t10 hs10 hfm hg10 L1 HS9
  go_wp2_with fail
  refine R1.mono ?_
  rintro e w11 ⟨rfl, hs, hst⟩
  have hg11 : Grow w6 w11 := Below.trans HG10.out (hst.less (fun q hq => .inl hq)).below
  have HM11 := Lib.hid (And.intro hst (And.intro hs hg11))
  have S3 := sol_save hs (HR4.out.2.1.later (HG6.out.trans hg11)) HLN.out.2.2.2 HW.out.2.2.2.1 (J := 125) (by omega) room8 HLN.out.2.1
  rw [HP.out.2.2.2] at S3
  unfold theDisk at S3
  clear hs hst hg11 R1 HG10
  go_wp2_with fail
  refine S3.mono ?_
  rintro e w12 ⟨rfl, hs, hst⟩
  have hm12 : Prr w12 (.slice am qm cm) qm A := HM.out.1.stays (HM11.out.1.trans hst) fun a ha hlt => .inr ⟨HM.out.2.2.2 a ha, hlt⟩
  have hg12 : Grow w6 w12 := Below.trans HM11.out.2.2 (hst.less (fun q hq => .inl hq)).below
  have L2 := sol_load hs (lim_small room8 HW.out.2.2.2.2 (by omega)) (load_fits HW.out.2.2.2.2 (by omega))
  rw [HPL.out.2.2.1, HPL.out.2.2.2] at L2
  unfold theDisk at L2
  have HM12 := Lib.hid (And.intro hm12 hg12)
  clear hs hst hm12 hg12 S3
  go_wp2_with fail
  refine L2.mono ?_
  rintro e w13 ⟨an, qn, cn, rfl, hpn, t13, _, _⟩
  have hg13 : Grow w6 w13 := HM12.out.2.trans (turn_grow8 t13)
  have H13 := Lib.hid (And.intro (HM12.out.1.later (turn_grow8 t13)) (And.intro hpn (HG6.out.trans hg13)))
  have PT := same_p_true _ _ qm na A w13 H13.out.1 (HR4.out.1.later H13.out.2.2)
  clear hpn t13 hg13 L2
  go_wp2_with (go_at_call 13; refine (num_at _ _).mono ?_; rintro e w' ⟨rfl, rfl⟩)
  refine PT.mono ?_
  rintro e w14 ⟨rfl, q14, hq14⟩
  have HB14 := Lib.hid (show Grow w13 w14 by rw [hq14]; exact below_drewN (Below.refl _ _) q14)
  have PT2 := same_p_true _ _ qn nb B w14 (H13.out.2.1.later HB14.out) (HR4.out.2.1.later (H13.out.2.2.trans HB14.out))
  clear PT hq14
  go_wp2_with (go_at_call 13; refine (num_at _ _).mono ?_; rintro e w' ⟨rfl, rfl⟩)
  refine PT2.mono ?_
  rintro e w15 ⟨rfl, q15, hq15⟩
  have HB15 := Lib.hid (show Grow w14 w15 by rw [hq15]; exact below_drewN (Below.refl _ _) q15)
  clear PT2 hq15
  go_wp2_with (go_at_call 7; refine (awake_snap _).mono ?_; rintro e w' ⟨rfl, hb9⟩)
  go_ret
  exact ⟨rfl, HR4.out.2.2.trans (H13.out.2.2.trans (HB14.out.trans (HB15.out.trans hb9)))⟩

end Go.Proofs.YthglbmnhlnpmkaaGreat
