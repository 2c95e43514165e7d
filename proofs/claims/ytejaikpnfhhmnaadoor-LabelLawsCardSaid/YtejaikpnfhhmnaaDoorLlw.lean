/- LabelLaws, walked. Numbers and types by name. -/
import Derived.Test.YtejaikpnfhhmnaaDoorLpr
import Derived.Test.YtejaikpnfhhmnaaDoorLrg
import Derived.Test.YtejaikpnfhhmnaaDoorLlp
namespace Go.Proofs.YtejaikpnfhhmnaaDoor
open Go.RowKit Go.Lib
set_option maxRecDepth 10000000

set_option maxHeartbeats 80000000 in
theorem laws_walk (K : LabK) (v : Value) (n0 : Nat) (ns : List UInt8) (x y z : Nat) (hx : x < 256) (hy : y < 256) (hz : z < 256) (w : World) (ht : SgW w) (hl : n0 = ns.length) (hm : n0 ≤ maxLen) (h : Reads w v (bv ns)) :
    Calls Tryd.prog 5 #[v, .int .u8 (x : Int), .int .u8 (y : Int), .int .u8 (z : Int)] w fun e w' => e = .returned (.bool true) ∧ Below w.heap.size w w' := by
  obtain ⟨ao, c, rfl⟩ : ∃ ao c, v = .slice ao n0 c := by obtain ⟨ao, c, e, _⟩ := h; exact ⟨ao, c, by rw [e, bv_length, hl]⟩
  have H := Lib.hid (And.intro ht (And.intro h hl))
  have HK := Lib.hid K
  unfold maxLen at hm
  clear ht h hl K
  by_cases h60 : 60 < n0
  · have g60 : (60 : Int) < (n0 : Int) := by omega
    go_enter Tryd.func5, Tryd.ntmps5
    go_wp2_with (go_at_call 11; refine (awake_lab HK.out _ H.out.1).mono ?_; rintro e w' ⟨rfl, hb9⟩; have H9 := Lib.hid hb9; clear hb9)
    go_ret
    exact ⟨rfl, H9.out⟩
  have g60 : ¬ (60 : Int) < (n0 : Int) := by omega
  have P1 := law_pairs (.slice ao n0 c) n0 ns w H.out.2.2 (by omega) H.out.2.1
  go_enter Tryd.func5, Tryd.ntmps5
  go_wp2_with fail
  refine P1.mono ?_
  rintro e w1 ⟨u, m, rfl, ho, hg1⟩
  obtain ⟨al, cl, rfl⟩ := ho.shape
  have hm30 : m ≤ 30 := by have := ho.1; rw [pairsT_len] at this; have := H.out.2.2; omega
  have P2 := code_make _ m (pairsT ns) w1 (ho.read (by omega))
  have HG1 := Lib.hid hg1
  clear ho hg1 P1
  go_wp2_with fail
  refine P2.mono ?_
  rintro e w2 ⟨hg2, v2, x2, rfl, hm2⟩
  rcases hm2 with ⟨hmx, ⟨hx0, rfl⟩ | ⟨rfl, f, hcl, hlt, hV⟩⟩
  · have hx2 : (x2 == (0 : Int)) = false := by simpa using hx0
    unfold lat0
    obtain ⟨W, hW⟩ : ∃ W, w2.alloc (.cells #[.slice none 0 0, .slice none 0 0, .slice none 0 0, .slice none 0 0, .int .i64 0, .int .i64 0] 29) = W := ⟨_, rfl⟩
    have hgW : Grow w2 W := by rw [← hW]; exact (Below.refl _ _).alloc (Nat.le_refl _) _
    have hB : LatB W w2.heap.size (.slice none 0 0) (.slice none 0 0) (.slice none 0 0) (.slice none 0 0) (.int .i64 0) (.int .i64 0) := by rw [← hW]; exact LatB.new _ _ _ _ _ _ _
    obtain ⟨⟨q0, _, _⟩, _, _, _⟩ := hB.cells
    have HG := Lib.hid (Grow.trans HG1.out (Grow.trans hg2 hgW))
    have HW := Lib.hid hW
    clear hB hgW hg2 hmx P2 hW
    go_upto_region 4 with fail
    rw [HW.out]
    go_wp2_with (first | (go_at_call 11; refine (awake_lab HK.out _ (H.out.1.later HG.out)).mono ?_; rintro e w' ⟨rfl, hb9⟩; have H9 := Lib.hid (Grow.trans HG.out hb9); clear hb9) | (go_at_call 15; refine (lnum_at _ _).mono ?_; rintro e w' ⟨rfl, rfl⟩))
    go_ret
    exact ⟨rfl, H9.out⟩
  · have hk : 0 < (namesP (pairsT ns)).length ∧ (namesP (pairsT ns)).length ≤ 12 := by
      rcases hmx with ⟨_, h⟩ | ⟨_, h⟩ | ⟨h1, h2, _⟩
      · cases h
      · cases h
      · exact ⟨h1, h2⟩
    obtain ⟨L, hL⟩ : ∃ L, namesP (pairsT ns) = L := ⟨_, rfl⟩
    have hrise := namesP_rise (pairsT ns)
    rw [hL] at hk hrise hlt hV hcl
    have hV0 := hV
    obtain ⟨aN, cN, aL, cL, aJ, cJ, aM, cM, n, hn, rfl, _⟩ := hV0
    have hrf := hcl.refl
    have htr := hcl.trans
    rw [← hn] at hk hrf htr
    have hlt2 := hlt
    rw [← hn] at hlt2
    obtain ⟨j1, j2, j3, lw, hi⟩ := both_laws hlt2 hrf htr hk.1
    obtain ⟨yl, hyl⟩ : ∃ y, lowI n f = y := ⟨_, rfl⟩
    obtain ⟨yh, hyh⟩ : ∃ y, lowI n (flipB f) = y := ⟨_, rfl⟩
    rw [hyl, hyh] at hV ⊢
    rw [hyl] at lw
    rw [hyh] at hi
    obtain ⟨W, hW⟩ : ∃ W, w2.alloc (.cells #[.slice aN n cN, .slice aL n cL, .slice aJ n cJ, .slice aM n cM, .int .i64 (yl : Int), .int .i64 (yh : Int)] 29) = W := ⟨_, rfl⟩
    have hgW : Grow w2 W := by rw [← hW]; exact (Below.refl _ _).alloc (Nat.le_refl _) _
    have HB := Lib.hid (show LatB W w2.heap.size (.slice aN n cN) (.slice aL n cL) (.slice aJ n cJ) (.slice aM n cM) (.int .i64 (yl : Int)) (.int .i64 (yh : Int)) from by rw [← hW]; exact LatB.new _ _ _ _ _ _ _)
    have HV := Lib.hid (And.intro (hV.later hgW) (And.intro hrise (And.intro hlt hn)))
    have HJ := Lib.hid (And.intro j1 (And.intro j2 (And.intro j3 (And.intro lw hi))))
    have HRT := Lib.hid (And.intro hrf htr)
    have HG := Lib.hid (Grow.trans HG1.out (Grow.trans hg2 hgW))
    have P3 := ref_right w1.heap.size aN aL aJ aM n cN cL cJ cM yl yh L f W (hV.later hgW) hrise hk.1 hk.2 (Nat.le_trans hg2.size hgW.size) (by rw [← hn]; exact hrf) (by rw [← hn]; exact htr) hlt
    obtain ⟨⟨q0, q1, q2⟩, q3, q4, q5⟩ := HB.out.cells
    have hn0 : ¬ (n : Int) = 0 := by omega
    have HW := Lib.hid hW
    clear hmx hcl hlt hV hrise hrf htr hlt2 j1 j2 j3 lw hi hyl hyh hn hL hg2 hgW hW P2
    go_upto_region 4 with fail
    rw [HW.out]
    go_wp2_with (first | (go_at_call 21; refine P3.mono ?_; rintro e w3 ⟨rfl, hb3⟩; have H3 := Lib.hid hb3; clear hb3) | (go_at_call 15; refine (lnum_at _ _).mono ?_; rintro e w' ⟨rfl, rfl⟩))
    obtain ⟨a, ha⟩ : ∃ a, x % n = a := ⟨_, rfl⟩
    obtain ⟨b, hb⟩ : ∃ b, y % n = b := ⟨_, rfl⟩
    obtain ⟨d, hd⟩ : ∃ d, z % n = d := ⟨_, rfl⟩
    have han : a < n := by rw [← ha]; exact Nat.mod_lt _ hk.1
    have hbn : b < n := by rw [← hb]; exact Nat.mod_lt _ hk.1
    have hdn : d < n := by rw [← hd]; exact Nat.mod_lt _ hk.1
    have hxa : (x : Int).tmod (n : Int) = (a : Int) := by rw [IntWalk.rem_in _ _ (by omega), ← ha]; exact (Int.natCast_emod x n).symm
    have hyb : (y : Int).tmod (n : Int) = (b : Int) := by rw [IntWalk.rem_in _ _ (by omega), ← hb]; exact (Int.natCast_emod y n).symm
    have hzd : (z : Int).tmod (n : Int) = (d : Int) := by rw [IntWalk.rem_in _ _ (by omega), ← hd]; exact (Int.natCast_emod z n).symm
    clear ha hb hd q0 q1 q2 q3 q4 q5 P3 HW
    go_quiet (fail)
    go_upto_region 10 with fail
    obtain ⟨V1, hV1⟩ : ∃ V1, w3.drewN nq = V1 := ⟨_, rfl⟩
    have hgd : Grow W V1 := by rw [← hV1]; exact below_drewN H3.out nq
    rw [hV1]
    have HG9 := Lib.hid (Grow.trans HG.out hgd)
    have HC := Lib.hid (HB.out.later hgd)
    obtain ⟨-, -, -, t1, t2, t3⟩ := (HV.out.1.later hgd).tabs8
    obtain ⟨pL, RL, DL, rfl, rl, vl⟩ := t1.toV.fn hk.1 hk.1
    obtain ⟨pJ, RJ, DJ, rfl, rj, vj⟩ := t2.toV.fn hk.1 hk.1
    obtain ⟨pM, RM, DM, rfl, rm, vm⟩ := t3.toV.fn hk.1 hk.1
    have HRA := Lib.hid (fun (W' : World) (hg : Grow V1 W') => code_right w1.heap.size _ L f W' ((HV.out.1.later hgd).later hg) HV.out.2.1 (by rw [← HV.out.2.2.2]; exact hk.1) (by rw [← HV.out.2.2.2]; exact hk.2) (by rw [← HV.out.2.2.2]; exact HRT.out.1) (by rw [← HV.out.2.2.2]; exact HRT.out.2) HV.out.2.2.1)
    obtain ⟨j, hj⟩ : ∃ j, joinI n f a b = j := ⟨_, rfl⟩
    obtain ⟨q, hq⟩ : ∃ q, joinI n (flipB f) a b = q := ⟨_, rfl⟩
    obtain ⟨p1, hp1⟩ : ∃ p, joinI n f b d = p := ⟨_, rfl⟩
    obtain ⟨p2, hp2⟩ : ∃ p, joinI n (flipB f) b d = p := ⟨_, rfl⟩
    obtain ⟨r1, hr1⟩ : ∃ r, joinI n f j d = r := ⟨_, rfl⟩
    obtain ⟨r2, hr2⟩ : ∃ r, joinI n (flipB f) q d = r := ⟨_, rfl⟩
    have hjn : j < n := by rw [← hj]; exact HJ.out.1.lt _ _ han hbn
    have hqn : q < n := by rw [← hq]; exact HJ.out.2.1.lt _ _ han hbn
    have hp1n : p1 < n := by rw [← hp1]; exact HJ.out.1.lt _ _ hbn hdn
    have hp2n : p2 < n := by rw [← hp2]; exact HJ.out.2.1.lt _ _ hbn hdn
    have k1 : joinI n f b a = j := by rw [HJ.out.1.comm _ _ hbn han, hj]
    have k2 : joinI n (flipB f) b a = q := by rw [HJ.out.2.1.comm _ _ hbn han, hq]
    have k3 : joinI n f a p1 = r1 := by rw [← hp1, ← HJ.out.1.assoc _ _ _ han hbn hdn, hj, hr1]
    have k4 : joinI n (flipB f) a p2 = r2 := by rw [← hp2, ← HJ.out.2.1.assoc _ _ _ han hbn hdn, hq, hr2]
    have k5 : joinI n f a q = a := by rw [← hq]; exact (HJ.out.2.2.1 a b han hbn).1
    have k6 : joinI n (flipB f) a j = a := by rw [← hj]; exact (HJ.out.2.2.1 a b han hbn).2
    unfold bI at vj vm
    unfold bB at vl
    have J1 := vj a b han hbn
    have J2 := vj b a hbn han
    have J3 := vj b d hbn hdn
    have J4 := vj a p1 han hp1n
    have J5 := vj j d hjn hdn
    have J6 := vj a q han hqn
    rw [hj] at J1
    rw [k1] at J2
    rw [hp1] at J3
    rw [k3] at J4
    rw [hr1] at J5
    rw [k5] at J6
    have M1 := vm a b han hbn
    have M2 := vm b a hbn han
    have M3 := vm b d hbn hdn
    have M4 := vm a p2 han hp2n
    have M5 := vm q d hqn hdn
    have M6 := vm a j han hjn
    rw [hq] at M1
    rw [k2] at M2
    rw [hp2] at M3
    rw [k4] at M4
    rw [hr2] at M5
    rw [k6] at M6
    have RJa := rj a han
    have RJb := rj b hbn
    have RJj := rj j hjn
    have RMa := rm a han
    have RMb := rm b hbn
    have RMq := rm q hqn
    have HX := Lib.hid (And.intro hj (And.intro hq (And.intro rl vl)))
    have b1 : (0 : Int) ≤ (a : Int) ∧ (a : Int) < (n : Int) := by omega
    have b2 : (0 : Int) ≤ (b : Int) ∧ (b : Int) < (n : Int) := by omega
    have b3 : (0 : Int) ≤ (d : Int) ∧ (d : Int) < (n : Int) := by omega
    have b4 : (0 : Int) ≤ (j : Int) ∧ (j : Int) < (n : Int) := by omega
    have b5 : (0 : Int) ≤ (q : Int) ∧ (q : Int) < (n : Int) := by omega
    have b6 : (0 : Int) ≤ (p1 : Int) ∧ (p1 : Int) < (n : Int) := by omega
    have b7 : (0 : Int) ≤ (p2 : Int) ∧ (p2 : Int) < (n : Int) := by omega
    obtain ⟨b1, c1⟩ := b1
    obtain ⟨b2, c2⟩ := b2
    obtain ⟨b3, c3⟩ := b3
    obtain ⟨b4, c4⟩ := b4
    obtain ⟨b5, c5⟩ := b5
    obtain ⟨b6, c6⟩ := b6
    obtain ⟨b7, c7⟩ := b7
    obtain ⟨⟨f0, f1, f2⟩, f3, f4, f5⟩ := HC.out.cells
    have HK2 := Lib.hid (And.intro hk (And.intro han (And.intro hbn (And.intro hdn (And.intro hjn (And.intro hqn (And.intro hp1n hp2n)))))))
    clear hV1 hgd t1 t2 t3 rl vl rj vj rm vm hj hq hp1 hp2 hr1 hr2 k1 k2 k3 k4 k5 k6 hxa hyb hzd hn0 g60 h60 hm hm30 hx hy hz hk han hbn hdn hjn hqn hp1n hp2n
    have RLa := HX.out.2.2.1 a HK2.out.2.1
    have L1 := HX.out.2.2.2 a b HK2.out.2.1 HK2.out.2.2.1
    have EV : Hid (f a j = true ∧ f b j = true ∧ f q a = true ∧ f q b = true) := Lib.hid (by
      have e1 := HX.out.1
      have e2 := HX.out.2.1
      have u1 := HJ.out.1.left a b HK2.out.2.1 HK2.out.2.2.1
      have u2 := HJ.out.1.right a b HK2.out.2.1 HK2.out.2.2.1
      have u3 := HJ.out.2.1.left a b HK2.out.2.1 HK2.out.2.2.1
      have u4 := HJ.out.2.1.right a b HK2.out.2.1 HK2.out.2.2.1
      rw [e1] at u1 u2
      rw [e2] at u3 u4
      exact ⟨u1, u2, u3, u4⟩)
    have EJ : Hid (f a d = true → f b d = true → f j d = true) := Lib.hid fun h1 h2 => by
      have := HJ.out.1.least a b d HK2.out.2.1 HK2.out.2.2.1 HK2.out.2.2.2.1 h1 h2
      rwa [HX.out.1] at this
    have EM : Hid (f d a = true → f d b = true → f d q = true) := Lib.hid fun h1 h2 => by
      have := HJ.out.2.1.least a b d HK2.out.2.1 HK2.out.2.2.1 HK2.out.2.2.2.1 h1 h2
      rwa [HX.out.2.1] at this
    have EQ : Hid ((f a b = true → j = b ∧ q = a) ∧ (f a b = false → j ≠ b ∧ q ≠ a)) := Lib.hid (by
      have e1 := HX.out.1
      have e2 := HX.out.2.1
      have ha := HK2.out.2.1
      have hb := HK2.out.2.2.1
      refine ⟨fun h => ⟨by rw [← e1]; exact HJ.out.1.iff1 a b ha hb h, ?_⟩, fun h => ⟨fun e => ?_, fun e => ?_⟩⟩
      · rw [← e2, HJ.out.2.1.comm a b ha hb]
        exact HJ.out.2.1.iff1 b a hb ha h
      · have := HJ.out.1.iff2 a b ha hb (by rw [e1, e])
        rw [this] at h
        cases h
      · have := HJ.out.2.1.iff2 b a hb ha (by rw [HJ.out.2.1.comm b a hb ha, e2, e])
        unfold flipB at this
        rw [this] at h
        cases h)
    go_quiet (fail)
    go_wp2_with fail
    refine wp_region_quiet_lit (by kernel_rfl) (by as_aux_lemma => kernel_rfl) ?_
    try simp only [List.append_eq, List.cons_append, List.nil_append]
    repeat (go_big_quiet_step (fail))
    refine wpQuiet_nil ?_
    intro _ hw'
    obtain ⟨nq, hw''⟩ := hw'
    subst hw''
    obtain ⟨be, hbe⟩ : ∃ t, f a b = t := ⟨_, rfl⟩
    have ej1 : decide ((j : Int) = (b : Int)) = be := by
      cases be with
      | true => simpa using congrArg Int.ofNat (EQ.out.1 hbe).1
      | false => simpa using fun h : (j : Int) = (b : Int) => (EQ.out.2 hbe).1 (by omega)
    have eq1 : decide ((q : Int) = (a : Int)) = be := by
      cases be with
      | true => simpa using congrArg Int.ofNat (EQ.out.1 hbe).2
      | false => simpa using fun h : (q : Int) = (a : Int) => (EQ.out.2 hbe).2 (by omega)
    have ej2 : ((j : Int) == (b : Int)) = be := by rw [← ej1]; rfl
    have eq2 : ((q : Int) == (a : Int)) = be := by rw [← eq1]; rfl
    have ej3 : decide (j = b) = be := by rw [← ej1]; exact decide_eq_decide.2 (by omega)
    have eq3 : decide (q = a) = be := by rw [← eq1]; exact decide_eq_decide.2 (by omega)
    have ej4 : (j == b) = be := by rw [← ej3]; rfl
    have eq4 : (q == a) = be := by rw [← eq3]; rfl
    rw [hbe] at L1
    clear hbe
    go_upto_region 13 with fail
    clear ej1 ej2 ej3 ej4 eq1 eq2 eq3 eq4 J1 J2 J3 J4 J5 J6 M1 M2 M3 M4 M5 M6 RJa RJb RJj RMa RMb RMq L1
    have RLb := HX.out.2.2.1 b HK2.out.2.2.1
    have RLd := HX.out.2.2.1 d HK2.out.2.2.2.1
    have RLj := HX.out.2.2.1 j HK2.out.2.2.2.2.1
    have RLq := HX.out.2.2.1 q HK2.out.2.2.2.2.2.1
    have RLl := HX.out.2.2.1 yl HJ.out.2.2.2.1.1
    have Laj := HX.out.2.2.2 a j HK2.out.2.1 HK2.out.2.2.2.2.1
    have Lbj := HX.out.2.2.2 b j HK2.out.2.2.1 HK2.out.2.2.2.2.1
    have Lqa := HX.out.2.2.2 q a HK2.out.2.2.2.2.2.1 HK2.out.2.1
    have Lqb := HX.out.2.2.2 q b HK2.out.2.2.2.2.2.1 HK2.out.2.2.1
    have Lla := HX.out.2.2.2 yl a HJ.out.2.2.2.1.1 HK2.out.2.1
    have Lah := HX.out.2.2.2 a yh HK2.out.2.1 HJ.out.2.2.2.2.1
    have Lad := HX.out.2.2.2 a d HK2.out.2.1 HK2.out.2.2.2.1
    have Lbd := HX.out.2.2.2 b d HK2.out.2.2.1 HK2.out.2.2.2.1
    have Ljd := HX.out.2.2.2 j d HK2.out.2.2.2.2.1 HK2.out.2.2.2.1
    have Lda := HX.out.2.2.2 d a HK2.out.2.2.2.1 HK2.out.2.1
    have Ldb := HX.out.2.2.2 d b HK2.out.2.2.2.1 HK2.out.2.2.1
    have Ldq := HX.out.2.2.2 d q HK2.out.2.2.2.1 HK2.out.2.2.2.2.2.1
    rw [EV.out.1] at Laj
    rw [EV.out.2.1] at Lbj
    rw [EV.out.2.2.1] at Lqa
    rw [EV.out.2.2.2] at Lqb
    rw [HJ.out.2.2.2.1.2 a HK2.out.2.1] at Lla
    rw [HJ.out.2.2.2.2.2 a HK2.out.2.1] at Lah
    have l1 : (0 : Int) ≤ (yl : Int) := by omega
    have l2 : (yl : Int) < (n : Int) := by have := HJ.out.2.2.2.1.1; omega
    have l3 : (0 : Int) ≤ (yh : Int) := by omega
    have l4 : (yh : Int) < (n : Int) := by have := HJ.out.2.2.2.2.1; omega
    refine wp_region_quiet_lit (by kernel_rfl) (by as_aux_lemma => kernel_rfl) ?_
    try simp only [List.append_eq, List.cons_append, List.nil_append]
    repeat (go_big_quiet_step (fail))
    refine wpQuiet_nil ?_
    intro _ hw'
    obtain ⟨nq, hw''⟩ := hw'
    subst hw''
    clear Laj Lbj Lqa Lqb Lla Lah l1 l2 l3 l4 RLl
    go_upto_region 14 with fail
    try simp only [List.append_eq, List.cons_append, List.nil_append]
    cases had : f a d with
    | false =>
      rw [had] at Lad
      clear had
      cases hda : f d a with
      | false =>
        as_aux_lemma =>
          rw [hda] at Lda
          clear hda
          go_wp2_with (first | (go_at_call 11; refine (awake_lab HK.out _ (H.out.1.later (Grow.trans HG9.out G10.out))).mono ?_; rintro e w' ⟨rfl, hb9⟩; have H9 := Lib.hid (Grow.trans HG9.out (Grow.trans G10.out hb9)); clear hb9) | (go_at_call 22; refine (HRA.out _ (by repeat' (first | exact Grow.refl _ | refine below_drewN ?_ _))).mono ?_; rintro e w10 ⟨rfl, hb10⟩; have G10 : Hid (Grow V1 w10) := Lib.hid (Grow.trans (by repeat' (first | exact Grow.refl _ | refine below_drewN ?_ _)) hb10); clear hb10))
          go_ret
          exact ⟨rfl, H9.out⟩
      | true =>
        cases hdb : f d b with
        | false =>
          as_aux_lemma =>
            rw [hda] at Lda
            rw [hdb] at Ldb
            clear hda hdb
            go_wp2_with (first | (go_at_call 11; refine (awake_lab HK.out _ (H.out.1.later (Grow.trans HG9.out G10.out))).mono ?_; rintro e w' ⟨rfl, hb9⟩; have H9 := Lib.hid (Grow.trans HG9.out (Grow.trans G10.out hb9)); clear hb9) | (go_at_call 22; refine (HRA.out _ (by repeat' (first | exact Grow.refl _ | refine below_drewN ?_ _))).mono ?_; rintro e w10 ⟨rfl, hb10⟩; have G10 : Hid (Grow V1 w10) := Lib.hid (Grow.trans (by repeat' (first | exact Grow.refl _ | refine below_drewN ?_ _)) hb10); clear hb10))
            go_ret
            exact ⟨rfl, H9.out⟩
        | true =>
          as_aux_lemma =>
            rw [EM.out hda hdb] at Ldq
            rw [hda] at Lda
            rw [hdb] at Ldb
            clear hda hdb
            go_wp2_with (first | (go_at_call 11; refine (awake_lab HK.out _ (H.out.1.later (Grow.trans HG9.out G10.out))).mono ?_; rintro e w' ⟨rfl, hb9⟩; have H9 := Lib.hid (Grow.trans HG9.out (Grow.trans G10.out hb9)); clear hb9) | (go_at_call 22; refine (HRA.out _ (by repeat' (first | exact Grow.refl _ | refine below_drewN ?_ _))).mono ?_; rintro e w10 ⟨rfl, hb10⟩; have G10 : Hid (Grow V1 w10) := Lib.hid (Grow.trans (by repeat' (first | exact Grow.refl _ | refine below_drewN ?_ _)) hb10); clear hb10))
            go_ret
            exact ⟨rfl, H9.out⟩
    | true =>
      cases hbd : f b d with
      | false =>
        rw [had] at Lad
        rw [hbd] at Lbd
        clear had hbd
        cases hda : f d a with
        | false =>
          as_aux_lemma =>
            rw [hda] at Lda
            clear hda
            go_wp2_with (first | (go_at_call 11; refine (awake_lab HK.out _ (H.out.1.later (Grow.trans HG9.out G10.out))).mono ?_; rintro e w' ⟨rfl, hb9⟩; have H9 := Lib.hid (Grow.trans HG9.out (Grow.trans G10.out hb9)); clear hb9) | (go_at_call 22; refine (HRA.out _ (by repeat' (first | exact Grow.refl _ | refine below_drewN ?_ _))).mono ?_; rintro e w10 ⟨rfl, hb10⟩; have G10 : Hid (Grow V1 w10) := Lib.hid (Grow.trans (by repeat' (first | exact Grow.refl _ | refine below_drewN ?_ _)) hb10); clear hb10))
            go_ret
            exact ⟨rfl, H9.out⟩
        | true =>
          cases hdb : f d b with
          | false =>
            as_aux_lemma =>
              rw [hda] at Lda
              rw [hdb] at Ldb
              clear hda hdb
              go_wp2_with (first | (go_at_call 11; refine (awake_lab HK.out _ (H.out.1.later (Grow.trans HG9.out G10.out))).mono ?_; rintro e w' ⟨rfl, hb9⟩; have H9 := Lib.hid (Grow.trans HG9.out (Grow.trans G10.out hb9)); clear hb9) | (go_at_call 22; refine (HRA.out _ (by repeat' (first | exact Grow.refl _ | refine below_drewN ?_ _))).mono ?_; rintro e w10 ⟨rfl, hb10⟩; have G10 : Hid (Grow V1 w10) := Lib.hid (Grow.trans (by repeat' (first | exact Grow.refl _ | refine below_drewN ?_ _)) hb10); clear hb10))
              go_ret
              exact ⟨rfl, H9.out⟩
          | true =>
            as_aux_lemma =>
              rw [EM.out hda hdb] at Ldq
              rw [hda] at Lda
              rw [hdb] at Ldb
              clear hda hdb
              go_wp2_with (first | (go_at_call 11; refine (awake_lab HK.out _ (H.out.1.later (Grow.trans HG9.out G10.out))).mono ?_; rintro e w' ⟨rfl, hb9⟩; have H9 := Lib.hid (Grow.trans HG9.out (Grow.trans G10.out hb9)); clear hb9) | (go_at_call 22; refine (HRA.out _ (by repeat' (first | exact Grow.refl _ | refine below_drewN ?_ _))).mono ?_; rintro e w10 ⟨rfl, hb10⟩; have G10 : Hid (Grow V1 w10) := Lib.hid (Grow.trans (by repeat' (first | exact Grow.refl _ | refine below_drewN ?_ _)) hb10); clear hb10))
              go_ret
              exact ⟨rfl, H9.out⟩
      | true =>
        rw [EJ.out had hbd] at Ljd
        rw [had] at Lad
        rw [hbd] at Lbd
        clear had hbd
        cases hda : f d a with
        | false =>
          as_aux_lemma =>
            rw [hda] at Lda
            clear hda
            go_wp2_with (first | (go_at_call 11; refine (awake_lab HK.out _ (H.out.1.later (Grow.trans HG9.out G10.out))).mono ?_; rintro e w' ⟨rfl, hb9⟩; have H9 := Lib.hid (Grow.trans HG9.out (Grow.trans G10.out hb9)); clear hb9) | (go_at_call 22; refine (HRA.out _ (by repeat' (first | exact Grow.refl _ | refine below_drewN ?_ _))).mono ?_; rintro e w10 ⟨rfl, hb10⟩; have G10 : Hid (Grow V1 w10) := Lib.hid (Grow.trans (by repeat' (first | exact Grow.refl _ | refine below_drewN ?_ _)) hb10); clear hb10))
            go_ret
            exact ⟨rfl, H9.out⟩
        | true =>
          cases hdb : f d b with
          | false =>
            as_aux_lemma =>
              rw [hda] at Lda
              rw [hdb] at Ldb
              clear hda hdb
              go_wp2_with (first | (go_at_call 11; refine (awake_lab HK.out _ (H.out.1.later (Grow.trans HG9.out G10.out))).mono ?_; rintro e w' ⟨rfl, hb9⟩; have H9 := Lib.hid (Grow.trans HG9.out (Grow.trans G10.out hb9)); clear hb9) | (go_at_call 22; refine (HRA.out _ (by repeat' (first | exact Grow.refl _ | refine below_drewN ?_ _))).mono ?_; rintro e w10 ⟨rfl, hb10⟩; have G10 : Hid (Grow V1 w10) := Lib.hid (Grow.trans (by repeat' (first | exact Grow.refl _ | refine below_drewN ?_ _)) hb10); clear hb10))
              go_ret
              exact ⟨rfl, H9.out⟩
          | true =>
            as_aux_lemma =>
              rw [EM.out hda hdb] at Ldq
              rw [hda] at Lda
              rw [hdb] at Ldb
              clear hda hdb
              go_wp2_with (first | (go_at_call 11; refine (awake_lab HK.out _ (H.out.1.later (Grow.trans HG9.out G10.out))).mono ?_; rintro e w' ⟨rfl, hb9⟩; have H9 := Lib.hid (Grow.trans HG9.out (Grow.trans G10.out hb9)); clear hb9) | (go_at_call 22; refine (HRA.out _ (by repeat' (first | exact Grow.refl _ | refine below_drewN ?_ _))).mono ?_; rintro e w10 ⟨rfl, hb10⟩; have G10 : Hid (Grow V1 w10) := Lib.hid (Grow.trans (by repeat' (first | exact Grow.refl _ | refine below_drewN ?_ _)) hb10); clear hb10))
              go_ret
              exact ⟨rfl, H9.out⟩

end Go.Proofs.YtejaikpnfhhmnaaDoor
