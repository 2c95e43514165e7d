/- SnapRuns, walked. Numbers and types by name. -/
import Derived.Test.YthglbmnhlnpmkaaGreatSnv
import Derived.Test.YthglbmnhlnpmkaaGreatPss
import Derived.Test.YthglbmnhlnpmkaaGreatPla
import Derived.Test.YthglbmnhlnpmkaaGreatDnu
import Derived.Test.YthglbmnhlnpmkaaGreatSnk
namespace Go.Proofs.YthglbmnhlnpmkaaGreat
open Go.RowKit Go.Lib
set_option maxRecDepth 100000

/-- Ahead of a round: both disks are one. S: the first plan's lists are short. -/
def RunS (w0 wl : World) (S : Prop) (N base b r k : Nat) : Prop :=
  ∃ M, Both (· < N) wl base b r M M ∧ Grow w0 wl ∧ (S → Well 24100 M (6 * k) ∧ tot M.fs ≤ k * 24100) ∧ (¬ S → k = 0) ∧ LimF M.fs
theorem lim_tot {M : MD} {j : Nat} (h : Well 24100 M j) (hj : j ≤ 125) : Lim M := well_lim room8 h hj
theorem below_cell9 {B : Nat} {w w' : World} (hb : Below B w w') {p : Addr} {u : Value} (hp : p.block < B) (hc : w.cell? p = some u) : w'.cell? p = some u := (World.cell?_of_block (hb.block _ hp)).trans hc
theorem tot_restart (M : MD) (cap cr : Int) (dn : Bool) (zs ks : List Int) : tot (M.restart cap cr dn zs ks).fs ≤ tot M.fs := tot_res _ _ _

set_option maxHeartbeats 8000000 in
theorem runs_snap (ap : Option Addr) (a2 : Addr) (n2 c2 : Nat) (P : Nat → PV) (v1 : Value) (n1 : Nat) (LL : List (List Prm)) (w : World) (h0 : Plans w ap a2 n2 P) (h1 : Pss w v1 n1 LL) (hz : 0 < n2 → (P 0).zs.length * 8 ≤ 140737488355328 ∧ (P 0).ks.length * 8 ≤ 140737488355328) :
    Calls Tryz.prog 3 #[.slice ap n2 c2, v1] w fun e w' => e = .returned (.bool true) ∧ Below w.heap.size w w' := by
  obtain ⟨a1, c1, rfl⟩ := h1.shape
  have H0 := Lib.hid h0
  have H1 := Lib.hid h1
  have HZ := Lib.hid hz
  clear h0 h1 hz
  go_enter Tryz.func3, Tryz.ntmps3
  by_cases x1 : 20 < n2
  · have y1 : (20 : Int) < (n2 : Int) := by omega
    go_wp2_with (go_at_call 7; refine (awake_snap _).mono ?_; rintro e w' ⟨rfl, hb9⟩)
    go_ret
    exact ⟨rfl, hb9⟩
  have y1 : ¬ (20 : Int) < (n2 : Int) := by omega
  by_cases x2 : 20 < n1
  · have y2 : (20 : Int) < (n1 : Int) := by omega
    go_wp2_with (go_at_call 7; refine (awake_snap _).mono ?_; rintro e w' ⟨rfl, hb9⟩)
    go_ret
    exact ⟨rfl, hb9⟩
  have y2 : ¬ (20 : Int) < (n1 : Int) := by omega
  by_cases x3 : n2 = 0
  · subst x3
    go_wp2_with (go_at_call 7; refine (awake_snap _).mono ?_; rintro e w' ⟨rfl, hb9⟩)
    go_ret
    exact ⟨rfl, hb9⟩
  have y3 : (((n2 : Nat) : Int) == 0) = false := by simp; omega
  have x3' : 0 < n2 := by omega
  obtain rfl : ap = some a2 := by
    rcases H0.out.addr with h | ⟨_, h⟩
    · exact h
    · omega
  have HN2 := Lib.hid (And.intro x1 (And.intro x2 x3'))
  have y4 : (0 : Int) < (n2 : Int) := by omega
  have y5 : 0 < n2 := x3'
  clear x1 x2 x3 x3'
  have u0 := (H0.out.at' 0 HN2.out.2.2).cells
  have hok0 := (H0.out.at' 0 HN2.out.2.2).ok
  have hz0 := HZ.out HN2.out.2.2
  rw [Nat.zero_mul, show a2.add 0 = a2 by simp [Addr.add]] at u0
  obtain ⟨P0, hP0⟩ : ∃ P0, P0 = P 0 := ⟨_, rfl⟩
  rw [← hP0] at u0 hok0 hz0
  obtain ⟨pc, aF, cF, zs, cr, dn, aK, cK, ks⟩ := P0
  simp only [] at u0 hz0
  obtain ⟨lF, hlF⟩ : ∃ lF, lF = zs.length := ⟨_, rfl⟩
  obtain ⟨lK, hlK⟩ : ∃ lK, lK = ks.length := ⟨_, rfl⟩
  have C1 := fun (w' : World) (hg : Grow w w') => new_cd_big pc cr dn (.slice aF zs.length cF) (.slice aK ks.length cK) zs ks w' (hok0.rF.later hg) (hok0.rK.later hg) hz0.1 hz0.2
  have hrefnew := fun (w' : World) (hg : Grow w w') => ref_new_below pc cr dn aF cF zs aK cK ks w w' hok0.rF hok0.rK hg
  rw [← hlF, ← hlK] at u0 C1 hrefnew
  obtain ⟨M, hM⟩ : ∃ M, M = MD.new pc cr dn zs ks := ⟨_, rfl⟩
  rw [← hM] at C1 hrefnew
  have HM0 : Hid ((lF ≤ 100 ∧ lK ≤ 100 → Well 24100 M 0) ∧ M.fs = [] ∧ lF = (P 0).zs.length ∧ lK = (P 0).ks.length) := Lib.hid ⟨fun h => by rw [hM]; exact well_new _ _ _ _ _ _ hok0.cap (by omega) (by omega), by rw [hM]; rfl, by rw [← hP0]; exact hlF, by rw [← hP0]; exact hlK⟩
  have u0' : ∀ w', Grow w.drew w' → _ := fun w' hg => u0 w' (Grow.trans (below_drewN (Below.refl _ w) 1) hg)
  have HC1 := Lib.hid C1
  have HC2 := Lib.hid hrefnew
  clear u0 C1 hrefnew hok0 hP0 hlF hlK hM hz0 HZ
  go_wp2_with fail
  refine wp_region_mv [(0, 3, true), (4, 3, true), (3, 1, false), (7, 1, false), (8, 2, true)] (by kernel_rfl) (by kernel_rfl) ?_
  simp only [mvAll, mvSeg, List.drop_succ_cons, List.drop_zero, List.cons_append, List.nil_append, Nat.reduceAdd]
  iterate 6
    refine wpLin_still ?_ (fun w' hG K hK => ?_) (fun K hK => ?_)
    rotate_left
    · obtain ⟨d0, d1, d2, d3, d4⟩ := u0' w' hG
      clear hG
      unfold mvVal
      go_simp
      try exact hK
    go_simp
    refine hK _ ?_
    clear hK K
  clear u0'
  have G1 : Grow w w.drew := below_drewN (Below.refl _ w) 1
  refine wpLin_call (fun K hK => ?_)
  unfold mvRun
  go_simp
  simp only [mvUpon]
  refine (HC1.out w.drew G1).mono ?_
  rintro e w2 ⟨b, Fd, rfl, hCD, t2⟩
  refine ⟨_, rfl, ?_⟩
  go_simp
  refine hK _ _ (turn_grow8 t2) ?_
  clear hK K
  have HCD := Lib.hid (And.intro hCD t2)
  have HG2 : Hid (Grow w w2) := Lib.hid (G1.trans (turn_grow8 t2))
  clear hCD t2 G1
  refine wpLin_call (fun K hK => ?_)
  unfold mvRun
  go_simp
  simp only [mvUpon]
  refine (HC2.out w2 HG2.out).mono ?_
  rintro e w3 ⟨r, Fr, G, rfl, hRD, hFr, hG9, t3⟩
  refine ⟨_, rfl, ?_⟩
  go_simp
  refine hK _ _ (turn_grow8 t3) ?_
  clear hK K
  obtain ⟨N, hN⟩ : ∃ N, N = w.heap.size := ⟨_, rfl⟩
  obtain ⟨base, hbs⟩ : ∃ base, base = w.drew.heap.size := ⟨_, rfl⟩
  obtain ⟨S, hS⟩ : ∃ S : Prop, S = (lF ≤ 100 ∧ lK ≤ 100) := ⟨_, rfl⟩
  have HR0 : Hid (RunS w w3 S N base b r 0) := Lib.hid (by
    have hNb : N ≤ base := by rw [hN, hbs]; exact Nat.le_refl _
    refine ⟨M, ⟨fun q hq => Nat.lt_of_lt_of_le hq (by rw [hN]; exact (HG2.out.trans (turn_grow8 t3)).size), Fd, Fr, G, by rw [hbs]; exact HCD.out.1.new t3, hRD, fun q hq => ⟨fun hm => ?_, fun hm => ?_, ?_⟩, fun q hq => ?_⟩, HG2.out.trans (turn_grow8 t3), fun h => ⟨HM0.out.1 (by rw [← hS]; exact h), by rw [HM0.out.2.1]; exact Nat.zero_le _⟩, fun _ => rfl, by rw [HM0.out.2.1]; exact ⟨by decide, by decide⟩⟩
    · have := hFr q hm; have := (HCD.out.1.lt q hq).2; omega
    · have := hG9 q hm; have := (HCD.out.1.lt q hq).1; omega
    · have := (HCD.out.1.lt q hq).1
      show ¬ q < N
      omega
    · have := hFr q hq
      have := HG2.out.size
      show ¬ q < N
      omega)
  have HNN := Lib.hid hN
  have HSS : Hid ((P 0).zs.length ≤ 100 ∧ (P 0).ks.length ≤ 100 → S) := Lib.hid (by rw [hS, HM0.out.2.2.1, HM0.out.2.2.2]; exact id)
  clear hRD hFr hG9 t3 HCD HG2 HC1 HC2 hbs hN hS HM0
  iterate 2
    refine wpLin_still ?_ (fun w' hG K hK => ?_) (fun K hK => ?_)
    rotate_left
    · clear hG
      unfold mvVal
      go_simp
      try exact hK
    go_simp
    refine hK _ ?_
    clear hK K
  refine wpLin_nil ?_
  unfold theDisk theRef
  go_wp2_with fail
  go_loopw [7] (fun i wr => ∃ k : Nat, k ≤ n1 ∧ i = .int .i64 k ∧ Hid (RunS w wr S N base b r k)) (fun i _ => n1 - (RowKit.intOf i).toNat)
  case atStart => exact ⟨0, Nat.zero_le _, rfl, HR0⟩
  case round =>
    obtain ⟨k, hk, rfl, hrel⟩ := hrel
    clear HR0
    by_cases h1 : k < n1
    · have h3 : (k : Int) < (n1 : Int) := by omega
      obtain ⟨aL, L, aq, cq, rfl, hL, hcL, hOp⟩ := H1.out.at h1
      obtain ⟨lL, hlL⟩ : ∃ lL, lL = L.length := ⟨_, rfl⟩
      rw [← hlL] at hcL hOp
      have hblk : (aL.add k).block < N := by rw [HNN.out]; exact World.block_lt_of_cell? w _ hcL
      obtain ⟨M, hb, hg, hS1, hS2, hl⟩ := hrel.out
      have hcl : wr.cell? (aL.add k) = some (.slice aq lL cq) := grow_cell hg hcL
      have GR := great_pairs _ lL L wr (hOp.later hg)
      have hk9 : k < 9223372036854775807 := by have := HN2.out.2.1; omega
      have HX := Lib.hid (And.intro hcL (And.intro hOp hblk))
      have HR := Lib.hid (And.intro hb (And.intro hg (And.intro hS1 (And.intro hS2 hl))))
      clear hL hlL hcL hOp hblk hb hg hS1 hS2 hl hrel
      go_wp2_with fail
      refine GR.mono ?_
      rintro e w4 ⟨g, q, rfl, hw4, hbL⟩
      have t4 : Turn [] wr w4 := by rw [hw4]; exact drew_turn wr q
      have HR4 := Lib.hid (And.intro (HR.out.1.new t4) (HR.out.2.1.trans (turn_grow8 t4)))
      clear hw4 t4 GR hcl
      cases g with
      | true =>
        clear hbL
        go_wp2_with (go_at_call 7; refine (awake_snap _).mono ?_; rintro e w' ⟨rfl, hb9⟩)
        go_ret
        exact ⟨rfl, HR4.out.2.trans hb9⟩
      | false =>
      have HBL := Lib.hid (hbL rfl)
      clear hbL
      rcases Nat.lt_or_ge k n2 with hkn | hkn
      case' inl =>
        have h4 : (k : Int) < (n2 : Int) := by omega
        have hat := H0.out.at' k hkn
        have hcells := hat.cells
        have hok := hat.ok
        have HSS2 : Hid (k = 0 → (P k).zs.length ≤ 100 ∧ (P k).ks.length ≤ 100 → S) := Lib.hid (by rintro rfl; exact HSS.out)
        obtain ⟨Pn, hPn⟩ : ∃ Pn, Pn = P k := ⟨_, rfl⟩
        rw [← hPn] at hcells hok HSS2
        obtain ⟨xc, xaF, xcF, xzs, xcr, xdn, xaK, xcK, xks⟩ := Pn
        simp only [] at hcells
        have HSS3 : Hid (k = 0 → xzs.length ≤ 100 ∧ xks.length ≤ 100 → S) := Lib.hid HSS2.out
        obtain ⟨lF', hlF'⟩ : ∃ lF', lF' = xzs.length := ⟨_, rfl⟩
        obtain ⟨lK', hlK'⟩ : ∃ lK', lK' = xks.length := ⟨_, rfl⟩
        rw [← hlF', ← hlK'] at hcells
        obtain ⟨d0, d1, d2, d3, d4⟩ := hcells w4 HR4.out.2
        have HCE := Lib.hid hcells
        have HOK := Lib.hid (And.intro hok (And.intro hlF' hlK'))
        clear hat hok hPn hlF' hlK' hcells HSS2
        by_cases xF : 100 < lF'
        · have z1 : (100 : Int) < (lF' : Int) := by omega
          go_wp2_with (go_at_call 7; refine (awake_snap _).mono ?_; rintro e w' ⟨rfl, hb9⟩)
          go_ret
          exact ⟨rfl, HR4.out.2.trans hb9⟩
        have z1 : ¬ (100 : Int) < (lF' : Int) := by omega
        by_cases xK : 100 < lK'
        · have z2 : (100 : Int) < (lK' : Int) := by omega
          go_wp2_with (go_at_call 7; refine (awake_snap _).mono ?_; rintro e w' ⟨rfl, hb9⟩)
          go_ret
          exact ⟨rfl, HR4.out.2.trans hb9⟩
        have z2 : ¬ (100 : Int) < (lK' : Int) := by omega
        have HSK : Hid S := Lib.hid (by
          by_cases h0 : k = 0
          · exact HSS3.out h0 ⟨by rw [← HOK.out.2.1]; omega, by rw [← HOK.out.2.2]; omega⟩
          · exact Classical.byContradiction fun h => h0 (HR.out.2.2.2.1 h))
        have HXX := Lib.hid (And.intro xF xK)
        clear xF xK HSS3
        by_cases hk0 : k = 0
        case' pos =>
          have z3 : ¬ (0 : Int) < (k : Int) := by omega
          have HWE : Hid (Well 24100 M (6 * k + 1) ∧ tot M.fs ≤ k * 24100) := Lib.hid ⟨well_more (HR.out.2.2.1 HSK.out).1 (by omega), (HR.out.2.2.1 HSK.out).2⟩
          have HBE := Lib.hid HR4.out.1
          have HGE := Lib.hid HR4.out.2
          have HK0 := Lib.hid hk0
          clear HCE HOK hk0 HXX
          go_wp2_with fail
          obtain ⟨ME, rfl⟩ : ∃ ME, ME = M := ⟨_, rfl⟩
          obtain ⟨wE, rfl⟩ : ∃ wE, wE = w4 := ⟨_, rfl⟩
          clear d0 d1 d2 d3 d4 z1 z2 z3 h4
        case' neg =>
          have z3 : (0 : Int) < (k : Int) := by omega
          have HWM := Lib.hid (HR.out.2.2.1 HSK.out)
          have HLM := Lib.hid (lim_tot HWM.out.1 (by have := HN2.out.2.1; omega))
          have hfX : xzs ≠ [] → ∀ a n c, Value.slice xaF xzs.length xcF = .slice (some a) n c → a.block < N := fun hz a n c e => by
            have := reads_low HOK.out.1.rF (by intro h; exact hz (List.map_eq_nil_iff.1 h)) a n c e
            rw [HNN.out]; exact this
          have hkX : xks ≠ [] → ∀ a n c, Value.slice xaK xks.length xcK = .slice (some a) n c → a.block < N := fun hz a n c e => by
            have := reads_low HOK.out.1.rK (by intro h; exact hz (List.map_eq_nil_iff.1 h)) a n c e
            rw [HNN.out]; exact this
          have R1 := code_restart HR4.out.1 HLM.out xc xcr xdn _ _ xzs xks (HOK.out.1.rF.later HR4.out.2) (HOK.out.1.rK.later HR4.out.2) hfX hkX (by have := HXX.out.1; have := HOK.out.2.1; omega) (by have := HXX.out.2; have := HOK.out.2.2; omega)
          have HFX := Lib.hid (And.intro hfX hkX)
          rw [← HOK.out.2.1, ← HOK.out.2.2] at R1
          unfold theDisk at R1
          clear hfX hkX hk0
          go_wp2_with fail
          refine R1.mono ?_
          rintro e w5 ⟨rfl, hBo, hst⟩
          have hg5 : Grow w w5 := Below.trans HR4.out.2 (by rw [← HNN.out]; exact hst.below)
          have R2 := ref_restart_both hBo HLM.out xc xcr xdn _ _ xzs xks (HOK.out.1.rF.later hg5) (HOK.out.1.rK.later hg5) HFX.out.1 HFX.out.2
          rw [← HOK.out.2.1, ← HOK.out.2.2] at R2
          obtain ⟨f0, f1, f2, f3, f4⟩ := HCE.out w5 hg5
          obtain ⟨ME, hME⟩ : ∃ ME, ME = M.restart xc xcr xdn xzs xks := ⟨_, rfl⟩
          rw [← hME] at R2
          have HWE : Hid (Well 24100 ME (6 * k + 1) ∧ tot ME.fs ≤ k * 24100) := Lib.hid (by
            rw [hME]
            exact ⟨well_restart HWM.out.1 HOK.out.1.cap (by have := HXX.out.1; have := HOK.out.2.1; omega) (by have := HXX.out.2; have := HOK.out.2.2; omega), Nat.le_trans (tot_restart _ _ _ _ _ _) HWM.out.2⟩)
          have HG5 := Lib.hid hg5
          clear d0 d1 d2 d3 d4 hBo hst hg5 hME R1
          unfold theRef at R2
          go_wp2_with fail
          refine R2.mono ?_
          rintro e wE ⟨rfl, hBo, hst⟩
          have HGE : Hid (Grow w wE) := Lib.hid (Below.trans HG5.out (by rw [← HNN.out]; exact hst.below))
          have HBE := Lib.hid hBo
          clear f0 f1 f2 f3 f4 hBo hst R2 HCE HG5 HFX HLM HWM HOK HXX
          go_wp2_with fail
          clear z1 z2 z3 h4
      case' inr =>
        have h4 : ¬ (k : Int) < (n2 : Int) := by omega
        have z3 : (0 : Int) < (k : Int) := by have := HN2.out.2.2; omega
        have HSK : Hid S := Lib.hid (Classical.byContradiction fun h => by have := HR.out.2.2.2.1 h; have := HN2.out.2.2; omega)
        have HWE : Hid (Well 24100 M (6 * k + 1) ∧ tot M.fs ≤ k * 24100) := Lib.hid ⟨well_more (HR.out.2.2.1 HSK.out).1 (by omega), (HR.out.2.2.1 HSK.out).2⟩
        have HBE := Lib.hid HR4.out.1
        have HGE := Lib.hid HR4.out.2
        go_wp2_with fail
        obtain ⟨ME, rfl⟩ : ∃ ME, ME = M := ⟨_, rfl⟩
        obtain ⟨wE, rfl⟩ : ∃ wE, wE = w4 := ⟨_, rfl⟩
        clear z3 h4
      all_goals as_aux_lemma =>
        have hk20 : k ≤ 19 := by have := HN2.out.2.1; omega
        have hlen := bytesT_length HBL.out
        have hD0 := HBE.out.new (drew_turn wE 1)
        have hgd : Grow w wE.drew := HGE.out.trans (below_drewN (Below.refl _ wE) 1)
        have S1 := duo_save_code hD0 (HX.out.2.1.later hgd) HBL.out HWE.out.1 (J := 125) (by omega) room8 hlen
        have S2 := fun (w2 : World) (hg2 : Grow w w2) (hD2 : Both (· < N) w2 base b r (saveT ME L).2 ME) => duo_save_ref hD2 (HX.out.2.1.later hg2) HBL.out HWE.out.1 (J := 125) (by omega) room8 hlen
        obtain ⟨k1, hk1⟩ : ∃ k1, k1 = (saveT ME L).1 := ⟨_, rfl⟩
        obtain ⟨M1, hM1⟩ : ∃ M1, M1 = (saveT ME L).2 := ⟨_, rfl⟩
        have hw1 : Well 24100 M1 (6 * (k + 1)) ∧ tot M1.fs ≤ (k + 1) * 24100 := by
          rw [hM1]
          refine ⟨?_, ?_⟩
          · rw [show 6 * (k + 1) = 6 * k + 1 + 5 by omega]
            exact well_saveT HWE.out.1 hlen
          · have := tot_saveT HWE.out.1.up hlen
            have := HWE.out.2
            omega
        rw [← hk1, ← hM1] at S1
        rw [← hM1, ← hk1] at S2
        have HS2 := Lib.hid S2
        have HW1 := Lib.hid hw1
        have HK20 := Lib.hid hk20
        have u0 : ∀ w' : World, Below N wE.drew w' → w'.cell? (aL.add k) = some (.slice aq lL cq) := fun w' hb => below_cell9 hb (p := aL.add k) HX.out.2.2 (grow_cell hgd HX.out.1)
        unfold theDisk at S1
        clear S2 hk1 hM1 hw1 hD0 hgd hk20 hlen
        refine wp_region_mvg (Below N) (Below.refl N) (fun h k => h.trans k) [(0, 5, true), (7, 5, true), (5, 1, false), (6, 1, false), (12, 1, false), (13, 1, true)] (by kernel_rfl) (by kernel_rfl) ?_
        simp only [mvAll, mvSeg, List.drop_succ_cons, List.drop_zero, List.cons_append, List.nil_append, Nat.reduceAdd]
        iterate 10
          refine wpLing_still ?_ (fun w' hG K hK => ?_) (fun K hK => ?_)
          rotate_left
          · have d0 := u0 w' hG
            clear hG
            unfold mvVal
            go_simp
            try exact hK
          go_simp
          refine hK _ ?_
          clear hK K
        clear u0
        refine wpLing_call (fun K hK => ?_)
        unfold mvRun
        go_simp
        simp only [mvUpon]
        refine S1.mono ?_
        rintro e w5 ⟨rfl, hD5, hst⟩
        refine ⟨_, rfl, ?_⟩
        go_simp
        have HG5 : Hid (Grow w w5) := Lib.hid (Below.trans (HGE.out.trans (below_drewN (Below.refl _ wE) 1)) (by rw [← HNN.out]; exact hst.below))
        have HD5 := Lib.hid hD5
        refine hK _ _ hst.below ?_
        clear hK K hD5 hst S1
        refine wpLing_call (fun K hK => ?_)
        unfold mvRun
        go_simp
        simp only [mvUpon]
        refine (num_at k1 w5).mono ?_
        rintro e w6 ⟨rfl, rfl⟩
        refine ⟨_, rfl, ?_⟩
        go_simp
        refine hK _ _ (Below.refl _ _) ?_
        clear hK K
        have S2 := HS2.out w5 HG5.out HD5.out
        unfold theRef at S2
        refine wpLing_call (fun K hK => ?_)
        unfold mvRun
        go_simp
        simp only [mvUpon]
        refine S2.mono ?_
        rintro e w7 ⟨rfl, hD7, hst⟩
        refine ⟨_, rfl, ?_⟩
        go_simp
        have HG7 : Hid (Grow w w7) := Lib.hid (Below.trans HG5.out (by rw [← HNN.out]; exact hst.below))
        have HD7 := Lib.hid hD7
        refine hK _ _ hst.below ?_
        clear hK K hD7 hst S2 HS2 HD5
        iterate 1
          refine wpLing_still ?_ (fun w' hG K hK => ?_) (fun K hK => ?_)
          rotate_left
          · clear hG
            unfold mvVal
            go_simp
            try exact hK
          go_simp
          refine hK _ ?_
          clear hK K
        refine wpLing_nil ?_
        have hlt : (loadP M1).1.length ≤ 1000000 := loadP_length (Nat.le_trans HW1.out.2 (by have := HK20.out; omega))
        have HLF := Lib.hid (And.intro (lim_tot HW1.out.1 (by have := HK20.out; omega)).fs hlt)
        have L1 := duo_load_code HD7.out HLF.out.1 HLF.out.2
        obtain ⟨ke, hke⟩ : ∃ ke, ke = loadE M1 := ⟨_, rfl⟩
        obtain ⟨LM, hLM⟩ : ∃ LM, LM = loadL M1 := ⟨_, rfl⟩
        have HKE := Lib.hid (And.intro hke hLM)
        rw [← hke, ← hLM] at L1
        unfold theDisk at L1
        clear hlt hke hLM
        go_wp2_with fail
        refine L1.mono ?_
        rintro e w8 ⟨am, qm, cm, rfl, hpm, t8⟩
        have L2 := duo_load_ref (HD7.out.new t8) HLF.out.1 HLF.out.2
        rw [← HKE.out.1, ← HKE.out.2] at L2
        unfold theRef at L2
        have H8 := Lib.hid (And.intro hpm t8)
        clear hpm t8 L1
        go_wp2_with fail
        refine L2.mono ?_
        rintro e w9 ⟨an, qn, cn, rfl, hpn, t9⟩
        have PT := same_p_true _ _ qm qn LM w9 (H8.out.1.later (turn_grow8 t9)) hpn
        have t79 : Turn [] w7 w9 := H8.out.2.trans t9
        have H9 := Lib.hid t79
        clear hpn t9 t79 L2
        go_wp2_with fail
        refine PT.mono ?_
        rintro e w10 ⟨rfl, q10, hq10⟩
        have t10 : Turn [] w7 w10 := H9.out.trans (by rw [hq10]; exact drew_turn w9 q10)
        have HN10 : Hid (RunS w w10 S N base b r (k + 1)) := Lib.hid ⟨M1, HD7.out.new t10, HG7.out.trans (turn_grow8 t10), fun _ => HW1.out, fun h => absurd HSK.out h, HLF.out.1⟩
        clear hq10 t10 PT
        go_wp2_with (go_at_call 13; refine (num_at _ _).mono ?_; rintro e w' ⟨rfl, rfl⟩)
        exact ⟨⟨k + 1, by omega, by simp, HN10⟩, by simp [RowKit.intOf]; omega⟩
    · obtain rfl : k = n1 := by omega
      have h3 : ¬ (k : Int) < (k : Int) := by omega
      obtain ⟨M, hb, hg, _, _, hl⟩ := hrel.out
      have SA := same_any_f base b r M wr hb hl
      unfold theDisk theRef at SA
      have HG := Lib.hid hg
      clear hb hg hl hrel
      go_wp2_with fail
      refine SA.mono ?_
      rintro e w4 ⟨rfl, t4⟩
      have HG4 := Lib.hid (HG.out.trans (turn_grow8 t4))
      clear t4 SA
      go_wp2_with (go_at_call 7; refine (awake_snap _).mono ?_; rintro e w' ⟨rfl, hb9⟩)
      go_ret
      exact ⟨rfl, HG4.out.trans hb9⟩

end Go.Proofs.YthglbmnhlnpmkaaGreat
