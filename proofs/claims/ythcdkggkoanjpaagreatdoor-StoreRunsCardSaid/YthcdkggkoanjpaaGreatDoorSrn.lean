/- StoreRuns, walked over what is asked of the code's store. Numbers and types by name. -/
import Derived.Test.YthcdkggkoanjpaaGreatDoorMvz
import Derived.Test.YthcdkggkoanjpaaGreatDoorDre
import Derived.Test.YthcdkggkoanjpaaGreatDoorSrl
namespace Go.Proofs.YthcdkggkoanjpaaGreatDoor
open Go.RowKit Go.Lib
set_option maxRecDepth 100000
set_option maxHeartbeats 16000000 in
theorem runs_store {C : SP} {I : SI} (K : StK C I) (mo : Int) (ap : Option Addr) (a2 : Addr) (n2 c2 : Nat) (P : Nat → PV) (v1 : Value) (n1 : Nat) (LL : List (List Opm)) (v5 : Value) (A : List UInt8) (w : World) (h0 : Plans w ap a2 n2 P) (h1 : Obs w v1 n1 LL) (h5 : Reads w v5 (bv A)) (h5l : A.length ≤ maxLen) (ht : Tab w) :
    Calls Tryz.prog 3 #[.slice ap n2 c2, .int .i64 mo, v1, v5] w fun e w' => e = .returned (.bool true) ∧ Below w.heap.size w w' := by
  obtain ⟨a1, c1, rfl⟩ := h1.shape
  obtain ⟨nA, hnA⟩ : ∃ nA, nA = A.length := ⟨_, rfl⟩
  obtain ⟨a5, c5, rfl⟩ : ∃ ao c, v5 = .slice ao nA c := by obtain ⟨ao, c, rfl, _⟩ := h5; exact ⟨ao, c, by rw [bv_length, hnA]⟩
  rw [← hnA] at h5l
  have hm5 : nA ≤ 9223372036854775807 := by unfold maxLen at h5l; omega
  have H0 := Lib.hid h0
  have H1 := Lib.hid h1
  have H5 := Lib.hid (And.intro h5 hnA)
  have HTB := Lib.hid ht
  have HK := Lib.hid K
  have hC := heavy_wal (.slice a1 n1 c1) n1 LL ap a2 n2 c2 P w h1 h0
  clear h0 h1 h5 ht hnA h5l K
  go_enter Tryz.func3, Tryz.ntmps3
  go_wp2_with fail
  refine hC.mono ?_
  rintro e w1 ⟨g, q, rfl, hw1, hb⟩
  have B1 : Hid (Grow w w1) := Lib.hid (show Grow w w1 by rw [hw1]; exact below_drewN (Below.refl _ w) q)
  clear hC hw1
  cases g with
  | true =>
    clear hb
    go_wp2_with (go_at_call 12; refine (awake_store HK.out _ (HTB.out.later B1.out)).mono ?_; rintro e w' ⟨rfl, hb9⟩)
    go_ret
    exact ⟨rfl, B1.out.trans hb9⟩
  | false =>
  have HL := Lib.hid (hb rfl)
  clear hb
  by_cases x1 : 60 < nA
  · have y1 : (60 : Int) < (nA : Int) := by omega
    go_wp2_with (go_at_call 12; refine (awake_store HK.out _ (HTB.out.later B1.out)).mono ?_; rintro e w' ⟨rfl, hb9⟩)
    go_ret
    exact ⟨rfl, B1.out.trans hb9⟩
  have y1 : ¬ (60 : Int) < (nA : Int) := by omega
  by_cases x2 : n2 = 0
  · subst x2
    go_wp2_with (go_at_call 12; refine (awake_store HK.out _ (HTB.out.later B1.out)).mono ?_; rintro e w' ⟨rfl, hb9⟩)
    go_ret
    exact ⟨rfl, B1.out.trans hb9⟩
  have y2 : (((n2 : Nat) : Int) == 0) = false := by simp; omega
  have x2' : 0 < n2 := by omega
  obtain rfl : ap = some a2 := by
    rcases H0.out.addr with h | ⟨_, h⟩
    · exact h
    · omega
  have HN2 := Lib.hid (And.intro x1 x2')
  have y3 : (0 : Int) < (n2 : Int) := by omega
  have y4 : 0 < n2 := x2'
  clear x1 x2 x2'
  have u0 := (H0.out.at' 0 HN2.out.2).cells
  have hok0 := (H0.out.at' 0 HN2.out.2).ok
  have hlt0 := HL.out.2.2.2 0 HN2.out.2
  rw [Nat.zero_mul, show a2.add 0 = a2 by simp [Addr.add]] at u0
  obtain ⟨P0, hP0⟩ : ∃ P0, P0 = P 0 := ⟨_, rfl⟩
  rw [← hP0] at u0 hok0 hlt0
  obtain ⟨pc, aF, cF, zs, cr, dn, aK, cK, ks⟩ := P0
  simp only [] at u0 hlt0
  obtain ⟨lF, hlF⟩ : ∃ lF, lF = zs.length := ⟨_, rfl⟩
  obtain ⟨lK, hlK⟩ : ∃ lK, lK = ks.length := ⟨_, rfl⟩
  have C1 := fun (w' : World) (hg : Grow w w') => new_cd pc cr dn (.slice aF zs.length cF) (.slice aK ks.length cK) zs ks w' (hok0.rF.later hg) (hok0.rK.later hg) (by have := hlt0.1; omega) (by have := hlt0.2; omega)
  obtain ⟨PB, hPB1, hPB2⟩ := blocks_of (fun q => q < w.heap.size ∨ True) (.slice aF zs.length cF) zs (fun _ _ _ _ _ => .inr trivial)
  have hrefnew := fun (w' : World) (hg : Grow w w') => ref_new_below pc cr dn aF cF zs aK cK ks w w' hok0.rF hok0.rK hg
  have HW1 : Hid (PE 0 0 (MD.new pc cr dn zs ks)) := Lib.hid (pe_new _ _ _ _ _ hok0.cap (by have := hlt0.1; omega) (by have := hlt0.2; omega))
  rw [← hlF, ← hlK] at u0 C1 hrefnew
  obtain ⟨M, hM⟩ : ∃ M, M = MD.new pc cr dn zs ks := ⟨_, rfl⟩
  rw [← hM] at C1 hrefnew HW1
  have u0' : ∀ w', Grow w1.drew w' → _ := fun w' hg => u0 w' (B1.out.trans (Grow.trans (below_drewN (Below.refl _ w1) 1) hg))
  have HC1 := Lib.hid C1
  have HC2 := Lib.hid hrefnew
  clear u0 C1 hrefnew hok0 hlt0 hP0 hPB1 hPB2 hlF hlK hM
  go_wp2_with fail
  refine wp_region_mv [(0, 3, true), (4, 3, true), (3, 1, false), (7, 1, false), (8, 2, true)] (by kernel_rfl) (by kernel_rfl) ?_
  simp only [mvAll, mvSeg, List.drop_succ_cons, List.drop_zero, List.cons_append, List.nil_append, Nat.reduceAdd]
  iterate 6
    refine wpLin_still ?_ (fun w' hG K hK => ?_) (fun K hK => ?_)
    rotate_left
    · obtain ⟨d0, d1, d2, d3, d4⟩ := u0' w' hG
      clear hG
      unfold mvVal
      go_simp
      try exact hK
    go_simp
    refine hK _ ?_
    clear hK K
  clear u0'
  have G1 : Grow w w1.drew := B1.out.trans (below_drewN (Below.refl _ w1) 1)
  refine wpLin_call (fun K hK => ?_)
  unfold mvRun
  go_simp
  simp only [mvUpon]
  refine (HC1.out w1.drew G1).mono ?_
  rintro e w2 ⟨b, Fd, rfl, hCD, t2⟩
  refine ⟨_, rfl, ?_⟩
  go_simp
  refine hK _ _ (turn_grow t2) ?_
  clear hK K
  have HCD := Lib.hid (And.intro hCD t2)
  have HG2 : Hid (Grow w w2) := Lib.hid (G1.trans (turn_grow t2))
  clear hCD t2 G1
  refine wpLin_call (fun K hK => ?_)
  unfold mvRun
  go_simp
  simp only [mvUpon]
  refine (HC2.out w2 HG2.out).mono ?_
  rintro e w3 ⟨r, Fr, G, rfl, hRD, hFr, hG9, t3⟩
  refine ⟨_, rfl, ?_⟩
  go_simp
  refine hK _ _ (turn_grow t3) ?_
  clear hK K
  obtain ⟨N, hN⟩ : ∃ N, N = w.heap.size := ⟨_, rfl⟩
  obtain ⟨base, hbs⟩ : ∃ base, base = w1.drew.heap.size := ⟨_, rfl⟩
  have HB3 : Hid (Both (· < N) w3 base b r M M ∧ Grow w w3) := Lib.hid (by
    have hNb : N ≤ base := by rw [hN, hbs]; exact B1.out.size
    refine ⟨⟨fun q hq => Nat.lt_of_lt_of_le hq (by rw [hN]; exact (HG2.out.trans (turn_grow t3)).size), Fd, Fr, G, by rw [hbs]; exact HCD.out.1.new t3, hRD, fun q hq => ⟨fun hm => ?_, fun hm => ?_, ?_⟩, fun q hq => ?_⟩, HG2.out.trans (turn_grow t3)⟩
    · have := hFr q hm; have := (HCD.out.1.lt q hq).2; omega
    · have := hG9 q hm; have := (HCD.out.1.lt q hq).1; omega
    · have := (HCD.out.1.lt q hq).1
      show ¬ q < N
      omega
    · have := hFr q hq
      have := HG2.out.size
      show ¬ q < N
      omega)
  have HNN := Lib.hid hN
  have HNB : Hid (w.heap.size ≤ base) := Lib.hid (by rw [hbs]; exact B1.out.size)
  clear hRD hFr hG9 t3 HCD HG2 HC1 HC2 hbs hN B1
  iterate 2
    refine wpLin_still ?_ (fun w' hG K hK => ?_) (fun K hK => ?_)
    rotate_left
    · clear hG
      unfold mvVal
      go_simp
      try exact hK
    go_simp
    refine hK _ ?_
    clear hK K
  refine wpLin_nil ?_
  have HDD : Hid (DuoD w w3 base b r M M) := Lib.hid ⟨HB3.out.2, HNB.out, by rw [← HNN.out]; exact HB3.out.1⟩
  clear HB3
  have C1 := duo_sopen2 HK.out mo HDD.out HTB.out (HW1.out.ofit (by decide) (by decide))
  unfold theDisk at C1 ⊢
  unfold theRef
  go_wp2_with fail
  refine C1.mono ?_
  rintro e w4 ⟨aw, rfl, hO⟩
  have C2 := duo_sopen_ref2 HK.out mo hO HW1.out (by decide) (by decide)
  obtain ⟨z, hz⟩ : ∃ z, z = (openS M).e := ⟨_, rfl⟩
  rw [← hz] at C2 ⊢
  clear hz hO C1
  unfold theRef at C2
  go_wp2_with fail
  refine C2.mono ?_
  rintro e w5 ⟨av, rfl, hR, hsame⟩
  obtain ⟨most, hmo⟩ : ∃ m, m = max mo 0 := ⟨_, rfl⟩
  have HMO := Lib.hid hmo
  rw [← hmo] at hR
  have HR1 : Hid (RunS C w w5 base b r most 1 (.pointer aw) (.pointer av)) := Lib.hid hR
  clear hR C2 hmo HDD HW1
  go_wp2_with (go_at_call 17; refine (num_at _ _).mono ?_; rintro e w' ⟨rfl, rfl⟩)
  go_loopw [11, 12, 13, 14, 15, 16, 17] (fun wv ev vv fv nx tt i wl => ∃ k nn t : Nat, k ≤ nA ∧ i = .int .i64 k ∧ nx = .int .i64 nn ∧ tt = .int .i64 t ∧ nn ≤ k + 1 ∧ t ≤ k ∧ Hid (RunS C w wl base b r most (k + 1) wv vv)) (fun _ _ _ _ _ _ i _ => nA - (RowKit.intOf i).toNat)
  case atStart => exact ⟨0, 1, 0, Nat.zero_le _, rfl, rfl, rfl, Nat.le_refl _, Nat.le_refl _, HR1⟩
  case round =>
    obtain ⟨k, nn, t, hk, rfl, rfl, rfl, hnn, htt, hrel⟩ := hrel
    clear HR1
    by_cases h1 : k < nA
    · have h3 : (k : Int) < (nA : Int) := by omega
      have hk60 : k < 60 := by have := HN2.out.1; omega
      obtain ⟨x, hx⟩ : ∃ x : UInt8, A[k]? = some x := ⟨_, List.getElem?_eq_getElem (by have := H5.out.2; omega)⟩
      have hg := hrel.out.grow HK.out
      obtain ⟨aA, ha5, hcA⟩ := reads_cell7 (k := k) (H5.out.1.later hg) (by simp [bv, hx] : (bv A)[k]? = some (.int .u8 (x.toNat : Int)))
      subst ha5
      obtain ⟨y, hy⟩ : ∃ y : Nat, y = x.toNat % 5 := ⟨_, rfl⟩
      have ey : ((x.toNat : Nat) : Int).tmod 5 = (y : Int) := by rw [Int.tmod_eq_emod_of_nonneg (by omega)]; omega
      have ey2 : ((x.toNat : Nat) : Int) % 5 = (y : Int) := by omega
      have e3 : wrap64 ((k : Int) + 1) = ((k + 1 : Nat) : Int) := by rw [wrap64_id _ (by omega)]; omega
      have HGW := Lib.hid (And.intro hg hk60)
      clear hx hy hg hk60
      by_cases y0 : y = 0
      · subst y0
        obtain ⟨M, hPE, hBo⟩ := hrel.out.disks HK.out
        have HBo := Lib.hid (And.intro hPE hBo)
        clear hrel hPE hBo
        by_cases hn2 : nn < n2
        case' pos =>
          have h4 : (nn : Int) < (n2 : Int) := by omega
          have e4 : wrap64 ((nn : Int) + 1) = ((nn + 1 : Nat) : Int) := by rw [wrap64_id _ (by have := HGW.out.2; omega)]; omega
          have hat := H0.out.at' nn hn2
          have hcells := hat.cells
          have hlt := HL.out.2.2.2 nn hn2
          have hok := hat.ok
          obtain ⟨Pn, hPn⟩ : ∃ Pn, Pn = P nn := ⟨_, rfl⟩
          rw [← hPn] at hcells hlt hok
          obtain ⟨xc, xaF, xcF, xzs, xcr, xdn, xaK, xcK, xks⟩ := Pn
          simp only [] at hcells hlt
          have hfX : xzs ≠ [] → ∀ a n c, Value.slice xaF xzs.length xcF = .slice (some a) n c → a.block < w.heap.size := fun hz a n c e => reads_low hok.rF (by intro h; exact hz (List.map_eq_nil_iff.1 h)) a n c e
          have hkX : xks ≠ [] → ∀ a n c, Value.slice xaK xks.length xcK = .slice (some a) n c → a.block < w.heap.size := fun hz a n c e => reads_low hok.rK (by intro h; exact hz (List.map_eq_nil_iff.1 h)) a n c e
          have HLM := well_limW room10 HBo.out.1.well (by have := HGW.out.2; omega)
          have C1 := duod_restart HBo.out.2 HLM xc xcr xdn _ _ xzs xks hok.rF hok.rK hfX hkX hlt.1 (by omega)
          obtain ⟨lF', hlF'⟩ : ∃ lF', lF' = xzs.length := ⟨_, rfl⟩
          obtain ⟨lK', hlK'⟩ : ∃ lK', lK' = xks.length := ⟨_, rfl⟩
          rw [← hlF', ← hlK'] at hcells C1
          obtain ⟨d0, d1, d2, d3, d4⟩ := hcells wr HGW.out.1
          have HCE := Lib.hid hcells
          have HX := Lib.hid (And.intro hok (And.intro hlt (And.intro hfX (And.intro hkX (And.intro HLM (And.intro hlF' hlK'))))))
          clear hok hlt hfX hkX HLM hPn hat hlF' hlK' hcells
          unfold theDisk at C1
          go_wp2_with fail
          refine C1.mono ?_
          rintro e w2 ⟨rfl, hBo⟩
          have C2 := duod_restart_ref hBo HX.out.2.2.2.2.1 xc xcr xdn _ _ xzs xks HX.out.1.rF HX.out.1.rK HX.out.2.2.1 HX.out.2.2.2.1
          rw [← HX.out.2.2.2.2.2.1, ← HX.out.2.2.2.2.2.2] at C2
          obtain ⟨f0, f1, f2, f3, f4⟩ := HCE.out w2 hBo.1
          obtain ⟨ME, hME⟩ : ∃ ME, ME = M.restart xc xcr xdn xzs xks := ⟨_, rfl⟩
          rw [← hME] at C2
          have HWE : Hid (PE (k + 1) 1 ME) := Lib.hid (by rw [hME]; exact pe_restart HBo.out.1 _ _ _ _ _ HX.out.1.cap HX.out.2.1.1 (by have := HX.out.2.1.2; omega))
          clear d0 d1 d2 d3 d4 hBo hME C1 HBo
          unfold theRef at C2
          go_wp2_with fail
          refine C2.mono ?_
          rintro e wE ⟨rfl, hBo⟩
          have HBE := Lib.hid hBo
          clear f0 f1 f2 f3 f4 hBo C2 HX HCE
        case' neg =>
          have h4 : ¬ (nn : Int) < (n2 : Int) := by omega
          have HWE : Hid (PE (k + 1) 1 M) := Lib.hid (by
            obtain ⟨S, B, O, tt, g1, g2, g3⟩ := HBo.out.1
            exact ⟨S, B, O, tt, g1, well_more g2 (by omega), g3⟩)
          have HBE := Lib.hid HBo.out.2
          obtain ⟨ME, rfl⟩ : ∃ ME, ME = M := ⟨_, rfl⟩
          obtain ⟨wE, rfl⟩ : ∃ wE, wE = wr := ⟨_, rfl⟩
          clear HBo
        all_goals as_aux_lemma =>
          have C1 := duo_sopen2 HK.out mo HBE.out HTB.out (HWE.out.ofit (by have := HGW.out.2; omega) (by decide))
          unfold theDisk at C1
          go_wp2_with fail
          refine C1.mono ?_
          rintro e w4 ⟨aw, rfl, hO⟩
          have C2 := duo_sopen_ref2 HK.out mo hO HWE.out (by have := HGW.out.2; omega) (by decide)
          obtain ⟨z, hz⟩ : ∃ z, z = (openS ME).e := ⟨_, rfl⟩
          rw [← hz] at C2 ⊢
          clear hz hO C1
          unfold theRef at C2
          go_wp2_with fail
          refine C2.mono ?_
          rintro e w5 ⟨av, rfl, hR, hsame⟩
          rw [← HMO.out] at hR
          have HR1 : Hid (RunS C w w5 base b r most (k + 1 + 1) (.pointer aw) (.pointer av)) := Lib.hid hR
          clear hR C2 HWE HBE HMO
          rcases HR1.out with ⟨e1, e2, _⟩ | ⟨x, tq, M5, n5, s5, L5, e1, e2, hF5, hD5⟩
          · cases e1
            cases e2
            go_wp2_with (go_at_call 17; refine (num_at _ _).mono ?_; rintro e w' ⟨rfl, rfl⟩)
            have HRX := Lib.hid (HR1.out.new HK.out (drew_turn w5 1))
            clear HR1
            refine wp_region_mv [(0, 12, true)] (by kernel_rfl) (by kernel_rfl) ?_
            simp only [mvAll, mvSeg, List.drop_succ_cons, List.drop_zero, List.cons_append, List.nil_append, Nat.reduceAdd]
            iterate 12
              refine wpLin_still ?_ (fun w' hG K hK => ?_) (fun K hK => ?_)
              rotate_left
              · clear hG
                unfold mvVal
                go_simp
                try exact hK
              go_simp
              refine hK _ ?_
              clear hK K
            refine wpLin_nil ?_
            go_wp2_with fail
            first
              | exact ⟨⟨k + 1, nn + 1, t, by omega, by simp, rfl, rfl, by omega, by omega, HRX⟩, by simp [RowKit.intOf]; omega⟩
              | exact ⟨⟨k + 1, nn, t, by omega, by simp, rfl, rfl, by omega, by omega, HRX⟩, by simp [RowKit.intOf]; omega⟩
          · unfold theSt at e1
            cases e1
            cases e2
            have HD5 := Lib.hid (And.intro hF5 hD5)
            clear hF5 hD5
            go_wp2_with (go_at_call 17; refine (num_at _ _).mono ?_; rintro e w' ⟨rfl, rfl⟩)
            have HDX := Lib.hid (HD5.out.2.new HK.out (drew_turn w5 1))
            obtain ⟨pq, va, vq, vc, hpv, hsee⟩ := duos_see HDX.out
            have AL := duos_all HK.out HDX.out (HD5.out.1.slim (by have := HGW.out.2; omega))
            have HRX := Lib.hid (HR1.out.new HK.out (drew_turn w5 1))
            have HPV := Lib.hid hpv
            clear HR1 HD5 hpv
            unfold theSt at AL
            refine wp_region_mv [(0, 4, true), (5, 4, true), (4, 1, false), (9, 1, false), (10, 2, true)] (by kernel_rfl) (by kernel_rfl) ?_
            simp only [mvAll, mvSeg, List.drop_succ_cons, List.drop_zero, List.cons_append, List.nil_append, Nat.reduceAdd]
            iterate 8
              refine wpLin_still ?_ (fun w' hG K hK => ?_) (fun K hK => ?_)
              rotate_left
              · obtain ⟨d0, d1, d2⟩ := hsee w' hG
                clear hG
                unfold mvVal
                go_simp
                try exact hK
              go_simp
              refine hK _ ?_
              clear hK K
            clear hsee
            refine wpLin_call (fun K hK => ?_)
            unfold mvRun
            go_simp
            simp only [mvUpon]
            refine (AL).mono ?_
            rintro e w6 ⟨a6, q6, c6, rfl, hp6, t6⟩
            refine ⟨_, rfl, ?_⟩
            go_simp
            have PP := pairs_at hp6 (HPV.out.turnO t6 (fun _ _ _ => by simp)) true (by simp)
            have HT6 := Lib.hid t6
            clear hp6 t6 AL
            refine hK _ _ (tg9 HT6.out) ?_
            clear hK K
            refine wpLin_call (fun K hK => ?_)
            unfold mvRun
            go_simp
            simp only [mvUpon]
            refine (PP).mono ?_
            rintro e w7 ⟨rfl, t7⟩
            refine ⟨_, rfl, ?_⟩
            go_simp
            have HRY := Lib.hid (HRX.out.new HK.out (HT6.out.trans t7))
            refine hK _ _ (tg9 t7) ?_
            clear hK K PP t7
            iterate 2
              refine wpLin_still ?_ (fun w' hG K hK => ?_) (fun K hK => ?_)
              rotate_left
              · clear hG
                unfold mvVal
                go_simp
                try exact hK
              go_simp
              refine hK _ ?_
              clear hK K
            refine wpLin_nil ?_
            go_wp2_with fail
            first
              | exact ⟨⟨k + 1, nn + 1, t, by omega, by simp, rfl, rfl, by omega, by omega, HRY⟩, by simp [RowKit.intOf]; omega⟩
              | exact ⟨⟨k + 1, nn, t, by omega, by simp, rfl, rfl, by omega, by omega, HRY⟩, by simp [RowKit.intOf]; omega⟩
      · have z0 : (((y : Nat) : Int) == 0) = false := by simp; omega
        rcases hrel.out with ⟨rfl, rfl, _⟩ | ⟨x, tq, M, n, s, L, rfl, rfl, hF, hD⟩
        · have HRA := Lib.hid hrel.out.more
          clear hrel
          by_cases y1' : y = 1
          · as_aux_lemma =>
            subst y1'
            have HR1 := Lib.hid (HRA.out.new HK.out (drew_turn wr 1))
            clear HRA
            go_wp2_with fail
            refine wp_region_mv [(0, 22, true)] (by kernel_rfl) (by kernel_rfl) ?_
            simp only [mvAll, mvSeg, List.drop_succ_cons, List.drop_zero, List.cons_append, List.nil_append, Nat.reduceAdd]
            iterate 22
              refine wpLin_still ?_ (fun w' hG K hK => ?_) (fun K hK => ?_)
              rotate_left
              · clear hG
                unfold mvVal
                go_simp
                try exact hK
              go_simp
              refine hK _ ?_
              clear hK K
            refine wpLin_nil ?_
            go_wp2_with fail
            have HRX := Lib.hid (HR1.out.new HK.out (drew_turn wr.drew 1))
            clear HR1
            refine wp_region_mv [(0, 12, true)] (by kernel_rfl) (by kernel_rfl) ?_
            simp only [mvAll, mvSeg, List.drop_succ_cons, List.drop_zero, List.cons_append, List.nil_append, Nat.reduceAdd]
            iterate 12
              refine wpLin_still ?_ (fun w' hG K hK => ?_) (fun K hK => ?_)
              rotate_left
              · clear hG
                unfold mvVal
                go_simp
                try exact hK
              go_simp
              refine hK _ ?_
              clear hK K
            refine wpLin_nil ?_
            go_wp2_with fail
            exact ⟨⟨k + 1, nn, t, by omega, by simp, rfl, rfl, by omega, by omega, HRX⟩, by simp [RowKit.intOf]; omega⟩
          · have z1 : (((y : Nat) : Int) == 1) = false := by simp; omega
            go_wp2_with fail
            exact ⟨⟨k + 1, nn, t, by omega, by simp, rfl, rfl, by omega, by omega, HRA⟩, by simp [RowKit.intOf]; omega⟩
        · by_cases y1' : y = 1
          · as_aux_lemma =>
            subst y1'
            have hD0 := hD.new HK.out (drew_turn wr 1)
            have hSl := hF.slim (by have := HGW.out.2; omega)
            have hBy := hF.bytes (by have := HGW.out.2; omega)
            obtain ⟨R, hR⟩ : ∃ R, R = checkS M n s L := ⟨_, rfl⟩
            have hRF : PF (k + 1 + 1) R.M R.n R.s L := by have := pf_check hF (by have := HGW.out.2; omega); rw [checkS_L] at this; rw [hR]; exact this
            have C1 := duos_check HK.out hD0 hSl hF.well (J := 2000) (by have := HGW.out.2; omega) room10 hBy
            have C2 := fun (w2 : World) (hD2 : DuoS C w w2 base b r x tq most R.M R.n R.s L M n s L) => duos_check_ref HK.out hD2 hSl hF.well (J := 2000) (by have := HGW.out.2; omega) room10 hBy
            rw [← hR] at C1 C2
            obtain ⟨z, hz⟩ : ∃ z, z = R.e := ⟨_, rfl⟩
            rw [← hz] at C1 C2
            have HC2 := Lib.hid C2
            have HRR := Lib.hid hRF
            unfold theSt at C1
            clear C2 hR hRF hz hD hD0 hF hSl hBy hrel
            unfold theSt
            go_wp2_with fail
            refine wp_region_mvz (fun _ _ => True) Grow 7 (fun _ => trivial) (fun w => Grow.refl w) (fun _ _ => trivial) (fun h k => Grow.trans h k) (fun _ => trivial) [(0, 4, true), (6, 1, true), (4, 1, false), (5, 1, false), (7, 1, false), (8, 3, true), (12, 7, true), (11, 1, false), (19, 3, true)] (by kernel_rfl) (by kernel_rfl) (by kernel_rfl) ?_
            simp only [mvAll, mvSeg, List.drop_succ_cons, List.drop_zero, List.cons_append, List.nil_append, Nat.reduceAdd]
            iterate 5
              refine wpLza_still (by rfl) ?_ (fun w' hG K hK => ?_) (fun K hK => ?_)
              rotate_left
              · clear hG
                unfold mvVal
                go_simp
                try exact hK
              go_simp
              refine hK _ ?_
              clear hK K
            refine wpLza_call (by rfl) (fun K hK => ?_)
            unfold mvRun
            go_simp
            simp only [mvUpon]
            refine (C1).mono ?_
            rintro e w2 ⟨z', rfl, rfl, hD2⟩
            refine ⟨_, rfl, ?_⟩
            go_simp
            have HD2 := Lib.hid hD2
            clear hD2 C1
            refine hK _ _ trivial ?_
            clear hK K
            refine wpLza_call (by rfl) (fun K hK => ?_)
            unfold mvRun
            go_simp
            simp only [mvUpon]
            refine (num_at _ w2).mono ?_
            rintro e w2x ⟨rfl, rfl⟩
            refine ⟨_, rfl, ?_⟩
            go_simp
            refine hK _ _ trivial ?_
            clear hK K
            refine wpLz_turn (fun K hK => ?_)
            unfold mvRun
            go_simp
            simp only [mvUpon]
            refine (HC2.out w2 HD2.out).mono ?_
            rintro e w3 ⟨z'', rfl, rfl, hD3⟩
            refine ⟨_, rfl, ?_⟩
            go_simp
            have HD3 := Lib.hid hD3
            clear hD3 HC2 HD2
            refine hK _ _ trivial ?_
            clear hK K
            obtain ⟨pq, va, vq, vc, hpv, hsee⟩ := duos_see HD3.out
            have SK := duos_sick HK.out HD3.out
            unfold theSt at SK
            clear hpv
            obtain ⟨sk, hsk⟩ : ∃ sk, sk = R.s := ⟨_, rfl⟩
            rw [← hsk] at hsee SK
            iterate 3
              refine wpLzb_still ?_ (fun w' hG K hK => ?_) (fun K hK => ?_)
              rotate_left
              · clear hG
                unfold mvVal
                go_simp
                try exact hK
              go_simp
              refine hK _ ?_
              clear hK K
            iterate 7
              refine wpLzb_still ?_ (fun w' hG K hK => ?_) (fun K hK => ?_)
              rotate_left
              · obtain ⟨d0, d1, d2⟩ := hsee w' hG
                clear hG
                unfold mvVal
                go_simp
                try exact hK
              go_simp
              refine hK _ ?_
              clear hK K
            clear hsee
            refine wpLzb_call (fun K hK => ?_)
            unfold mvRun
            go_simp
            simp only [mvUpon]
            refine (SK).mono ?_
            rintro e w3x ⟨rfl, ts⟩
            refine ⟨_, rfl, ?_⟩
            go_simp
            have HS3 := Lib.hid ts
            clear SK ts
            refine hK _ _ (tg9 HS3.out) ?_
            clear hK K
            iterate 3
              refine wpLzb_still ?_ (fun w' hG K hK => ?_) (fun K hK => ?_)
              rotate_left
              · clear hG
                unfold mvVal
                go_simp
                try exact hK
              go_simp
              refine hK _ ?_
              clear hK K
            refine wpLz_nil ?_
            go_wp2_with fail
            have HR1 : Hid (RunS C w w3x base b r most (k + 1 + 1) (.pointer (some ⟨x, 0, none⟩)) (.pointer (some ⟨tq, 0, none⟩))) := Lib.hid (.inr ⟨x, tq, _, _, _, _, rfl, rfl, HRR.out, HD3.out.new HK.out HS3.out⟩)
            have HD5 := Lib.hid (And.intro HRR.out (HD3.out.new HK.out HS3.out))
            clear HRR HD3 HS3
            have HDX := Lib.hid (HD5.out.2.new HK.out (drew_turn w3x 1))
            obtain ⟨pq, va, vq, vc, hpv, hsee⟩ := duos_see HDX.out
            have AL := duos_all HK.out HDX.out (HD5.out.1.slim (by have := HGW.out.2; omega))
            have HRX := Lib.hid (HR1.out.new HK.out (drew_turn w3x 1))
            have HPV := Lib.hid hpv
            clear HR1 HD5 hpv
            unfold theSt at AL
            refine wp_region_mv [(0, 4, true), (5, 4, true), (4, 1, false), (9, 1, false), (10, 2, true)] (by kernel_rfl) (by kernel_rfl) ?_
            simp only [mvAll, mvSeg, List.drop_succ_cons, List.drop_zero, List.cons_append, List.nil_append, Nat.reduceAdd]
            iterate 8
              refine wpLin_still ?_ (fun w' hG K hK => ?_) (fun K hK => ?_)
              rotate_left
              · obtain ⟨d0, d1, d2⟩ := hsee w' hG
                clear hG
                unfold mvVal
                go_simp
                try exact hK
              go_simp
              refine hK _ ?_
              clear hK K
            clear hsee
            refine wpLin_call (fun K hK => ?_)
            unfold mvRun
            go_simp
            simp only [mvUpon]
            refine (AL).mono ?_
            rintro e w6 ⟨a6, q6, c6, rfl, hp6, t6⟩
            refine ⟨_, rfl, ?_⟩
            go_simp
            have PP := pairs_at hp6 (HPV.out.turnO t6 (fun _ _ _ => by simp)) true (by simp)
            have HT6 := Lib.hid t6
            clear hp6 t6 AL
            refine hK _ _ (tg9 HT6.out) ?_
            clear hK K
            refine wpLin_call (fun K hK => ?_)
            unfold mvRun
            go_simp
            simp only [mvUpon]
            refine (PP).mono ?_
            rintro e w7 ⟨rfl, t7⟩
            refine ⟨_, rfl, ?_⟩
            go_simp
            have HRY := Lib.hid (HRX.out.new HK.out (HT6.out.trans t7))
            refine hK _ _ (tg9 t7) ?_
            clear hK K PP t7
            iterate 2
              refine wpLin_still ?_ (fun w' hG K hK => ?_) (fun K hK => ?_)
              rotate_left
              · clear hG
                unfold mvVal
                go_simp
                try exact hK
              go_simp
              refine hK _ ?_
              clear hK K
            refine wpLin_nil ?_
            go_wp2_with fail
            exact ⟨⟨k + 1, nn, t, by omega, by simp, rfl, rfl, by omega, by omega, HRY⟩, by simp [RowKit.intOf]; omega⟩
          · have z1 : (((y : Nat) : Int) == 1) = false := by simp; omega
            by_cases htl : t < n1
            · as_aux_lemma =>
              have h6 : ¬ (n1 : Int) ≤ (t : Int) := by omega
              obtain ⟨aL, X, aq, cq, rfl, hL, hcL, hOp⟩ := H1.out.at htl
              obtain ⟨lL, hlL⟩ : ∃ lL, lL = X.length := ⟨_, rfl⟩
              have hm : mild X := HL.out.2.2.1 t X hL
              have hl5 : X.length ≤ 5000 := by have := hm.2; omega
              rw [← hlL] at hcL hOp hl5
              have hD0 := hD.new HK.out (drew_turn wr 1)
              have hFit := hF.sfit (by have := HGW.out.2; omega) hm
              obtain ⟨R, hR⟩ : ∃ R, R = commitS most M n s L X := ⟨_, rfl⟩
              have hRF : PF (k + 1 + 1) R.M R.n R.s R.L := by rw [hR]; exact pf_commit hF (by have := HGW.out.2; omega) hm most
              have C1 := duos_commit HK.out hD0 HTB.out hFit hOp hl5
              have C2 := fun (w2 : World) (hD2 : DuoS C w w2 base b r x tq most R.M R.n R.s R.L M n s L) => duos_commit_ref HK.out hD2 hFit hOp hl5
              rw [← hR] at C1 C2
              obtain ⟨z, hz⟩ : ∃ z, z = R.e := ⟨_, rfl⟩
              rw [← hz] at C1 C2
              have HC2 := Lib.hid C2
              have HRR := Lib.hid hRF
              have hGd : Grow w wr.drew := hD0.grow
              have u0 : ∀ w' : World, (Grow w wr.drew → Grow w w') → w'.cell? (aL.add t) = some (.slice aq lL cq) := fun w' hg => grow_cell (hg hGd) hcL
              have e5 : wrap64 ((t : Int) + 1) = ((t + 1 : Nat) : Int) := by rw [wrap64_id _ (by have := HGW.out.2; omega)]; omega
              have e6 : t < n1 := htl
              unfold theSt at C1
              clear C2 hR hRF hz hD hD0 hF hFit hrel hL hlL hOp hcL hm hl5 hGd
              unfold theSt
              go_wp2_with fail
              refine wp_region_mvz (fun a c : World => Grow w a → Grow w c) Grow 12 (fun _ h => h) (fun w => Grow.refl w) (fun h k g => k (h g)) (fun h k => Grow.trans h k) (fun h g => Grow.trans g h) [(0, 5, true), (7, 5, true), (5, 1, false), (6, 1, false), (12, 1, false), (13, 3, true), (17, 7, true), (16, 1, false), (24, 2, true)] (by kernel_rfl) (by kernel_rfl) (by kernel_rfl) ?_
              simp only [mvAll, mvSeg, List.drop_succ_cons, List.drop_zero, List.cons_append, List.nil_append, Nat.reduceAdd]
              iterate 10
                refine wpLza_still (by rfl) ?_ (fun w' hG K hK => ?_) (fun K hK => ?_)
                rotate_left
                · have d0 := u0 w' hG
                  clear hG
                  unfold mvVal
                  go_simp
                  try exact hK
                go_simp
                refine hK _ ?_
                clear hK K
              refine wpLza_call (by rfl) (fun K hK => ?_)
              unfold mvRun
              go_simp
              simp only [mvUpon]
              refine (C1).mono ?_
              rintro e w2 ⟨z', rfl, rfl, hD2⟩
              refine ⟨_, rfl, ?_⟩
              go_simp
              have HD2 := Lib.hid hD2
              clear hD2 C1
              refine hK _ _ (fun _ => HD2.out.grow) ?_
              clear hK K
              refine wpLza_call (by rfl) (fun K hK => ?_)
              unfold mvRun
              go_simp
              simp only [mvUpon]
              refine (num_at _ w2).mono ?_
              rintro e w2x ⟨rfl, rfl⟩
              refine ⟨_, rfl, ?_⟩
              go_simp
              refine hK _ _ (fun h => h) ?_
              clear hK K
              refine wpLz_turn (fun K hK => ?_)
              unfold mvRun
              go_simp
              simp only [mvUpon]
              refine (HC2.out w2 HD2.out).mono ?_
              rintro e w3 ⟨z'', rfl, rfl, hD3⟩
              refine ⟨_, rfl, ?_⟩
              go_simp
              have HD3 := Lib.hid hD3
              clear hD3 HC2
              refine hK _ _ (fun _ => HD3.out.grow) ?_
              clear hK K
              clear u0 HD2
              obtain ⟨pq, va, vq, vc, hpv, hsee⟩ := duos_see HD3.out
              have SK := duos_sick HK.out HD3.out
              unfold theSt at SK
              clear hpv
              obtain ⟨sk, hsk⟩ : ∃ sk, sk = R.s := ⟨_, rfl⟩
              rw [← hsk] at hsee SK
              iterate 3
                refine wpLzb_still ?_ (fun w' hG K hK => ?_) (fun K hK => ?_)
                rotate_left
                · clear hG
                  unfold mvVal
                  go_simp
                  try exact hK
                go_simp
                refine hK _ ?_
                clear hK K
              iterate 7
                refine wpLzb_still ?_ (fun w' hG K hK => ?_) (fun K hK => ?_)
                rotate_left
                · obtain ⟨d0, d1, d2⟩ := hsee w' hG
                  clear hG
                  unfold mvVal
                  go_simp
                  try exact hK
                go_simp
                refine hK _ ?_
                clear hK K
              clear hsee
              refine wpLzb_call (fun K hK => ?_)
              unfold mvRun
              go_simp
              simp only [mvUpon]
              refine (SK).mono ?_
              rintro e w3x ⟨rfl, ts⟩
              refine ⟨_, rfl, ?_⟩
              go_simp
              have HS3 := Lib.hid ts
              clear SK ts
              refine hK _ _ (tg9 HS3.out) ?_
              clear hK K
              iterate 2
                refine wpLzb_still ?_ (fun w' hG K hK => ?_) (fun K hK => ?_)
                rotate_left
                · clear hG
                  unfold mvVal
                  go_simp
                  try exact hK
                go_simp
                refine hK _ ?_
                clear hK K
              refine wpLz_nil ?_
              go_wp2_with fail
              have HR1 : Hid (RunS C w w3x base b r most (k + 1 + 1) (.pointer (some ⟨x, 0, none⟩)) (.pointer (some ⟨tq, 0, none⟩))) := Lib.hid (.inr ⟨x, tq, _, _, _, _, rfl, rfl, HRR.out, HD3.out.new HK.out HS3.out⟩)
              have HD5 := Lib.hid (And.intro HRR.out (HD3.out.new HK.out HS3.out))
              clear HRR HD3 HS3
              have HDX := Lib.hid (HD5.out.2.new HK.out (drew_turn w3x 1))
              obtain ⟨pq, va, vq, vc, hpv, hsee⟩ := duos_see HDX.out
              have AL := duos_all HK.out HDX.out (HD5.out.1.slim (by have := HGW.out.2; omega))
              have HRX := Lib.hid (HR1.out.new HK.out (drew_turn w3x 1))
              have HPV := Lib.hid hpv
              clear HR1 HD5 hpv
              unfold theSt at AL
              refine wp_region_mv [(0, 4, true), (5, 4, true), (4, 1, false), (9, 1, false), (10, 2, true)] (by kernel_rfl) (by kernel_rfl) ?_
              simp only [mvAll, mvSeg, List.drop_succ_cons, List.drop_zero, List.cons_append, List.nil_append, Nat.reduceAdd]
              iterate 8
                refine wpLin_still ?_ (fun w' hG K hK => ?_) (fun K hK => ?_)
                rotate_left
                · obtain ⟨d0, d1, d2⟩ := hsee w' hG
                  clear hG
                  unfold mvVal
                  go_simp
                  try exact hK
                go_simp
                refine hK _ ?_
                clear hK K
              clear hsee
              refine wpLin_call (fun K hK => ?_)
              unfold mvRun
              go_simp
              simp only [mvUpon]
              refine (AL).mono ?_
              rintro e w6 ⟨a6, q6, c6, rfl, hp6, t6⟩
              refine ⟨_, rfl, ?_⟩
              go_simp
              have PP := pairs_at hp6 (HPV.out.turnO t6 (fun _ _ _ => by simp)) true (by simp)
              have HT6 := Lib.hid t6
              clear hp6 t6 AL
              refine hK _ _ (tg9 HT6.out) ?_
              clear hK K
              refine wpLin_call (fun K hK => ?_)
              unfold mvRun
              go_simp
              simp only [mvUpon]
              refine (PP).mono ?_
              rintro e w7 ⟨rfl, t7⟩
              refine ⟨_, rfl, ?_⟩
              go_simp
              have HRY := Lib.hid (HRX.out.new HK.out (HT6.out.trans t7))
              refine hK _ _ (tg9 t7) ?_
              clear hK K PP t7
              iterate 2
                refine wpLin_still ?_ (fun w' hG K hK => ?_) (fun K hK => ?_)
                rotate_left
                · clear hG
                  unfold mvVal
                  go_simp
                  try exact hK
                go_simp
                refine hK _ ?_
                clear hK K
              refine wpLin_nil ?_
              go_wp2_with fail
              exact ⟨⟨k + 1, nn, t + 1, Nat.succ_le_of_lt h1, by simp, rfl, by first | rw [e5] | rw [Int.natCast_succ] | simp, Nat.le_succ_of_le hnn, Nat.succ_le_succ htt, HRY⟩, meas7 h1⟩
            · have h6 : (n1 : Int) ≤ (t : Int) := by omega
              have HRA := Lib.hid hrel.out.more
              clear hD hF hrel
              unfold theSt at HRA ⊢
              go_wp2_with fail
              exact ⟨⟨k + 1, nn, t, by omega, by simp, rfl, rfl, by omega, by omega, HRA⟩, by simp [RowKit.intOf]; omega⟩
    · as_aux_lemma =>
      obtain rfl : k = nA := by omega
      have h3 : ¬ (k : Int) < (k : Int) := by omega
      obtain ⟨M, hPE, hDD⟩ := hrel.out.disks HK.out
      have SA := same_any_f base b r M wr hDD.2.2 (well_limW room10 hPE.well (by have := HN2.out.1; omega)).fs
      have HG := Lib.hid hDD.1
      clear hrel hPE hDD
      unfold theDisk theRef at SA
      go_wp2_with fail
      refine SA.mono ?_
      rintro e w2 ⟨rfl, t2⟩
      have HG2 : Hid (Grow w w2) := Lib.hid (HG.out.trans (turn_grow t2))
      clear SA t2
      go_wp2_with (go_at_call 12; refine (awake_store HK.out _ (HTB.out.later HG2.out)).mono ?_; rintro e w' ⟨rfl, hb9⟩)
      go_ret
      exact ⟨rfl, HG2.out.trans hb9⟩
end Go.Proofs.YthcdkggkoanjpaaGreatDoor
