/- StorePoints, walked over what is asked of the code's store. Numbers and types by name. -/
import Derived.Test.YthcdkggkoanjpaaGreatDoorDnu
import Derived.Test.YthcdkggkoanjpaaGreatDoorSrf
namespace Go.Proofs.YthcdkggkoanjpaaGreatDoor
open Go.RowKit Go.Lib
set_option maxRecDepth 100000
set_option maxHeartbeats 8000000 in
theorem points_store {C : SP} {I : SI} (K : StK C I) (v1 : Value) (n1 : Nat) (LL : List (List Opm)) (v2 : Value) (n2 : Nat) (L2 : List (List Opm)) (w : World) (h1 : Obs w v1 n1 LL) (h2 : Obs w v2 n2 L2) (ht : Tab w) :
    Calls Tryz.prog 9 #[v1, v2] w fun e w' => e = .returned (.bool true) ∧ Below w.heap.size w w' := by
  obtain ⟨a1, c1, rfl⟩ := h1.shape
  obtain ⟨a2, c2, rfl⟩ := h2.shape
  have hn1 := h1.2.1
  have hn2 := h2.2.1
  unfold maxLen at hn1 hn2
  have H1 := Lib.hid h1
  have H2 := Lib.hid h2
  have HT := Lib.hid ht
  have HK := Lib.hid K
  have hC := heavy_wal (.slice a1 n1 c1) n1 LL none ⟨0, 0, none⟩ 0 0 (fun _ => ⟨0, none, 0, [], 0, false, none, 0, []⟩) w h1 ⟨.inr ⟨rfl, rfl⟩, Nat.zero_le _, fun i hi => absurd hi (Nat.not_lt_zero _)⟩
  clear h1 h2 ht K
  go_enter Tryz.func9, Tryz.ntmps9
  go_wp2_with fail
  refine hC.mono ?_
  rintro e w1 ⟨g, q, rfl, hw1, hb⟩
  have B1 : Hid (Grow w w1) := Lib.hid (show Grow w w1 by rw [hw1]; exact below_drewN (Below.refl _ w) q)
  clear hC hw1
  cases g with
  | true =>
    clear hb
    go_wp2_with (go_at_call 12; refine (awake_store HK.out _ (HT.out.later B1.out)).mono ?_; rintro e w' ⟨rfl, hb9⟩)
    go_ret
    exact ⟨rfl, B1.out.trans hb9⟩
  | false =>
  have HL := Lib.hid (hb rfl)
  have hC2 := heavy_wal (.slice a2 n2 c2) n2 L2 none ⟨0, 0, none⟩ 0 0 (fun _ => ⟨0, none, 0, [], 0, false, none, 0, []⟩) w1 (H2.out.later B1.out) ⟨.inr ⟨rfl, rfl⟩, Nat.zero_le _, fun i hi => absurd hi (Nat.not_lt_zero _)⟩
  clear hb
  go_wp2_with fail
  refine hC2.mono ?_
  rintro e w2 ⟨g, q, rfl, hw2, hb⟩
  have B2 : Hid (Grow w w2) := Lib.hid (show Grow w w2 by rw [hw2]; exact below_drewN B1.out q)
  clear hC2 hw2
  cases g with
  | true =>
    clear hb
    go_wp2_with (go_at_call 12; refine (awake_store HK.out _ (HT.out.later B2.out)).mono ?_; rintro e w' ⟨rfl, hb9⟩)
    go_ret
    exact ⟨rfl, B2.out.trans hb9⟩
  | false =>
  have HL2 := Lib.hid (hb rfl)
  clear hb
  have N0 := new_cd 1073741824 0 false (.slice none 0 0) (.slice none 0 0) [] [] w2 (Reads.nil w2) (Reads.nil w2) (by simp) (by simp)
  have HN := Lib.hid (ps_new 1073741824 (by decide))
  obtain ⟨M0, e0⟩ : ∃ M, M = MD.new 1073741824 0 false [] [] := ⟨_, rfl⟩
  rw [← e0] at N0 HN
  clear e0
  go_wp2_with fail
  refine N0.mono ?_
  rintro e w3 ⟨b, F2, rfl, hc2, t2⟩
  have hs2 : SesD w w3 w2.heap.size b M0 F2 := ⟨hc2, B2.out.trans (tg9 t2), B2.out.size⟩
  obtain ⟨base, hbase⟩ : ∃ n, n = w2.heap.size := ⟨_, rfl⟩
  rw [← hbase] at hs2
  have O2 := sess_open HK.out 1073741824 hs2 HT.out HN.out.2.2.2.2.2 HN.out.1
  unfold theDisk theSt at O2
  unfold theDisk
  clear hc2 t2 hs2 N0 hbase
  go_wp2_with fail
  refine O2.mono ?_
  rintro e w4 ⟨x, rfl, F3, hs3, k3, t3⟩
  have H3 : Hid (CFR C w w4 base b x (max 1073741824 0) 0 0 (.slice none 0 0) 0) := Lib.hid (by
    rw [HN.out.2.2.2.1] at hs3
    exact ⟨[], F3, ⟨_, _, [], [], [], HN.out.2.2.2.2.1, HN.out.2.1, HN.out.2.2.1, Meas.nil, Int.le_max_left _ _, hs3⟩, PRow.nil _ _⟩)
  clear hs3 k3 t3 O2 HN
  obtain ⟨most, hmo⟩ : ∃ m, m = max (1073741824 : Int) 0 := ⟨_, rfl⟩
  rw [← hmo] at H3
  clear hmo
  go_wp2_with (go_at_call 17; refine (num_at _ _).mono ?_; rintro e w' ⟨rfl, rfl⟩)
  go_loopw [8, 9] (fun sv iv wr => ∃ (k sq c : Nat) (ao : Option Addr), k ≤ n1 ∧ iv = .int .i64 k ∧ sv = .slice ao sq c ∧ Hid (CFR C w wr base b x most 0 (k) (.slice ao sq c) sq))
    (fun _ i _ => n1 - (RowKit.intOf i).toNat)
  case atStart => exact ⟨0, _, _, _, Nat.zero_le _, rfl, rfl, H3⟩
  case round =>
    clear H3
    obtain ⟨k, sq, cs, asv, hk, rfl, rfl, hC⟩ := hrel
    by_cases hlt : k < n1
    · have h3 : (k : Int) < (n1 : Int) := by omega
      obtain ⟨a, X, ap, cp, rfl, hX, cx, hr⟩ := H1.out.at hlt
      have hm : mild X := HL.out.2.2.1 k X hX
      have hk80 : k ≤ 80 := by have := HL.out.1; omega
      obtain ⟨L, hLl, CM⟩ := cf_commit HK.out hC.out hk80 HT.out (vo := .slice ap X.length cp) hr hm
      have hgw := hC.out.grow
      have cxs : ∀ w', Grow w w' → w'.cell? (a.add k) = some (.slice ap X.length cp) := fun w' hg => grow_cell hg cx
      have HR := Lib.hid (And.intro hr (And.intro hm (And.intro hX (And.intro hLl hk80))))
      have HCX := Lib.hid cxs
      obtain ⟨xl, hxl2⟩ : ∃ xl, xl = X.length := ⟨_, rfl⟩
      have cx' := cxs _ hgw
      rw [← hxl2] at cx' CM
      have HXL := Lib.hid hxl2
      unfold theSt at CM
      clear cx hr hm hX hLl hgw cxs hxl2 hC hk80
      go_wp2_with fail
      refine CM.mono ?_
      rintro e w4 ⟨k4, rfl, hg4, hq0, hq1⟩
      have cx4 : w4.cell? (a.add k) = some (.slice ap xl cp) := by rw [HXL.out]; exact HCX.out w4 hg4
      have H4 := Lib.hid (And.intro hg4 (And.intro hq0 hq1))
      clear hg4 hq0 hq1 CM cx'
      by_cases he : k4 = 0
      · subst he
        have HQ0 := Lib.hid (H4.out.2.1 rfl)
        have AP := ref_apply (.slice asv sq cs) (.slice ap xl cp) sq xl L X w4 HQ0.out.1 (by rw [HXL.out]; exact HR.out.1.later H4.out.1) (by
          have h1 := HR.out.2.2.2
          have h2 := HQ0.out.1.1
          omega) (by have := HR.out.2.1.2; have := HXL.out; omega)
        go_wp2_with (first | (go_at_call 17; refine (num_at _ _).mono ?_; rintro e w' ⟨rfl, rfl⟩) | (go_at_call 28; refine AP.mono ?_; rintro e w5 ⟨a5, q5, c5, rfl, hq5, ho5, hb5⟩; have H7 := Lib.hid (HQ0.out.2 _ _ _ _ ho5 hq5 hb5); clear hq5 ho5 hb5))
        exact ⟨⟨k + 1, q5, c5, a5, by omega, by go_num, rfl, H7⟩, by simp [RowKit.intOf]; omega⟩
      · have H7 := Lib.hid (H4.out.2.2 he)
        go_wp2_with (go_at_call 17; refine (num_at _ _).mono ?_; rintro e w' ⟨rfl, rfl⟩)
        exact ⟨⟨k + 1, sq, cs, asv, by omega, by go_num, rfl, H7⟩, by simp [RowKit.intOf]; omega⟩
    · have h3 : ¬ (k : Int) < (n1 : Int) := by omega
      obtain rfl : k = n1 := by omega
      have CK := cf_check HK.out hC.out (by have := HL.out.1; omega)
      unfold theSt at CK
      clear hC
      go_wp2_with fail
      refine CK.mono ?_
      rintro e w5 ⟨k5, rfl, rfl, h5⟩
      have RL := cf_log HK.out h5 (by have := HL.out.1; omega)
      unfold theDisk at RL
      clear h5 CK
      go_wp2_with fail
      refine RL.mono ?_
      rintro e w6 ⟨a6, c6, rfl, h6⟩
      have RS := cf_snap HK.out h6 (by have := HL.out.1; omega)
      unfold theDisk at RS
      clear h6 RL
      go_wp2_with fail
      refine RS.mono ?_
      rintro e w7 ⟨a7, n7, c7, rfl, h7⟩
      have PA := cf_all HK.out h7.cfr (by have := HL.out.1; omega)
      unfold theSt at PA
      clear h7 RS
      go_wp2_with (first | (go_at_call 17; refine (num_at _ _).mono ?_; rintro e w' ⟨rfl, rfl⟩) | (go_at_call 26; refine PA.mono ?_; rintro e w8 ⟨a8, q8, c8, rfl, PP⟩) | (go_at_call 25; refine PP.mono ?_; rintro e w9 ⟨rfl, h9⟩; have H9 := Lib.hid h9; clear h9))
      obtain ⟨k1, hk1⟩ : ∃ k1, k1 = k + 1 := ⟨_, rfl⟩
      rw [← hk1] at H9
      have HK1 : Hid (k1 ≤ 41) := Lib.hid (by have := HL.out.1; omega)
      clear hk1 PA
      go_loopw [8, 15] (fun sv iv wr => ∃ (k sq c : Nat) (ao : Option Addr), k ≤ n2 ∧ iv = .int .i64 k ∧ sv = .slice ao sq c ∧ Hid (CFR C w wr base b x most k1 (k1 + k) (.slice ao sq c) sq))
        (fun _ i _ => n2 - (RowKit.intOf i).toNat)
      case atStart => exact ⟨0, _, _, _, Nat.zero_le _, rfl, rfl, H9⟩
      case round =>
        clear H9
        obtain ⟨k, sq, cs, asv, hk, rfl, rfl, hC⟩ := hrel
        by_cases hlt : k < n2
        · have h3 : (k : Int) < (n2 : Int) := by omega
          obtain ⟨a, X, ap, cp, rfl, hX, cx, hr⟩ := H2.out.at hlt
          have hm : mild X := HL2.out.2.2.1 k X hX
          have hk80 : k1 + k ≤ 80 := by have := HL2.out.1; have := HK1.out; omega
          obtain ⟨L, hLl, CM⟩ := cf_commit HK.out hC.out hk80 HT.out (vo := .slice ap X.length cp) hr hm
          have hgw := hC.out.grow
          have cxs : ∀ w', Grow w w' → w'.cell? (a.add k) = some (.slice ap X.length cp) := fun w' hg => grow_cell hg cx
          have HR := Lib.hid (And.intro hr (And.intro hm (And.intro hX (And.intro hLl hk80))))
          have HCX := Lib.hid cxs
          obtain ⟨xl, hxl2⟩ : ∃ xl, xl = X.length := ⟨_, rfl⟩
          have cx' := cxs _ hgw
          rw [← hxl2] at cx' CM
          have HXL := Lib.hid hxl2
          unfold theSt at CM
          clear cx hr hm hX hLl hgw cxs hxl2 hC hk80
          go_wp2_with fail
          refine CM.mono ?_
          rintro e w4 ⟨k4, rfl, hg4, hq0, hq1⟩
          have cx4 : w4.cell? (a.add k) = some (.slice ap xl cp) := by rw [HXL.out]; exact HCX.out w4 hg4
          have H4 := Lib.hid (And.intro hg4 (And.intro hq0 hq1))
          clear hg4 hq0 hq1 CM cx'
          by_cases he : k4 = 0
          · subst he
            have HQ0 := Lib.hid (H4.out.2.1 rfl)
            have AP := ref_apply (.slice asv sq cs) (.slice ap xl cp) sq xl L X w4 HQ0.out.1 (by rw [HXL.out]; exact HR.out.1.later H4.out.1) (by
              have h1 := HR.out.2.2.2
              have h2 := HQ0.out.1.1
              omega) (by have := HR.out.2.1.2; have := HXL.out; omega)
            go_wp2_with (first | (go_at_call 17; refine (num_at _ _).mono ?_; rintro e w' ⟨rfl, rfl⟩) | (go_at_call 28; refine AP.mono ?_; rintro e w5 ⟨a5, q5, c5, rfl, hq5, ho5, hb5⟩; have H7 := Lib.hid (HQ0.out.2 _ _ _ _ ho5 hq5 hb5); clear hq5 ho5 hb5))
            exact ⟨⟨k + 1, q5, c5, a5, by omega, by go_num, rfl, H7⟩, by simp [RowKit.intOf]; omega⟩
          · have H7 := Lib.hid (H4.out.2.2 he)
            go_wp2_with (go_at_call 17; refine (num_at _ _).mono ?_; rintro e w' ⟨rfl, rfl⟩)
            exact ⟨⟨k + 1, sq, cs, asv, by omega, by go_num, rfl, H7⟩, by simp [RowKit.intOf]; omega⟩
        · have h3 : ¬ (k : Int) < (n2 : Int) := by omega
          obtain rfl : k = n2 := by omega
          have RS := cf_restart HK.out hC.out (by have := HL2.out.1; have := HK1.out; omega) (by have := HK1.out; omega) 1073741824 (by decide)
          unfold theDisk at RS
          clear hC
          go_wp2_with fail
          refine RS.mono ?_
          rintro e w5 ⟨rfl, h5⟩
          have O4 := rdy_open HK.out h5 HT.out 5
          unfold theDisk theSt at O4
          clear h5 RS
          go_wp2_with fail
          refine O4.mono ?_
          rintro e w6 ⟨y, rfl, h6⟩
          have PA := opd_all HK.out h6
          unfold theSt at PA
          clear h6 O4
          go_wp2_with (first | (go_at_call 17; refine (num_at _ _).mono ?_; rintro e w' ⟨rfl, rfl⟩) | (go_at_call 26; refine PA.mono ?_; rintro e w8 ⟨a8, q8, c8, rfl, PP⟩) | (go_at_call 25; refine PP.mono ?_; rintro e w9 ⟨rfl, h9⟩; have H9 := Lib.hid h9; clear h9) | (go_at_call 12; refine (awake_store HK.out _ (HT.out.later H9.out)).mono ?_; rintro e w' ⟨rfl, hb9⟩))
          go_ret
          exact ⟨rfl, H9.out.trans hb9⟩
end Go.Proofs.YthcdkggkoanjpaaGreatDoor
