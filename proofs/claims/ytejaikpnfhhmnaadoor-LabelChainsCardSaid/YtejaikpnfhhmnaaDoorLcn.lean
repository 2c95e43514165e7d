/- LabelChains, walked. Numbers and types by name. -/
import Derived.Test.YtejaikpnfhhmnaaDoorLro
import Derived.Test.YtejaikpnfhhmnaaDoorLch
import Derived.Test.YtejaikpnfhhmnaaDoorLrt
namespace Go.Proofs.YtejaikpnfhhmnaaDoor
open Go.RowKit Go.Lib
set_option maxRecDepth 100000

theorem tx_app8 (a b : List UInt8) : tx a ++ tx b = tx (a ++ b) := by
  unfold tx
  apply ByteArray.ext
  simp
theorem conv_name {W : World} {b : Nat} {z : Int} (i : Nat) (hi : i < 20) (hz : z = 97 + (i : Int)) (h : W.cell? ⟨b, 0, none⟩ = some (.int .u8 108)) (h2 : W.cell? ⟨b, 1, none⟩ = some (.int .u8 z)) : (convert 43 9 (.slice (some ⟨b, 0, none⟩) 2 2)).run Tryd.prog W = .ok (.string (tx (nameC i))) W :=
  conv_two 108 (UInt8.ofNat (97 + i)) (by rw [UInt8.toNat_ofNat']; omega) h h2

theorem chT_len : ∀ j, (chT j).length ≤ 7 + 5 * j
  | 0 => by decide
  | 1 => by decide
  | j + 2 => by
    have := chT_len (j + 1)
    unfold chT
    simp only [List.length_append, List.length_cons, List.length_nil, nameC]
    omega
theorem lit_two2 (w : World) (p : Pr8) : Hid (∀ A B, Cells (((w.alloc A).alloc B).alloc (.cells #[.string (tx p.1), .string (tx p.2), .int .i64 0] 50)) (.slice (some ⟨w.heap.size + 1 + 1, 0, none⟩) 1 1) 3 1 (pcs p)) := (lit_two w p)
theorem LatV.tabs {lo : Nat} {w : World} {L : List (List UInt8)} {f : Nat → Nat → Bool} {aN aL aJ aM : Option Addr} {n n1 n2 n3 cN cL cJ cM : Nat} {x y : Value} (h : LatV lo w L f (.agg #[.slice aN n cN, .slice aL n1 cL, .slice aJ n2 cJ, .slice aM n3 cM, x, y])) :
    n = L.length ∧ TabV w (.slice aL n cL) n n (bB f) ∧ TabV w (.slice aJ n cJ) n n (bI (joinI n f)) ∧ TabV w (.slice aM n cM) n n (bI (joinI n (flipB f))) := by
  obtain ⟨bN, dN, bL, dL, bJ, dJ, bM, dM, m, hm, e, _, h2, h3, h4⟩ := h
  simp only [Value.agg.injEq, Array.mk.injEq, List.cons.injEq, Value.slice.injEq, and_true] at e
  obtain ⟨⟨rfl, rfl, rfl⟩, ⟨rfl, rfl, rfl⟩, ⟨rfl, _, rfl⟩, ⟨rfl, _, rfl⟩, _, _⟩ := e
  exact ⟨hm, h2.toV, h3.toV, h4.toV⟩
set_option maxRecDepth 10000000 in
set_option maxHeartbeats 8000000 in
theorem chains_walk (K : LabK) (z x y : Nat) (hz : z < 256) (hx : x < 256) (hy : y < 256) (w : World) (ht : SgW w) : Calls Tryd.prog 8 #[.int .u8 (z : Int), .int .u8 (x : Int), .int .u8 (y : Int)] w fun e w' => e = .returned (.bool true) ∧ Below w.heap.size w w' := by
  obtain ⟨k, hk⟩ : ∃ k, 2 + z % 11 = k := ⟨_, rfl⟩
  have hkI : (2 : Int) + (z : Int) % 11 = (k : Int) := by omega
  have hk2 : 2 ≤ k ∧ k < 13 := by omega
  have H := Lib.hid ht
  have HK := Lib.hid K
  clear hk ht K
  go_enter Tryd.func8, Tryd.ntmps8
  go_wp2_with fail
  clear hkI
  go_loopw [8, 9, 10] (fun s r i wr => ∃ j m : Nat, j ≤ k ∧ i = .int .i64 j ∧ m = j - 1 ∧ s = .string (tx (chT j)) ∧ Hid (OwnPr wr w.heap.size r m (rowQ m) ∧ Grow w wr)) (fun _ _ i _ => k - (RowKit.intOf i).toNat)
  case atStart => exact ⟨0, 0, Nat.zero_le _, rfl, rfl, rfl, Lib.hid ⟨OwnPr.nil _ _, Grow.refl w⟩⟩
  case round =>
    obtain ⟨j, m, h1, rfl, hm, rfl, hs⟩ := hrel
    by_cases h5 : j < k
    · have h6 : (j : Int) < (k : Int) := by omega
      have cv1 : ∀ (W : World) (b : Nat), W.cell? ⟨b, 0, none⟩ = some (.int .u8 108) → W.cell? ⟨b, 1, none⟩ = some (.int .u8 (97 + (j : Int))) → (convert 43 9 (.slice (some ⟨b, 0, none⟩) 2 2)).run Tryd.prog W = .ok (.string (tx (nameC j))) W := fun W b h h2 => conv_name j (by omega) rfl h h2
      obtain ⟨bo, d, rfl⟩ := hs.out.1.shape
      cases j with
      | zero =>
        have hm0 : m = 0 := hm
        subst hm0
        have es : tx (chT 0) ++ tx (nameC 0) = tx (chT 1) := tx_app8 _ _
        have z0 : (tx (chT 0)).size ≤ 100 := by rw [tx_size]; decide
        have z1 : (tx (nameC 0)).size ≤ 2 := by rw [tx_size]; decide
        obtain ⟨s0, hs0⟩ : ∃ s, chT 0 = s := ⟨_, rfl⟩
        obtain ⟨s1, hs1⟩ : ∃ s, chT 1 = s := ⟨_, rfl⟩
        obtain ⟨n0, hn0⟩ : ∃ s, nameC 0 = s := ⟨_, rfl⟩
        rw [hs0, hs1, hn0] at es
        rw [hs0] at z0
        rw [hn0] at z1
        rw [hs0]
        rw [hn0] at cv1
        have HE := Lib.hid hs1
        have HS := Lib.hid (And.intro (hs.out.1.later (growA8 (.cells #[.int .u8 108, .int .u8 97] 5) (Grow.refl wr))) (growA8 (.cells #[.int .u8 108, .int .u8 97] 5) hs.out.2))
        clear hs0 hs1 hn0 hm hs
        go_wp2_with fail
        exact ⟨⟨1, 0, by omega, rfl, rfl, by rw [HE.out], HS⟩, by simp [RowKit.intOf]; omega⟩
      | succ t =>
        obtain rfl : m = t := hm
        have es : tx (chT (m + 1)) ++ (⟨#[32, 60, 32]⟩ : ByteArray) = tx (chT (m + 1) ++ [32, 60, 32]) := tx_app8 _ [32, 60, 32]
        have es2 : tx (chT (m + 1) ++ [32, 60, 32]) ++ tx (nameC (m + 1)) = tx (chT (m + 2)) := tx_app8 _ _
        have z0 : (tx (chT (m + 1))).size ≤ 100 := by rw [tx_size]; have := chT_len (m + 1); omega
        have z2 : (tx (chT (m + 1) ++ [32, 60, 32])).size ≤ 103 := by rw [tx_size, List.length_append]; rw [tx_size] at z0; simp; omega
        have z1 : (tx (nameC (m + 1))).size ≤ 2 := by rw [tx_size]; exact Nat.le_refl _
        have cv2 : ∀ (W : World) (b : Nat), W.cell? ⟨b, 0, none⟩ = some (.int .u8 108) → W.cell? ⟨b, 1, none⟩ = some (.int .u8 (97 + (m : Int))) → (convert 43 9 (.slice (some ⟨b, 0, none⟩) 2 2)).run Tryd.prog W = .ok (.string (tx (nameC m))) W := fun W b h h2 => conv_name m (by omega) rfl h h2
        have hr := rowQ_succ m
        obtain ⟨s0, hs0⟩ : ∃ s, chT (m + 1) = s := ⟨_, rfl⟩
        obtain ⟨s1, hs1⟩ : ∃ s, chT (m + 2) = s := ⟨_, rfl⟩
        obtain ⟨n0, hn0⟩ : ∃ s, nameC (m + 1) = s := ⟨_, rfl⟩
        obtain ⟨n1, hn1⟩ : ∃ s, nameC m = s := ⟨_, rfl⟩
        rw [hs0] at es es2 z0 z2
        obtain ⟨s2, hs2⟩ : ∃ s, s0 ++ [32, 60, 32] = s := ⟨_, rfl⟩
        rw [hs2] at es es2 z2
        rw [hn0, hs1] at es2
        rw [hn0] at z1
        rw [hs0]
        rw [hn0] at cv1
        rw [hn1] at cv2
        rw [hn0, hn1] at hr
        have HE := Lib.hid (And.intro hs1 hr)
        obtain ⟨hmM, cs, hcs, hpa⟩ := hs.out.1
        have HGR := Lib.hid hs.out.2
        have HO : Hid (∀ W, Grow wr W → W.ownsRow w.heap.size 50 3 (.slice bo m d) m cs) := Lib.hid fun W hg => own_chg (F := []) hcs (Chg.of_below hg) (by simp)
        have HB : Hid (∀ W, Grow wr W → w.heap.size ≤ W.heap.size) := Lib.hid fun W hg => by have := HGR.out.size; have := hg.size; omega
        have FK : Hid (m + 1 ≤ 1000000) := Lib.hid (by omega)
        have HT := Lib.hid (And.intro hmM hpa)
        have HL := lit_two2 wr (n1, n0)
        have hjm : ((m : Int) + 1) - 1 = (m : Int) := by omega
        clear hs hcs hmM hpa hs0 hs1 hn0 hn1 hr hs2
        go_wp2_with (at_builtin; refine wpList_append_gen elemPrm8 rfl (.tmp 37) (.tmp 46) rfl w.heap.size _ m cs rfl (HO.out _ (by repeat' (first | exact Grow.refl _ | refine growA _ ?_ | refine growD ?_))) _ 1 (pcs (n1, n0)) rfl (HL.out _ _) (pcs_one _) (m + 1) rfl FK (by decide) (HB.out _ (by repeat' (first | exact Grow.refl _ | refine growA _ ?_ | refine growD ?_))) ?_; intro ao6 c6 w6 hown6 hb6 hg6 ho6; have HN : Hid (OwnPr w6 w.heap.size (.slice ao6 (m + 1) c6) (m + 1) (rowQ (m + 1)) ∧ Grow w w6) := Lib.hid ⟨⟨by rw [rowQ_len], _, hown6, by rw [HE.out.2]; exact Parts.snoc rfl (pcs_prm _) HT.out.2⟩, Below.trans (by repeat' (first | exact HGR.out | refine growA _ ?_ | refine growD ?_)) hb6⟩; clear hown6 hb6 hg6 ho6)
        exact ⟨⟨m + 2, m + 1, by omega, by go_num, rfl, by rw [HE.out.1], HN⟩, by simp [RowKit.intOf]; omega⟩
    · have h6 : ¬ (j : Int) < (k : Int) := by omega
      obtain rfl : j = k := by omega
      subst hm
      obtain ⟨al, cl, rfl⟩ := hs.out.1.shape
      have es : tx (chT j) ++ (⟨#[59]⟩ : ByteArray) = tx (chT j ++ [59]) := tx_app8 _ [59]
      have z0 : (tx (chT j)).size ≤ 100 := by rw [tx_size]; have := chT_len j; omega
      have P1 := code_read HK.out (chT j ++ [59]) wr (H.out.later hs.out.2)
      obtain ⟨s0, hs0⟩ : ∃ s, chT j = s := ⟨_, rfl⟩
      obtain ⟨s1, hs1⟩ : ∃ s, chT j ++ [59] = s := ⟨_, rfl⟩
      rw [hs1] at es P1
      rw [hs0] at es z0
      rw [hs0]
      have HL := Lib.hid (And.intro (hs.out.1.read (by omega)) hs.out.2)
      have HS1 := Lib.hid hs1
      have hjk : 2 ≤ j := hk2.1
      have hj13 : j < 13 := hk2.2
      clear hs hs0 hs1
      go_wp2_with fail
      refine P1.mono ?_
      rintro e w2 ⟨hg2, v, x1, a1, rfl, hR⟩
      rw [← HS1.out] at hR
      obtain ⟨rfl, rfl, hV⟩ := ch_read hR hjk hj13
      have hnm := ch_names j hj13 hjk
      have hV0 := hV
      obtain ⟨aN, cN, aL, cL, aJ, cJ, aM, cM, n, hn, rfl, _⟩ := hV0
      obtain rfl : n = j := by rw [hn, hnm]
      clear hn
      obtain ⟨y1, hy1⟩ : ∃ y, (lowI n leB : Int) = y := ⟨_, rfl⟩
      obtain ⟨y2, hy2⟩ : ∃ y, (lowI n (flipB leB) : Int) = y := ⟨_, rfl⟩
      rw [hy1, hy2] at hV ⊢
      obtain ⟨W, hW⟩ : ∃ W, w2.alloc (.cells #[.slice aN n cN, .slice aL n cL, .slice aJ n cJ, .slice aM n cM, .int .i64 y1, .int .i64 y2] 29) = W := ⟨_, rfl⟩
      have hgW : Grow w2 W := by rw [← hW]; exact (Below.refl _ _).alloc (Nat.le_refl _) _
      have HB1 := Lib.hid (show LatB W w2.heap.size (.slice aN n cN) (.slice aL n cL) (.slice aJ n cJ) (.slice aM n cM) (.int .i64 y1) (.int .i64 y2) from by rw [← hW]; exact LatB.new _ _ _ _ _ _ _)
      have HV1 := Lib.hid (hV.later hgW)
      have HG1 := Lib.hid (Grow.trans hg2 hgW)
      have P2 := code_make (.slice al (n - 1) cl) (n - 1) (rowQ (n - 1)) W (HL.out.1.later HG1.out)
      have HW := Lib.hid hW
      have HNm := Lib.hid hnm
      clear hR hV hg2 hgW hW P1 hy1 hy2 hnm
      go_upto_region 13 with fail
      rw [HW.out]
      go_wp2_with fail
      refine P2.mono ?_
      rintro e w3 ⟨hg3, v3, x3, rfl, hm3⟩
      obtain ⟨rfl, hU⟩ := ch_made hm3 hjk hj13
      have hU0 := hU
      obtain ⟨bN, dN, bL, dL, bJ, dJ, bM, dM, n', hn', rfl, _⟩ := hU0
      obtain rfl : n' = n := by rw [hn', HNm.out]
      clear hn'
      obtain ⟨y3, hy3⟩ : ∃ y, (lowI n' leB : Int) = y := ⟨_, rfl⟩
      obtain ⟨y4, hy4⟩ : ∃ y, (lowI n' (flipB leB) : Int) = y := ⟨_, rfl⟩
      rw [hy3, hy4] at hU ⊢
      obtain ⟨V, hVV⟩ : ∃ V, w3.alloc (.cells #[.slice bN n' dN, .slice bL n' dL, .slice bJ n' dJ, .slice bM n' dM, .int .i64 y3, .int .i64 y4] 29) = V := ⟨_, rfl⟩
      have hgV : Grow w3 V := by rw [← hVV]; exact (Below.refl _ _).alloc (Nat.le_refl _) _
      have HB2 := Lib.hid (show LatB V w3.heap.size (.slice bN n' dN) (.slice bL n' dL) (.slice bJ n' dJ) (.slice bM n' dM) (.int .i64 y3) (.int .i64 y4) from by rw [← hVV]; exact LatB.new _ _ _ _ _ _ _)
      have HB1' := Lib.hid (HB1.out.later (Grow.trans hg3 hgV))
      have HV1' := Lib.hid (HV1.out.later (Grow.trans hg3 hgV))
      have HU := Lib.hid (hU.later hgV)
      have HGV := Lib.hid (show Grow w V from Grow.trans HL.out.2 (Grow.trans HG1.out (Grow.trans hg3 hgV)))
      have HVV := Lib.hid hVV
      obtain ⟨a, ha⟩ : ∃ a, x % n' = a := ⟨_, rfl⟩
      obtain ⟨b, hb⟩ : ∃ b, y % n' = b := ⟨_, rfl⟩
      have han : a < n' := by rw [← ha]; exact Nat.mod_lt _ (by omega)
      have hbn : b < n' := by rw [← hb]; exact Nat.mod_lt _ (by omega)
      have hxa : (x : Int).tmod (n' : Int) = (a : Int) := by rw [IntWalk.rem_in _ _ (by omega), ← ha]; exact (Int.natCast_emod x n').symm
      have hyb : (y : Int).tmod (n' : Int) = (b : Int) := by rw [IntWalk.rem_in _ _ (by omega), ← hb]; exact (Int.natCast_emod y n').symm
      have hn0 : ¬ (n' : Int) = 0 := by omega
      clear hm3 hg3 hgV hVV hU P2 hy3 hy4 HB1 HV1 HG1 HW HS1 ha hb
      go_upto_region 14 with fail
      rw [HVV.out]
      go_quiet (fail)
      obtain ⟨V1, hV1⟩ : ∃ V1, V.drewN nq = V1 := ⟨_, rfl⟩
      have hgd : Grow V V1 := by rw [← hV1]; exact below_drewN (Grow.refl V) nq
      rw [hV1]
      have HG9 := Lib.hid (Grow.trans HGV.out hgd)
      have HL1 := Lib.hid (HV1'.out.later hgd)
      have HL2 := Lib.hid (HU.out.later hgd)
      have HC1 := Lib.hid (HB1'.out.later hgd)
      have HC2 := Lib.hid (HB2.out.later hgd)
      obtain ⟨-, t1, t2, t3⟩ := HL1.out.tabs
      obtain ⟨-, -, t4, -⟩ := HL2.out.tabs
      obtain ⟨aj, bj, dj, rfl, j1, j2⟩ := t2.at han hbn
      obtain ⟨am, bm, dm, rfl, m1, m2⟩ := t3.at han hbn
      obtain ⟨ae, be, de, rfl, e1, e2⟩ := t1.at han hbn
      obtain ⟨au, bu, du, rfl, u1, u2⟩ := t4.at han hbn
      obtain ⟨c1, c2⟩ := ch_join n' hj13 a han b hbn
      unfold bI at j2 m2 u2
      unfold bB leB at e2
      rw [c1] at j2 u2
      rw [c2] at m2
      have a0 : (0 : Int) ≤ (a : Int) := by omega
      have b0 : (0 : Int) ≤ (b : Int) := by omega
      have an : (a : Int) < (n' : Int) := by omega
      have bn : (b : Int) < (n' : Int) := by omega
      have HRA := Lib.hid (fun (W' : World) (hg : Grow V1 W') => code_right _ _ _ leB W' (HL1.out.later hg) (namesP_rise _) (by rw [HNm.out]; omega) (by rw [HNm.out]; omega) (fun x _ => leB_refl x) (fun _ _ _ _ _ _ h h' => leB_trans h h') (by rw [HNm.out]; exact (ch_cert n' hj13 hjk).2))
      have HRB := Lib.hid (fun (W' : World) (hg : Grow V1 W') => code_right _ _ _ leB W' (HL2.out.later hg) (namesP_rise _) (by rw [HNm.out]; omega) (by rw [HNm.out]; omega) (fun x _ => leB_refl x) (fun _ _ _ _ _ _ h h' => leB_trans h h') (by rw [HNm.out]; exact (ch_cert n' hj13 hjk).2))
      clear hV1 hgd t1 t2 t3 t4 c1 c2 hxa hyb HB1' HB2 HV1' HU HVV
      obtain ⟨⟨f0, f1, f2⟩, f3, f4, f5⟩ := HC1.out.cells
      obtain ⟨⟨g0, g1, g2⟩, g3, g4, g5⟩ := HC2.out.cells
      clear es z0
      obtain ⟨pj, hpj⟩ : ∃ p, aj.add a = p := ⟨_, rfl⟩
      obtain ⟨qj, hqj⟩ : ∃ p, bj.add b = p := ⟨_, rfl⟩
      obtain ⟨pm, hpm⟩ : ∃ p, am.add a = p := ⟨_, rfl⟩
      obtain ⟨qm, hqm⟩ : ∃ p, bm.add b = p := ⟨_, rfl⟩
      obtain ⟨pe, hpe⟩ : ∃ p, ae.add a = p := ⟨_, rfl⟩
      obtain ⟨qe, hqe⟩ : ∃ p, be.add b = p := ⟨_, rfl⟩
      obtain ⟨pu, hpu⟩ : ∃ p, au.add a = p := ⟨_, rfl⟩
      obtain ⟨qu, hqu⟩ : ∃ p, bu.add b = p := ⟨_, rfl⟩
      rw [hpj] at j1
      rw [hqj] at j2
      rw [hpm] at m1
      rw [hqm] at m2
      rw [hpe] at e1
      rw [hqe] at e2
      rw [hpu] at u1
      rw [hqu] at u2
      by_cases hab : a ≤ b
      · have hab2 : (a : Int) ≤ (b : Int) := by omega
        rw [Nat.max_eq_right hab] at j2 u2
        rw [Nat.min_eq_left hab] at m2
        rw [decide_eq_true hab] at e2
        have hmx : max (a : Int) (b : Int) = (b : Int) := by omega
        have hmn : min (a : Int) (b : Int) = (a : Int) := by omega
        go_wp2_with (first | (go_at_call 11; refine (awake_lab HK.out _ (H.out.later (Grow.trans HG9.out G11.out))).mono ?_; rintro e w' ⟨rfl, hb9⟩; have H9 := Lib.hid (Grow.trans HG9.out (Grow.trans G11.out hb9)); clear hb9) | (go_at_call 22; refine (HRB.out _ G10.out).mono ?_; rintro e w11 ⟨rfl, hb11⟩; have G11 := Lib.hid (Grow.trans G10.out hb11); clear hb11) | (go_at_call 22; refine (HRA.out _ (Grow.refl _)).mono ?_; rintro e w10 ⟨rfl, hb10⟩; have G10 := Lib.hid hb10; clear hb10; obtain ⟨⟨g0, g1, g2⟩, g3, g4, g5⟩ := (HC2.out.later G10.out).cells) | (go_at_call 15; refine (lnum_at _ _).mono ?_; rintro e w' ⟨rfl, rfl⟩))
        go_ret
        exact ⟨rfl, H9.out⟩
      · have hab2 : ¬ (a : Int) ≤ (b : Int) := by omega
        rw [Nat.max_eq_left (by omega)] at j2 u2
        rw [Nat.min_eq_right (by omega)] at m2
        rw [decide_eq_false hab] at e2
        have hmx : max (a : Int) (b : Int) = (a : Int) := by omega
        have hmn : min (a : Int) (b : Int) = (b : Int) := by omega
        go_wp2_with (first | (go_at_call 11; refine (awake_lab HK.out _ (H.out.later (Grow.trans HG9.out G11.out))).mono ?_; rintro e w' ⟨rfl, hb9⟩; have H9 := Lib.hid (Grow.trans HG9.out (Grow.trans G11.out hb9)); clear hb9) | (go_at_call 22; refine (HRB.out _ G10.out).mono ?_; rintro e w11 ⟨rfl, hb11⟩; have G11 := Lib.hid (Grow.trans G10.out hb11); clear hb11) | (go_at_call 22; refine (HRA.out _ (Grow.refl _)).mono ?_; rintro e w10 ⟨rfl, hb10⟩; have G10 := Lib.hid hb10; clear hb10; obtain ⟨⟨g0, g1, g2⟩, g3, g4, g5⟩ := (HC2.out.later G10.out).cells) | (go_at_call 15; refine (lnum_at _ _).mono ?_; rintro e w' ⟨rfl, rfl⟩))
        go_ret
        exact ⟨rfl, H9.out⟩

end Go.Proofs.YtejaikpnfhhmnaaDoor
