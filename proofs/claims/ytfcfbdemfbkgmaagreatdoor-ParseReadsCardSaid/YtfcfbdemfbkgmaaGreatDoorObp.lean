/- What a tied card's condition gives (stage 12): the table of signs lies as the program's text lays it; and a world in which all six do. Numbers and types by name. -/
import Derived.Test.YtfcfbdemfbkgmaaGreatDoorSma
import Derived.Test.YtfcfbdemfbkgmaaGreatDoorRlb
import Derived.Test.YtfcfbdemfbkgmaaGreatDoorSan
import Derived.Test.YtfcfbdemfbkgmaaGreatDoorRows
import Derived.Test.YtfcfbdemfbkgmaaGreatDoorLcc
import Derived.ProofKit
import Derived.LaidMore
import Derived.Stop.LaidErr
/- ParseReads, walked over what is asked of the code's parser. Numbers and types by name. -/
namespace Go.Proofs.YtfcfbdemfbkgmaaGreatDoor
open Go.RowKit Go.Lib
set_option maxRecDepth 100000

/-- Two lists of labels that are one. -/
theorem par_yes (v1 v2 : Value) (l : List Par) (w : World) (h1 : TRows w 3 (ParT true) v1 l) (h2 : TRows w 3 (ParT true) v2 l) :
    Calls Tryz.prog 16 #[v1, v2] w fun e w' => e = .returned (.bool true) ∧ Grow w w' := by
  obtain ⟨a1, c1, rfl⟩ := h1.shape
  obtain ⟨a2, c2, rfl⟩ := h2.shape
  have hml : l.length ≤ 9223372036854775807 := Nat.le_trans h1.1 (by decide)
  have H1 := Lib.hid h1
  have H2 := Lib.hid h2
  clear h1 h2
  obtain ⟨n, hn⟩ : ∃ n, l.length = n := ⟨_, rfl⟩
  rw [hn] at H1 H2 hml ⊢
  clear hn
  go_enter Tryz.func16, Tryz.ntmps16
  go_wp2_with fail
  go_loopw [5] (fun i wr => ∃ k : Nat, k ≤ n ∧ i = .int .i64 k ∧ Hid (Grow w wr)) (fun i _ => n - (RowKit.intOf i).toNat)
  case atStart => exact ⟨0, Nat.zero_le _, rfl, Lib.hid (Grow.refl w)⟩
  case round =>
    obtain ⟨k, hk, rfl, hG⟩ := hrel
    by_cases h1 : k < n
    · have h3 : (k : Int) < (n : Int) := by omega
      obtain ⟨x1, o1, s1, rfl, e1, ⟨z1, rfl, p1⟩, _, g1⟩ := TRows.at (TRows.imp H1.out hG.out fun _ _ h => h) h1
      obtain ⟨x2, o2, s2, rfl, e2, ⟨z2, rfl, p2⟩, _, g2⟩ := TRows.at (TRows.imp H2.out hG.out fun _ _ h => h) h1
      rw [e1] at e2
      cases e2
      obtain rfl := p1 rfl
      obtain rfl := p2 rfl
      unfold parVT at g1 g2
      have b0 := g1.1 _ rfl
      have b1 := g1.2 1 _ (by decide) rfl
      have b2 := g1.2 2 _ (by decide) rfl
      have d0 := g2.1 _ rfl
      have d1 := g2.2 1 _ (by decide) rfl
      have d2 := g2.2 2 _ (by decide) rfl
      obtain ⟨nn, ll, pp⟩ := o1
      simp only at b0 b1 b2 d0 d1 d2
      clear e1 p1 p2 g1 g2
      go_wp2_with fail
      go_quiet (fail)
      go_wp2
      all_goals exact ⟨⟨k + 1, by omega, by go_num, Lib.hid (below_drewN hG.out _)⟩, by simp [RowKit.intOf]; omega⟩
    · have h3 : ¬ (k : Int) < (n : Int) := by omega
      go_wp2_with fail
      go_ret
      exact ⟨rfl, hG.out⟩

set_option maxHeartbeats 16000000 in
theorem reads_walk (K : ParseK) (a : List UInt8) (w : World) (ht : SgW w) : Calls Tryz.prog 3 #[.string (tx a)] w fun e w' => e = .returned (.bool true) ∧ Below w.heap.size w w' := by
  have HK := Lib.hid K
  have HT := Lib.hid ht
  have z1 := tx_size a
  by_cases hA : 2000 < a.length ∧ a.length ≤ 8192
  · have y1 : (2000 : Int) < (a.length : Int) := by omega
    have y2 : (a.length : Int) ≤ 8192 := by omega
    clear K ht
    go_enter Tryz.func3, Tryz.ntmps3
    go_wp2_with (first | (go_at_call 9; refine (awake_par HK.out _ HT.out).mono ?_; rintro e w' ⟨rfl, hb9⟩; have H9 := Lib.hid (hb9); clear hb9))
    go_ret
    exact ⟨rfl, H9.out⟩
  have HRest : Hid (¬ (2000 < a.length ∧ a.length ≤ 8192)) := Lib.hid hA
  have P1 := K.mod a w ht
  have P2 := fun w => ref_parse a w
  have P3 := fun w h => K.lab a w h
  have P4 := fun w => ref_labels a w
  generalize parseP a = R at *
  generalize labelsP a = Q at *
  obtain ⟨md, x, y⟩ := R
  obtain ⟨lp, x2, y2⟩ := Q
  have HP := Lib.hid (And.intro P2 (And.intro P3 P4))
  clear K ht P2 P3 P4
  obtain ⟨nm, mp, mi, mv, mq⟩ := md
  by_cases h2 : 2000 < a.length
  · have y1 : (2000 : Int) < (a.length : Int) := by omega
    have y2 : ¬ (a.length : Int) ≤ 8192 := by have := HRest.out; omega
    go_enter Tryz.func3, Tryz.ntmps3
    go_wp2_with fail
    refine P1.mono ?_
    rintro e w1 ⟨vI, vV, vP, rfl, hv, hb1⟩
    have hvt := hv.toT true
    obtain ⟨⟨aI, nI, cI, rfl⟩, ⟨aV, nV, cV, rfl⟩, ⟨aP, nP, cP, rfl⟩⟩ := modV_shapes hv
    have hb2 := hb1.alloc hb1.size (.cells #[.string (tx nm), .int .i64 (mp : Int), .slice aI nI cI, .slice aV nV cV, .slice aP nP cP] 27)
    have hm2 := hvt.later (show Grow w1 (w1.alloc (.cells #[.string (tx nm), .int .i64 (mp : Int), .slice aI nI cI, .slice aV nV cV, .slice aP nP cP] 27)) from (Below.refl _ w1).alloc (Nat.le_refl _) _)
    have hc2 := heap_alloc_new w1 (.cells #[.string (tx nm), .int .i64 (mp : Int), .slice aI nI cI, .slice aV nV cV, .slice aP nP cP] 27)
    obtain ⟨w2, hw2⟩ : ∃ w2, w1.alloc (.cells #[.string (tx nm), .int .i64 (mp : Int), .slice aI nI cI, .slice aV nV cV, .slice aP nP cP] 27) = w2 := ⟨_, rfl⟩
    rw [hw2] at hb2 hm2 hc2
    have H2 := Lib.hid (And.intro hb2 (And.intro hm2 hc2))
    clear hv hvt hb1 hb2 hm2 hc2 P1
    go_wp2_with fail
    clear hw2
    generalize w1.heap.size = B1 at *
    refine (HP.out.1 w2).mono ?_
    rintro e w3 ⟨vI2, vV2, vP2, rfl, hv, hb3⟩
    have hvt := hv.toT true
    obtain ⟨⟨aI2, nI2, cI2, rfl⟩, ⟨aV2, nV2, cV2, rfl⟩, ⟨aP2, nP2, cP2, rfl⟩⟩ := modV_shapes hv
    have hg4 : Grow w3 (w3.alloc (.cells #[.string (tx nm), .int .i64 (mp : Int), .slice aI2 nI2 cI2, .slice aV2 nV2 cV2, .slice aP2 nP2 cP2] 27)) := (Below.refl _ w3).alloc (Nat.le_refl _) _
    have hc4 := heap_alloc_new w3 (.cells #[.string (tx nm), .int .i64 (mp : Int), .slice aI2 nI2 cI2, .slice aV2 nV2 cV2, .slice aP2 nP2 cP2] 27)
    obtain ⟨w4, hw4⟩ : ∃ w4, w3.alloc (.cells #[.string (tx nm), .int .i64 (mp : Int), .slice aI2 nI2 cI2, .slice aV2 nV2 cV2, .slice aP2 nP2 cP2] 27) = w4 := ⟨_, rfl⟩
    rw [hw4] at hg4 hc4
    have hm4 := hvt.later hg4
    have hg24 : Grow w2 w4 := Grow.trans hb3 hg4
    have H4 := Lib.hid (And.intro (H2.out.1.trans (hg24.mono H2.out.1.size)) (And.intro (H2.out.2.1.later hg24) (And.intro ((hg24.block _ (Array.getElem?_eq_some_iff.1 H2.out.2.2).1).trans H2.out.2.2) (And.intro hm4 hc4))))
    clear hv hvt hb3 hg4 hc4 hm4 hg24 H2
    go_wp2_with fail
    clear hw4
    generalize w3.heap.size = B2 at *
    refine (HP.out.2.1 w4 (HT.out.later H4.out.1)).mono ?_
    rintro e w5 ⟨a5, m5, c5, rfl, hr5, hb5⟩
    have hr5' := RowsP.toT (S := ParT true) hr5 fun o _ h => ⟨o.pos, h, PlT.of _ _⟩
    have HR5 := Lib.hid (And.intro hr5' hb5)
    clear hr5 hr5' hb5
    go_wp2_with fail
    refine (HP.out.2.2 w5).mono ?_
    rintro e w6 ⟨a6, m6, c6, rfl, hr6, hb6⟩
    have hr6' := RowsP.toT (S := ParT true) hr6 fun o _ h => ⟨o.pos, h, PlT.of _ _⟩
    have hg46 : Grow w4 w6 := Grow.trans HR5.out.2 hb6
    have HR6 := Lib.hid (And.intro (TRows.imp HR5.out.1 hb6 fun _ _ h => h) hr6')
    have k1 := (hg46.block _ (Array.getElem?_eq_some_iff.1 H4.out.2.2.1).1).trans H4.out.2.2.1
    have k2 := (hg46.block _ (Array.getElem?_eq_some_iff.1 H4.out.2.2.2.2).1).trans H4.out.2.2.2.2
    have m0 : w6.cell? ⟨B1, 0, none⟩ = some (.string (tx nm)) := cellsN k1 0 _ rfl
    have m1 : w6.cell? ⟨B1, 1, none⟩ = some (.int .i64 (mp : Int)) := cellsN k1 1 _ rfl
    have m2 : w6.cell? ⟨B1, 2, none⟩ = some (.slice aI nI cI) := cellsN k1 2 _ rfl
    have m3 : w6.cell? ⟨B1, 3, none⟩ = some (.slice aV nV cV) := cellsN k1 3 _ rfl
    have m4 : w6.cell? ⟨B1, 4, none⟩ = some (.slice aP nP cP) := cellsN k1 4 _ rfl
    have n0 : w6.cell? ⟨B2, 0, none⟩ = some (.string (tx nm)) := cellsN k2 0 _ rfl
    have n1 : w6.cell? ⟨B2, 1, none⟩ = some (.int .i64 (mp : Int)) := cellsN k2 1 _ rfl
    have n2 : w6.cell? ⟨B2, 2, none⟩ = some (.slice aI2 nI2 cI2) := cellsN k2 2 _ rfl
    have n3 : w6.cell? ⟨B2, 3, none⟩ = some (.slice aV2 nV2 cV2) := cellsN k2 3 _ rfl
    have n4 : w6.cell? ⟨B2, 4, none⟩ = some (.slice aP2 nP2 cP2) := cellsN k2 4 _ rfl
    have HS := Lib.hid (ref_Whole _ _ _ _ w6 (H4.out.2.1.later hg46) (H4.out.2.2.2.1.later hg46) rfl)
    have H6 := Lib.hid (H4.out.1.trans (hg46.mono H4.out.1.size))
    clear hr6 hr6' hb6 hg46 HR5 k1 k2 H4 HP
    go_wp2_with fail
    refine HS.out.mono ?_
    rintro e w7 ⟨b7, rfl, hb7, hg7⟩
    rw [hb7.2 (by simp)]
    have H7 := Lib.hid (H6.out.trans (hg7.mono H6.out.size))
    have HPAR := Lib.hid (par_yes _ _ _ w7 (TRows.imp HR6.out.1 hg7 fun _ _ h => h) (TRows.imp HR6.out.2 hg7 fun _ _ h => h))
    clear m0 m1 m2 m3 m4 n0 n1 n2 n3 n4 HS hb7 hg7 HR6
    go_wp2_with (first | (go_at_call 15; refine (lnum_at _ _).mono ?_; rintro e w' ⟨rfl, rfl⟩))
    refine HPAR.out.mono ?_
    rintro e w8 ⟨rfl, hg8⟩
    have H8 := Lib.hid (H7.out.trans (hg8.mono H7.out.size))
    clear HPAR hg8
    go_wp2_with (first | (go_at_call 15; refine (lnum_at _ _).mono ?_; rintro e w' ⟨rfl, rfl⟩) | (go_at_call 9; refine (awake_par HK.out _ (HT.out.later H8.out)).mono ?_; rintro e w' ⟨rfl, hb9⟩; have H9 := Lib.hid (H8.out.trans (hb9.mono H8.out.size)); clear hb9))
    go_ret
    exact ⟨rfl, H9.out⟩
  · have y1 : ¬ (2000 : Int) < (a.length : Int) := by omega
    go_enter Tryz.func3, Tryz.ntmps3
    go_wp2_with fail
    refine P1.mono ?_
    rintro e w1 ⟨vI, vV, vP, rfl, hv, hb1⟩
    have hvt := hv.toT true
    obtain ⟨⟨aI, nI, cI, rfl⟩, ⟨aV, nV, cV, rfl⟩, ⟨aP, nP, cP, rfl⟩⟩ := modV_shapes hv
    have hb2 := hb1.alloc hb1.size (.cells #[.string (tx nm), .int .i64 (mp : Int), .slice aI nI cI, .slice aV nV cV, .slice aP nP cP] 27)
    have hm2 := hvt.later (show Grow w1 (w1.alloc (.cells #[.string (tx nm), .int .i64 (mp : Int), .slice aI nI cI, .slice aV nV cV, .slice aP nP cP] 27)) from (Below.refl _ w1).alloc (Nat.le_refl _) _)
    have hc2 := heap_alloc_new w1 (.cells #[.string (tx nm), .int .i64 (mp : Int), .slice aI nI cI, .slice aV nV cV, .slice aP nP cP] 27)
    obtain ⟨w2, hw2⟩ : ∃ w2, w1.alloc (.cells #[.string (tx nm), .int .i64 (mp : Int), .slice aI nI cI, .slice aV nV cV, .slice aP nP cP] 27) = w2 := ⟨_, rfl⟩
    rw [hw2] at hb2 hm2 hc2
    have H2 := Lib.hid (And.intro hb2 (And.intro hm2 hc2))
    clear hv hvt hb1 hb2 hm2 hc2 P1
    go_wp2_with fail
    clear hw2
    generalize w1.heap.size = B1 at *
    refine (HP.out.1 w2).mono ?_
    rintro e w3 ⟨vI2, vV2, vP2, rfl, hv, hb3⟩
    have hvt := hv.toT true
    obtain ⟨⟨aI2, nI2, cI2, rfl⟩, ⟨aV2, nV2, cV2, rfl⟩, ⟨aP2, nP2, cP2, rfl⟩⟩ := modV_shapes hv
    have hg4 : Grow w3 (w3.alloc (.cells #[.string (tx nm), .int .i64 (mp : Int), .slice aI2 nI2 cI2, .slice aV2 nV2 cV2, .slice aP2 nP2 cP2] 27)) := (Below.refl _ w3).alloc (Nat.le_refl _) _
    have hc4 := heap_alloc_new w3 (.cells #[.string (tx nm), .int .i64 (mp : Int), .slice aI2 nI2 cI2, .slice aV2 nV2 cV2, .slice aP2 nP2 cP2] 27)
    obtain ⟨w4, hw4⟩ : ∃ w4, w3.alloc (.cells #[.string (tx nm), .int .i64 (mp : Int), .slice aI2 nI2 cI2, .slice aV2 nV2 cV2, .slice aP2 nP2 cP2] 27) = w4 := ⟨_, rfl⟩
    rw [hw4] at hg4 hc4
    have hm4 := hvt.later hg4
    have hg24 : Grow w2 w4 := Grow.trans hb3 hg4
    have H4 := Lib.hid (And.intro (H2.out.1.trans (hg24.mono H2.out.1.size)) (And.intro (H2.out.2.1.later hg24) (And.intro ((hg24.block _ (Array.getElem?_eq_some_iff.1 H2.out.2.2).1).trans H2.out.2.2) (And.intro hm4 hc4))))
    clear hv hvt hb3 hg4 hc4 hm4 hg24 H2
    go_wp2_with fail
    clear hw4
    generalize w3.heap.size = B2 at *
    refine (HP.out.2.1 w4 (HT.out.later H4.out.1)).mono ?_
    rintro e w5 ⟨a5, m5, c5, rfl, hr5, hb5⟩
    have hr5' := RowsP.toT (S := ParT true) hr5 fun o _ h => ⟨o.pos, h, PlT.of _ _⟩
    have HR5 := Lib.hid (And.intro hr5' hb5)
    clear hr5 hr5' hb5
    go_wp2_with fail
    refine (HP.out.2.2 w5).mono ?_
    rintro e w6 ⟨a6, m6, c6, rfl, hr6, hb6⟩
    have hr6' := RowsP.toT (S := ParT true) hr6 fun o _ h => ⟨o.pos, h, PlT.of _ _⟩
    have hg46 : Grow w4 w6 := Grow.trans HR5.out.2 hb6
    have HR6 := Lib.hid (And.intro (TRows.imp HR5.out.1 hb6 fun _ _ h => h) hr6')
    have k1 := (hg46.block _ (Array.getElem?_eq_some_iff.1 H4.out.2.2.1).1).trans H4.out.2.2.1
    have k2 := (hg46.block _ (Array.getElem?_eq_some_iff.1 H4.out.2.2.2.2).1).trans H4.out.2.2.2.2
    have m0 : w6.cell? ⟨B1, 0, none⟩ = some (.string (tx nm)) := cellsN k1 0 _ rfl
    have m1 : w6.cell? ⟨B1, 1, none⟩ = some (.int .i64 (mp : Int)) := cellsN k1 1 _ rfl
    have m2 : w6.cell? ⟨B1, 2, none⟩ = some (.slice aI nI cI) := cellsN k1 2 _ rfl
    have m3 : w6.cell? ⟨B1, 3, none⟩ = some (.slice aV nV cV) := cellsN k1 3 _ rfl
    have m4 : w6.cell? ⟨B1, 4, none⟩ = some (.slice aP nP cP) := cellsN k1 4 _ rfl
    have n0 : w6.cell? ⟨B2, 0, none⟩ = some (.string (tx nm)) := cellsN k2 0 _ rfl
    have n1 : w6.cell? ⟨B2, 1, none⟩ = some (.int .i64 (mp : Int)) := cellsN k2 1 _ rfl
    have n2 : w6.cell? ⟨B2, 2, none⟩ = some (.slice aI2 nI2 cI2) := cellsN k2 2 _ rfl
    have n3 : w6.cell? ⟨B2, 3, none⟩ = some (.slice aV2 nV2 cV2) := cellsN k2 3 _ rfl
    have n4 : w6.cell? ⟨B2, 4, none⟩ = some (.slice aP2 nP2 cP2) := cellsN k2 4 _ rfl
    have HS := Lib.hid (ref_Whole _ _ _ _ w6 (H4.out.2.1.later hg46) (H4.out.2.2.2.1.later hg46) rfl)
    have H6 := Lib.hid (H4.out.1.trans (hg46.mono H4.out.1.size))
    clear hr6 hr6' hb6 hg46 HR5 k1 k2 H4 HP
    go_wp2_with fail
    refine HS.out.mono ?_
    rintro e w7 ⟨b7, rfl, hb7, hg7⟩
    rw [hb7.2 (by simp)]
    have H7 := Lib.hid (H6.out.trans (hg7.mono H6.out.size))
    have HPAR := Lib.hid (par_yes _ _ _ w7 (TRows.imp HR6.out.1 hg7 fun _ _ h => h) (TRows.imp HR6.out.2 hg7 fun _ _ h => h))
    clear m0 m1 m2 m3 m4 n0 n1 n2 n3 n4 HS hb7 hg7 HR6
    go_wp2_with (first | (go_at_call 15; refine (lnum_at _ _).mono ?_; rintro e w' ⟨rfl, rfl⟩))
    refine HPAR.out.mono ?_
    rintro e w8 ⟨rfl, hg8⟩
    have H8 := Lib.hid (H7.out.trans (hg8.mono H7.out.size))
    clear HPAR hg8
    go_wp2_with (first | (go_at_call 15; refine (lnum_at _ _).mono ?_; rintro e w' ⟨rfl, rfl⟩) | (go_at_call 9; refine (awake_par HK.out _ (HT.out.later H8.out)).mono ?_; rintro e w' ⟨rfl, hb9⟩; have H9 := Lib.hid (H8.out.trans (hb9.mono H8.out.size)); clear hb9))
    go_ret
    exact ⟨rfl, H9.out⟩

theorem reads_S (K : ParseK) (a : ByteArray) (w : World) (ht : SgW w) : Calls Tryz.prog 3 #[.string a] w fun e w' => e = .returned (.bool true) ∧ Below w.heap.size w w' :=
  reads_walk K a.data.toList w ht

end Go.Proofs.YtfcfbdemfbkgmaaGreatDoor

namespace Go.Proofs.YtfcfbdemfbkgmaaGreatDoor
open Go.ChangeShapes Go.WideShapes Go.ChangeAt Go.RowKit

/-- The six, as each row lists them. -/
def laid3 : List (String × DataW Unit) := [("math/bits.deBruijn32tab", Rows.laid_math_bits_deBruijn32tab), ("math/bits.deBruijn64tab", Rows.laid_math_bits_deBruijn64tab), ("internal/strconv.uint64pow10", Rows.laid_internal_strconv_uint64pow10), ("strconv.ErrRange", Rows.laid_strconv_ErrRange), ("strconv.ErrSyntax", Rows.laid_strconv_ErrSyntax), ("aquifer/lex.signs", Rows.laid_aquifer_lex_signs)]

theorem tab_of_laid {W : World} (h : laidMetH Tryz.prog laid3 W) : SgW W := by
  rw [MakeChecks.laidMetH_plain _ _ _ (by kernel_rfl)] at h
  have h3 : laidMet Tryz.prog [("aquifer/lex.signs", txData signs19)] W := h.tail.tail.tail.tail.tail
  exact sgW_of_head (show Tryz.prog.globalNamed "aquifer/lex.signs" = some 0 by kernel_rfl) (show (Tryz.prog.globals[0]?).map (·.type) = some 138 by kernel_rfl) Tryz.underlying138 Tryz.underlying9 (by kernel_rfl) (by kernel_rfl) h3

theorem door_met (os : Os) (args : Array Value) : laidMetH Tryz.prog laid3 ((World.doorLaid Tryz.prog 67 os).forCall (fun _ _ => 0) ⟨#[], args, []⟩).memory :=
  laidMetH_of_parts3 (fuel := 8) (laidMet_of_run' 8 (by kernel_rfl) (by kernel_rfl)) (by kernel_rfl) (by kernel_rfl)

end Go.Proofs.YtfcfbdemfbkgmaaGreatDoor
