/- ParseParts, walked over what is asked of the code's parser. Numbers and types by name. -/
import Derived.Test.YtfcfbdemfbkgmaaDoorPwd
import Derived.Test.YtfcfbdemfbkgmaaDoorPpa
import Derived.Test.YtfcfbdemfbkgmaaDoorSan
namespace Go.Proofs.YtfcfbdemfbkgmaaDoor
open Go.RowKit Go.Lib
set_option maxRecDepth 100000

theorem Parts.pre {α : Type} {size : Nat} {R : α → List Value → Prop} : ∀ {l V : List α} {cs : List Value}, Parts size R (l ++ V) cs → ∃ d, cs = cs.take (l.length * size) ++ d ∧ Parts size R l (cs.take (l.length * size))
  | [], V, cs, _ => ⟨cs, by simp, by simp only [List.length_nil, Nat.zero_mul, List.take_zero]; rfl⟩
  | x :: l, V, cs, ⟨c, d, e, h1, h2, h3⟩ => by
    obtain ⟨d2, e2, h4⟩ := Parts.pre h3
    have e3 : cs.take ((x :: l).length * size) = c ++ d.take (l.length * size) := by
      rw [e, List.length_cons, Nat.succ_mul, Nat.add_comm, List.take_append, List.take_of_length_le (by omega), h1, Nat.add_sub_cancel_left]
    refine ⟨d2, ?_, ?_⟩
    · rw [e3, List.append_assoc, ← e2, e]
    · rw [e3]
      exact ⟨c, _, rfl, h1, h2, h4⟩
theorem TRows.pre {α : Type} {w : World} {size : Nat} {R : α → List Value → Prop} {ao : Option Addr} {n c : Nat} {l V : List α} (h : TRows w size R (.slice ao n c) (l ++ V)) : l.length ≤ c ∧ TRows w size R (.slice ao l.length c) l := by
  obtain ⟨h1, cs, ⟨ao', c', e, hl, hc, hz, hat⟩, hp⟩ := h
  simp only [Value.slice.injEq] at e
  obtain ⟨rfl, rfl, rfl⟩ := e
  rw [List.length_append] at h1 hc hz hl
  obtain ⟨d, e2, hp2⟩ := hp.pre
  refine ⟨by omega, by omega, cs.take (l.length * size), ⟨ao, c, rfl, hp2.length, by omega, fun h => ?_, fun a ha j u hj => hat a ha j u ?_⟩, hp2⟩
  · have := hz h
    exact ⟨by omega, this.2⟩
  · rw [e2, List.getElem?_append_left (List.getElem?_eq_some_iff.1 hj).1]
    exact hj

set_option maxHeartbeats 16000000 in
theorem parts_walk (K : ParseK) (a : List UInt8) (q : UInt8) (w : World) (ht : SgW w) : Calls Tryd.prog 4 #[.string (tx a), .int .u8 (q.toNat : Int)] w fun e w' => e = .returned (.bool true) ∧ Below w.heap.size w w' := by
  have HK := Lib.hid K
  have HT := Lib.hid ht
  have z1 := tx_size a
  have hq256 : q.toNat < 256 := q.toNat_lt
  obtain ⟨k, hk⟩ : ∃ k, q.toNat % 9 = k := ⟨_, rfl⟩
  have hk9 : k < 9 := by omega
  have hk5 : (q.toNat : Int) % 9 = (k : Int) := by omega
  have P1 := K.mod a w ht
  have FP := fun ha h => parse_more a k hk9 ha h
  obtain ⟨RP, hRP⟩ : ∃ R, parseP a = R := ⟨_, rfl⟩
  rw [hRP] at P1
  simp only [hRP] at FP
  obtain ⟨md, x, y⟩ := RP
  simp only at FP
  have HF := Lib.hid FP
  clear K ht FP hRP hk
  obtain ⟨nm, mp, mi, mv, mq⟩ := md
  go_enter Tryd.func4, Tryd.ntmps4
  go_wp2_with fail
  refine P1.mono ?_
  rintro e w1 ⟨vI, vV, vP, rfl, hv, hb1⟩
  have hvt := hv.toT true
  obtain ⟨vI', nI', vV', nV', vP', nP', ee, hr1, hr2, hr3⟩ := hv
  simp only [mdlV, List.cons.injEq, true_and, and_true] at ee
  obtain ⟨rfl, rfl, rfl⟩ := ee
  obtain ⟨aI, cI, rfl⟩ := hr1.shape
  obtain ⟨aV, cV, rfl⟩ := hr2.shape
  obtain ⟨aP, cP, rfl⟩ := hr3.shape
  have hnv : nV' = mv.length := hr2.1
  have hnp : nP' = mq.length := hr3.1
  have hnv5 : nV' ≤ 100000 := hr2.2.1
  have hnp5 : nP' ≤ 100000 := hr3.2.1
  clear hr1 hr2 hr3
  have hb2 := hb1.alloc hb1.size (.cells #[.string (tx nm), .int .i64 (mp : Int), .slice aI nI' cI, .slice aV nV' cV, .slice aP nP' cP] 27)
  have hg1 : Grow w1 (w1.alloc (.cells #[.string (tx nm), .int .i64 (mp : Int), .slice aI nI' cI, .slice aV nV' cV, .slice aP nP' cP] 27)) := (Below.refl _ w1).alloc (Nat.le_refl _) _
  have hm1 := hvt.later hg1
  have hc1 := heap_alloc_new w1 (.cells #[.string (tx nm), .int .i64 (mp : Int), .slice aI nI' cI, .slice aV nV' cV, .slice aP nP' cP] 27)
  obtain ⟨w2, hw2⟩ : ∃ w2, w1.alloc (.cells #[.string (tx nm), .int .i64 (mp : Int), .slice aI nI' cI, .slice aV nV' cV, .slice aP nP' cP] 27) = w2 := ⟨_, rfl⟩
  rw [hw2] at hb2 hm1 hc1
  have H2 := Lib.hid (And.intro hb2 (And.intro hm1 hc1))
  have HNN := Lib.hid (And.intro hnv hnp)
  clear hb1 hb2 hm1 hc1 hg1 P1 hvt hnv hnp
  by_cases hx : x = 0
  case neg =>
    clear HF
    go_wp2_with (first | (go_at_call 8; refine (lnum_at _ _).mono ?_; rintro e w' ⟨rfl, rfl⟩) | (go_at_call 5; refine (awake_par HK.out _ (HT.out.later H2.out.1)).mono ?_; rintro e w' ⟨rfl, hb9⟩; have H9 := Lib.hid (H2.out.1.trans (hb9.mono H2.out.1.size)); clear hb9))
    go_ret
    exact ⟨rfl, H9.out⟩
  subst hx
  by_cases hA : 1000 < a.length
  · have y1 : (1000 : Int) < (a.length : Int) := by omega
    clear HF
    go_wp2_with (first | (go_at_call 8; refine (lnum_at _ _).mono ?_; rintro e w' ⟨rfl, rfl⟩) | (go_at_call 5; refine (awake_par HK.out _ (HT.out.later H2.out.1)).mono ?_; rintro e w' ⟨rfl, hb9⟩; have H9 := Lib.hid (H2.out.1.trans (hb9.mono H2.out.1.size)); clear hb9))
    go_ret
    exact ⟨rfl, H9.out⟩
  have y1 : ¬ (1000 : Int) < (a.length : Int) := by omega
  obtain ⟨V, P, f1, f2, f3, f4⟩ := HF.out (by omega) rfl
  have P2 := HK.out.mod (a ++ moresL k) w2 (HT.out.later H2.out.1)
  rw [f4] at P2
  have HVP := Lib.hid (And.intro f1 (And.intro f2 f3))
  clear HF f4 f1 f2 f3
  go_wp2_with (first | (go_at_call 8; refine (lnum_at _ _).mono ?_; rintro e w' ⟨rfl, rfl⟩))
  clear hw2
  generalize w1.heap.size = B1 at *
  go_loopw [8, 10] (fun u v wr => w2 = wr ∧ ∃ i : Nat, i ≤ k ∧ v = .int .i64 i ∧ u = .string (tx (moresL i))) (fun _ v _ => k - (RowKit.intOf v).toNat)
  case atStart => exact ⟨rfl, 0, Nat.zero_le _, rfl, rfl⟩
  case round =>
    obtain ⟨rfl, i, hi, rfl, rfl⟩ := hrel
    by_cases hik : i < k
    · have h3 : (i : Int) < (k : Int) := by omega
      have zl := moresL_len i
      have zz := tx_size (moresL i)
      have hcat : tx (moresL i) ++ tx (10 :: moreL) = tx (moresL (i + 1)) := by rw [tx_cat]; rfl
      have hten : (⟨#[10, 118, 97, 114, 32, 118, 32, 58, 32, 108, 32, 61, 32, 45, 32, 51, 59, 32, 112, 114, 111, 99, 32, 113, 40, 41, 32, 112, 99, 32, 108, 32, 117, 115, 101, 115, 32, 123, 32, 125, 32, 123, 32, 125]⟩ : ByteArray) = tx (10 :: moreL) := rfl
      have z10 : (tx (10 :: moreL)).size = 44 := rfl
      generalize tx (10 :: moreL) = M10 at *
      clear P2
      go_wp2_with fail
      first
        | exact ⟨⟨i + 1, by omega, by omega, rfl⟩, by simp [RowKit.intOf]; omega⟩
        | exact ⟨⟨i + 1, by omega, by go_num, rfl⟩, by simp [RowKit.intOf]; omega⟩
        | exact ⟨⟨rfl, i + 1, by omega, by go_num, rfl⟩, by simp [RowKit.intOf]; omega⟩
        | exact ⟨⟨trivial, i + 1, by omega, by go_num, rfl⟩, by simp [RowKit.intOf]; omega⟩
    · have h3 : ¬ (i : Int) < (k : Int) := by omega
      obtain rfl : i = k := by omega
      have hcat : tx a ++ tx (moresL i) = tx (a ++ moresL i) := tx_cat a (moresL i)
      have zz := tx_size (moresL i)
      have zl := moresL_len i
      go_wp2_with fail
      refine P2.mono ?_
      rintro e w3 ⟨vI2, vV2, vP2, rfl, hv2, hb3⟩
      have hvt2 := hv2.toT true
      obtain ⟨vI2', nI2, vV2', nV2, vP2', nP2, ee, hr1, hr2, hr3⟩ := hv2
      simp only [mdlV, List.cons.injEq, true_and, and_true] at ee
      obtain ⟨rfl, rfl, rfl⟩ := ee
      obtain ⟨aI2, cI2, rfl⟩ := hr1.shape
      obtain ⟨aV2, cV2, rfl⟩ := hr2.shape
      obtain ⟨aP2, cP2, rfl⟩ := hr3.shape
      have ev : nV2 = nV' + i := by
        have := hr2.1
        simp only [List.length_append] at this
        rw [this, HNN.out.1, HVP.out.1]
      have ep : nP2 = nP' + i := by
        have := hr3.1
        simp only [List.length_append] at this
        rw [this, HNN.out.2, HVP.out.2.1]
      subst ev ep
      obtain ⟨zp, vIx, vVx, vPx, ee, _, tI, tV, tP⟩ := hvt2
      simp only [mdlV, mdlVT, List.cons.injEq, true_and, and_true] at ee
      obtain ⟨hzp, rfl, rfl, rfl⟩ := ee
      obtain ⟨cv1, tV'⟩ := tV.pre
      obtain ⟨cp1, tP'⟩ := tP.pre
      simp only at tI tV tP tV' tP' cv1 cp1
      rw [← HNN.out.1] at tV' cv1
      rw [← HNN.out.2] at tP' cp1
      have hmod : ModT true w3 ⟨nm, mp, mi, mv, mq⟩ [.string (tx nm), .int .i64 (mp : Int), .slice aI2 nI2 cI2, .slice aV2 nV' cV2, .slice aP2 nP' cP2] := ⟨(mp : Int), _, _, _, rfl, PlT.of _ _, tI, tV', tP'⟩
      -- the last of them
      have hlast : 0 < i → ∃ xa, aV2 = some xa ∧ w3.cell? ⟨(xa.add ((nV' + i - 1) * 4)).block, (xa.add ((nV' + i - 1) * 4)).off + 2, none⟩ = some (.int .i64 (-3)) := fun hi0 => by
        obtain ⟨xa, o, cs, e1, e2, ⟨zz, e3, _⟩, _, e4⟩ := TRows.at tV (k := nV' + i - 1) (by omega)
        refine ⟨xa, e1, ?_⟩
        have ho : o ∈ V := by
          have e5 : V[i - 1]? = some o := by
            rw [List.getElem?_append_right (by rw [← HNN.out.1]; omega), ← HNN.out.1, show nV' + i - 1 - nV' = i - 1 by omega] at e2
            exact e2
          exact List.mem_of_getElem? e5
        have := e4.2 2 (.int .i64 o.init) (by decide) (by rw [e3]; rfl)
        rw [HVP.out.2.2 o ho] at this
        exact this
      have hg6 : Grow w3 (w3.alloc (.cells #[.string (tx nm), .int .i64 (mp : Int), .slice aI2 nI2 cI2, .slice aV2 (nV' + i) cV2, .slice aP2 (nP' + i) cP2] 27)) := (Below.refl _ w3).alloc (Nat.le_refl _) _
      have hc6 := heap_alloc_new w3 (.cells #[.string (tx nm), .int .i64 (mp : Int), .slice aI2 nI2 cI2, .slice aV2 (nV' + i) cV2, .slice aP2 (nP' + i) cP2] 27)
      obtain ⟨w6, hw6⟩ : ∃ w6, w3.alloc (.cells #[.string (tx nm), .int .i64 (mp : Int), .slice aI2 nI2 cI2, .slice aV2 (nV' + i) cV2, .slice aP2 (nP' + i) cP2] 27) = w6 := ⟨_, rfl⟩
      rw [hw6] at hg6 hc6
      have hgr : Grow w2 w6 := Grow.trans hb3 hg6
      have k1 := (hgr.block _ (Array.getElem?_eq_some_iff.1 H2.out.2.2).1).trans H2.out.2.2
      have hB1 : B1 ≠ w3.heap.size := by
        have h1 := (Array.getElem?_eq_some_iff.1 H2.out.2.2).1
        have h2 := hb3.size
        omega
      have hB2 : w3.heap.size ≠ B1 := hB1.symm
      have m0 : w6.cell? ⟨B1, 0, none⟩ = some (.string (tx nm)) := cellsN k1 0 _ rfl
      have m1 : w6.cell? ⟨B1, 1, none⟩ = some (.int .i64 (mp : Int)) := cellsN k1 1 _ rfl
      have m2 : w6.cell? ⟨B1, 2, none⟩ = some (.slice aI nI' cI) := cellsN k1 2 _ rfl
      have m3 : w6.cell? ⟨B1, 3, none⟩ = some (.slice aV nV' cV) := cellsN k1 3 _ rfl
      have m4 : w6.cell? ⟨B1, 4, none⟩ = some (.slice aP nP' cP) := cellsN k1 4 _ rfl
      have n0 : w6.cell? ⟨w3.heap.size, 0, none⟩ = some (.string (tx nm)) := cellsN hc6 0 _ rfl
      have n1 : w6.cell? ⟨w3.heap.size, 1, none⟩ = some (.int .i64 (mp : Int)) := cellsN hc6 1 _ rfl
      have n2 : w6.cell? ⟨w3.heap.size, 2, none⟩ = some (.slice aI2 nI2 cI2) := cellsN hc6 2 _ rfl
      have n3 : w6.cell? ⟨w3.heap.size, 3, none⟩ = some (.slice aV2 (nV' + i) cV2) := cellsN hc6 3 _ rfl
      have n4 : w6.cell? ⟨w3.heap.size, 4, none⟩ = some (.slice aP2 (nP' + i) cP2) := cellsN hc6 4 _ rfl
      have fz3 := frozen_of_row w6 w3.heap.size 3 _ _ hc6
      have fz4 := frozen_of_row w6 w3.heap.size 4 _ _ hc6
      have HGW : Hid (Grow w3 ((w6.setCell ⟨w3.heap.size, 3, none⟩ (.slice aV2 nV' cV2)).setCell ⟨w3.heap.size, 4, none⟩ (.slice aP2 nP' cP2))) := Lib.hid ((hg6.setCell (p := ⟨w3.heap.size, 3, none⟩) (Nat.le_refl _) _).setCell (p := ⟨w3.heap.size, 4, none⟩) (Nat.le_refl _) _)
      have HS := Lib.hid (fun W (hg : Grow w3 W) => ref_Whole _ _ _ _ W (hmod.later hg) ((H2.out.2.1.later hb3).later hg) rfl)
      have HB3 := Lib.hid hb3
      have HL : Hid (0 < i → ∃ xa, aV2 = some xa ∧ w6.cell? ⟨(xa.add ((nV' + i - 1) * 4)).block, (xa.add ((nV' + i - 1) * 4)).off + 2, none⟩ = some (.int .i64 (-3))) := Lib.hid fun h => by
        obtain ⟨xa, e1, e2⟩ := hlast h
        exact ⟨xa, e1, hg6.cell e2⟩
      clear hb3 hg6 hc6 hgr k1 P2 hmod hlast tI tV tP tV' tP' hr1 hr2 hr3 hzp
      have q1 : ((nV' + i : Nat) : Int) = (nV' : Int) + (i : Int) := by omega
      have q2 : ((nP' + i : Nat) : Int) = (nP' : Int) + (i : Int) := by omega
      by_cases hi0 : 0 < i
      · have h4 : (0 : Int) < (i : Int) := by omega
        obtain ⟨xa, rfl, hcell⟩ := HL.out hi0
        obtain ⟨jj, hjj⟩ : ∃ jj, nV' + i - 1 = jj := ⟨_, rfl⟩
        have hj2 : (nV' : Int) + (i : Int) - 1 = (jj : Int) := by omega
        have hj3 : (jj : Int) < (nV' : Int) + (i : Int) := by omega
        rw [hjj] at hcell
        clear HL hjj
        go_wp2_with (first | (go_at_call 8; refine (lnum_at _ _).mono ?_; rintro e w' ⟨rfl, rfl⟩))
        clear hw6
        have HSS := Lib.hid (HS.out _ HGW.out)
        have H6 := Lib.hid ((H2.out.1.trans (HB3.out.mono H2.out.1.size)).trans (HGW.out.mono (Nat.le_trans H2.out.1.size HB3.out.size)))
        generalize w3.heap.size = B2 at *
        refine HSS.out.mono ?_
        rintro e w7 ⟨b7, rfl, hb7, hg7⟩
        rw [hb7.2 (by simp)]
        have H7 := Lib.hid (H6.out.trans (hg7.mono H6.out.size))
        clear m0 m1 m2 m3 m4 n0 n1 n2 n3 n4 HS HSS hb7 hg7 fz3 fz4
        go_wp2_with (first | (go_at_call 8; refine (lnum_at _ _).mono ?_; rintro e w' ⟨rfl, rfl⟩) | (go_at_call 5; refine (awake_par HK.out _ (HT.out.later H7.out)).mono ?_; rintro e w' ⟨rfl, hb9⟩; have H9 := Lib.hid (H7.out.trans (hb9.mono H7.out.size)); clear hb9))
        go_ret
        exact ⟨rfl, H9.out⟩
      · obtain rfl : i = 0 := by omega
        simp only [Nat.add_zero] at n3 n4 hw6
        clear HL q1 q2
        go_wp2_with (first | (go_at_call 8; refine (lnum_at _ _).mono ?_; rintro e w' ⟨rfl, rfl⟩))
        clear hw6
        have HSS := Lib.hid (HS.out _ HGW.out)
        have H6 := Lib.hid ((H2.out.1.trans (HB3.out.mono H2.out.1.size)).trans (HGW.out.mono (Nat.le_trans H2.out.1.size HB3.out.size)))
        generalize w3.heap.size = B2 at *
        refine HSS.out.mono ?_
        rintro e w7 ⟨b7, rfl, hb7, hg7⟩
        rw [hb7.2 (by simp)]
        have H7 := Lib.hid (H6.out.trans (hg7.mono H6.out.size))
        clear m0 m1 m2 m3 m4 n0 n1 n2 n3 n4 HS HSS hb7 hg7 fz3 fz4
        go_wp2_with (first | (go_at_call 8; refine (lnum_at _ _).mono ?_; rintro e w' ⟨rfl, rfl⟩) | (go_at_call 5; refine (awake_par HK.out _ (HT.out.later H7.out)).mono ?_; rintro e w' ⟨rfl, hb9⟩; have H9 := Lib.hid (H7.out.trans (hb9.mono H7.out.size)); clear hb9))
        go_ret
        exact ⟨rfl, H9.out⟩

theorem parts_int (K : ParseK) (a : ByteArray) (z : Int) (x : 0 ≤ z ∧ z ≤ 255) (w : World) (ht : SgW w) : Calls Tryd.prog 4 #[.string a, .int .u8 z] w fun e w' => e = .returned (.bool true) ∧ Below w.heap.size w w' := by
  have := parts_walk K a.data.toList (UInt8.ofNat z.toNat) w ht
  have e : (((UInt8.ofNat z.toNat).toNat : Nat) : Int) = z := by
    have : (UInt8.ofNat z.toNat).toNat = z.toNat % 256 := by simp
    omega
  rw [e] at this
  exact this

end Go.Proofs.YtfcfbdemfbkgmaaDoor
