/- The reference's lattice. Made by wip/tools/genlar.py. Numbers and types by name. -/
import Derived.Test.YtejaikpnfhhmnaaDoorLcw
import Derived.Test.YtejaikpnfhhmnaaDoorLcx
namespace Go.Proofs.YtejaikpnfhhmnaaDoor
open Go.RowKit Go.Lib
set_option maxRecDepth 100000

/-- What makes a lattice of an order that is closed. -/
def LattR (lo : Nat) (w : World) (L : List (List UInt8)) (f : Nat → Nat → Bool) (e : Ending) (w' : World) : Prop :=
  Grow w w' ∧ ((lattP L.length f = false ∧ e = .returned (.tuple #[lat0, .bool false])) ∨ (lattP L.length f = true ∧ ∃ v, e = .returned (.tuple #[v, .bool true]) ∧ LatV lo w' L f v))
theorem latt_noR1 {n : Nat} {f : Nat → Nat → Bool} (h : joinsP n f = false) : lattP n f = false := by
  unfold lattP
  rw [h, Bool.false_and, Bool.and_false]
theorem latt_noR2 {n : Nat} {f : Nat → Nat → Bool} (h : joinsP n (flipB f) = false) : lattP n f = false := by
  unfold lattP
  rw [h, Bool.and_false, Bool.and_false]
theorem latt_noR3 {n : Nat} {f : Nat → Nat → Bool} (h : circP n f = true) : lattP n f = false := by
  unfold lattP
  rw [h, Bool.not_true, Bool.false_and]

set_option maxHeartbeats 16000000 in
theorem ref_lattice (lo : Nat) (vN vL : Value) (n : Nat) (L : List (List UInt8)) (f : Nat → Nat → Bool) (w : World) (hN : StrV w vN n L) (hNl : BlkP (fun k => lo ≤ k) vN) (hL : TabL lo w vL n n (bB f)) (hlo : lo ≤ w.heap.size) (ht : ∀ x y z, x < n → y < n → z < n → f x y = true → f y z = true → f x z = true) (h0 : 0 < n) (hn : n ≤ 1000) :
    Calls Tryd.prog 29 #[vN, vL] w (LattR lo w L f) := by
  obtain ⟨aN, cN, rfl⟩ := hN.shape
  obtain ⟨aL, cL, rfl⟩ := hL.toV.shape
  obtain ⟨RB, hRB⟩ : ∃ RB, w.heap.size = RB := ⟨_, rfl⟩
  obtain ⟨w1, hw1⟩ : ∃ w1, w.alloc (.cells #[.slice none 0 0, .slice none 0 0, .slice none 0 0, .slice none 0 0, .int .i64 0, .int .i64 0] 29) = w1 := ⟨_, rfl⟩
  have hg1 : Grow w w1 := by rw [← hw1]; exact (Below.refl _ _).alloc (Nat.le_refl _) _
  have hB1 : LatB w1 RB (.slice none 0 0) (.slice none 0 0) (.slice none 0 0) (.slice none 0 0) (.int .i64 0) (.int .i64 0) := by rw [← hw1, ← hRB]; exact LatB.new _ _ _ _ _ _ _
  have H := Lib.hid (And.intro hN (And.intro hNl (And.intro hL (And.intro hg1 (And.intro hB1 ht)))))
  have hRB2 := hRB
  have hnL := Lib.hid hN.1
  clear hN hNl hL hg1 hB1 ht
  go_enter Tryd.func29, Tryd.ntmps29
  go_wp2_with fail
  try rw [hw1]
  clear hw1
  go_loopw [7] (fun i wr => ∃ k q : Nat, k ≤ n ∧ i = .int .i64 k ∧ Hid (∀ x y, x < k → y < n → x ≠ y → f x y = false ∨ f y x = false) ∧ wr = w1.drewN q)
    (fun i _ => n - (RowKit.intOf i).toNat)
  case atStart => exact ⟨0, 0, Nat.zero_le _, rfl, Lib.hid (fun x y hx => by omega), rfl⟩
  case round =>
    obtain ⟨k, q, hk, rfl, hs, rfl⟩ := hrel
    by_cases h1 : k < n
    · have h3 : (k : Int) < (n : Int) := by omega
      go_wp2_with fail
      go_loopw [8] (fun i wr => ∃ j r : Nat, j ≤ n ∧ i = .int .i64 j ∧ Hid (∀ y, y < j → k ≠ y → f k y = false ∨ f y k = false) ∧ wr = w1.drewN r)
        (fun i _ => n - (RowKit.intOf i).toNat)
      case atStart => exact ⟨0, q, Nat.zero_le _, rfl, Lib.hid (fun y hy => by omega), rfl⟩
      case round =>
        obtain ⟨j, r, hj, rfl, hz, rfl⟩ := hrel
        by_cases h4 : j < n
        · have h5 : (j : Int) < (n : Int) := by omega
          by_cases hkj : k = j
          · subst hkj
            go_wp2_with fail
            refine ⟨⟨k + 1, r, by omega, by go_num, Lib.hid (fun y hy hne => ?_), rfl⟩, by simp [RowKit.intOf]; omega⟩
            exact hz.out y (by omega) hne
          · have hne1 : ¬ (k : Int) = (j : Int) := by omega
            have hne2 : ((k : Int) != (j : Int)) = true := by simpa using hne1
            obtain ⟨a, b, d, rfl, c1, c2⟩ := (H.out.2.2.1.toV.later H.out.2.2.2.1).at h1 h4
            obtain ⟨a', b', d', e, c3, c4⟩ := (H.out.2.2.1.toV.later H.out.2.2.2.1).at h4 h1
            cases e
            unfold bB at c2 c4
            cases hf : f k j with
            | false =>
              rw [hf] at c2
              have HF := Lib.hid hf
              clear hf
              go_wp2_with fail
              refine ⟨⟨j + 1, r, by omega, by go_num, Lib.hid (fun y hy hne => ?_), rfl⟩, by simp [RowKit.intOf]; omega⟩
              by_cases hyj : y < j
              · exact hz.out y hyj hne
              · obtain rfl : y = j := by omega
                exact .inl HF.out
            | true =>
              rw [hf] at c2
              have HF := Lib.hid hf
              clear hf
              cases hg : f j k with
              | false =>
                rw [hg] at c4
                have HK := Lib.hid hg
                clear hg
                go_wp2_with fail
                refine ⟨⟨j + 1, r, by omega, by go_num, Lib.hid (fun y hy hne => ?_), rfl⟩, by simp [RowKit.intOf]; omega⟩
                by_cases hyj : y < j
                · exact hz.out y hyj hne
                · obtain rfl : y = j := by omega
                  exact .inr HK.out
              | true =>
                rw [hg] at c4
                have HX := Lib.hid (latt_noR3 (circ_of h1 h4 hkj HF.out hg))
                clear hg
                have HG := Lib.hid (below_drewN H.out.2.2.2.1 r)
                have HB := Lib.hid ((H.out.2.2.2.2.1.later (below_drewN (Grow.refl w1) r)))
                obtain ⟨⟨m0, m1, m2⟩, m3, m4, m5⟩ := HB.out.cells
                obtain ⟨⟨z0, z1, z2⟩, z3, z4, z5⟩ := HB.out.free
                have HS := Lib.hid (lat_set6 (w := (w1.drewN r)) HB.out.h (.slice none 0 0) (.slice none 0 0) (.slice none 0 0) (.slice none 0 0) (.int .i64 0) (.int .i64 0))
                go_wp2_with fail
                refine bodyPost_ret (res_lat2 rfl _ _ RB [.slice none 0 0, .slice none 0 0, .slice none 0 0, .slice none 0 0, .int .i64 0, .int .i64 0] rfl HS.out.1 (.bool false) rfl rfl) rfl ⟨Below.trans HG.out (HS.out.2.below (HG.out).size (by simp; omega)), .inl ⟨by rw [← hnL.out]; exact HX.out, rfl⟩⟩
        · have h5 : ¬ (j : Int) < (n : Int) := by omega
          obtain rfl : j = n := by omega
          go_wp2_with fail
          refine ⟨⟨k + 1, r, by omega, by go_num, Lib.hid (fun x y hx hy hne => ?_), rfl⟩, by simp [RowKit.intOf]; omega⟩
          by_cases hxk : x < k
          · exact hs.out x y hxk hy hne
          · obtain rfl : x = k := by omega
            exact hz.out y hy hne
    · have h3 : ¬ (k : Int) < (n : Int) := by omega
      obtain rfl : k = n := by omega
      have HC : Hid (circP k f = false) := Lib.hid (circP_iff.2 fun a b ha hb e1 e2 => by
        rcases Decidable.em (a = b) with e | e
        · exact e
        · rcases hs.out a b ha hb e with h | h
          · rw [e1] at h; cases h
          · rw [e2] at h; cases h)
      obtain ⟨w2, hw2⟩ : ∃ w2, w1.drewN q = w2 := ⟨_, rfl⟩
      have hg2 : Grow w1 w2 := by rw [← hw2]; exact below_drewN (Grow.refl w1) q
      rw [hw2]
      clear hw2 hs
      have P3 := ref_joins _ k f w2 (H.out.2.2.1.toV.later (Grow.trans H.out.2.2.2.1 hg2)) hn
      have H2 := Lib.hid (And.intro (Grow.trans H.out.2.2.2.1 hg2) hg2)
      clear hg2
      go_wp2_with fail
      refine P3.mono ?_
      rintro e w3 ⟨hg3, hj⟩
      have P4 := ref_turned _ k f w3 (H.out.2.2.1.toV.later (Grow.trans H2.out.1 hg3)) hn
      have H3 := Lib.hid (And.intro hg3 hj)
      have HE3 : Hid (∃ v b, e = .returned (.tuple #[v, .bool b])) := Lib.hid (by
        rcases hj with ⟨_, rfl⟩ | ⟨_, aJ, cJ, rfl, _⟩
        · exact ⟨_, _, rfl⟩
        · exact ⟨_, _, rfl⟩)
      obtain ⟨vJ, bJ, rfl⟩ := HE3.out
      clear hg3 hj P3
      go_wp2_with fail
      refine P4.mono ?_
      rintro e w4 ⟨aG, cG, rfl, hG, hg4⟩
      have P5 := ref_joins _ k (flipB f) w4 hG.toV hn
      have H4 := Lib.hid (Grow.trans H3.out.1 hg4)
      have P4G := Lib.hid hg4
      clear hG hg4 P4
      go_wp2_with fail
      refine P5.mono ?_
      rintro e w5 ⟨hg5, hj5⟩
      have HG := Lib.hid (Grow.trans H2.out.1 (Grow.trans H4.out hg5))
      have HB5 := Lib.hid (H.out.2.2.2.2.1.later (Grow.trans H2.out.2 (Grow.trans H4.out hg5)))
      rcases H3.out.2 with ⟨hno, e3⟩ | ⟨hyes, aJ, cJ, e3, hJ⟩
      · have HX := Lib.hid (latt_noR1 hno)
        obtain ⟨vM, bM, rfl⟩ : ∃ v b, e = .returned (.tuple #[v, .bool b]) := by
          rcases hj5 with ⟨_, rfl⟩ | ⟨_, aM, cM, rfl, _⟩
          · exact ⟨_, _, rfl⟩
          · exact ⟨_, _, rfl⟩
        cases e3
        clear hno hj5 hg5 P5
        have HB := Lib.hid (HB5.out)
        obtain ⟨⟨m0, m1, m2⟩, m3, m4, m5⟩ := HB.out.cells
        obtain ⟨⟨z0, z1, z2⟩, z3, z4, z5⟩ := HB.out.free
        have HS := Lib.hid (lat_set6 (w := w5) HB.out.h (.slice none 0 0) (.slice none 0 0) (.slice none 0 0) (.slice none 0 0) (.int .i64 0) (.int .i64 0))
        go_wp2_with fail
        refine bodyPost_ret (res_lat2 rfl _ _ RB [.slice none 0 0, .slice none 0 0, .slice none 0 0, .slice none 0 0, .int .i64 0, .int .i64 0] rfl HS.out.1 (.bool false) rfl rfl) rfl ⟨Below.trans HG.out (HS.out.2.below (HG.out).size (by simp; omega)), .inl ⟨by rw [← hnL.out]; exact HX.out, rfl⟩⟩
      cases e3
      rcases hj5 with ⟨hno, rfl⟩ | ⟨hyes2, aM, cM, rfl, hM⟩
      · have HX := Lib.hid (latt_noR2 hno)
        clear hno hg5 P5 hyes hJ
        have HB := Lib.hid (HB5.out)
        obtain ⟨⟨m0, m1, m2⟩, m3, m4, m5⟩ := HB.out.cells
        obtain ⟨⟨z0, z1, z2⟩, z3, z4, z5⟩ := HB.out.free
        have HS := Lib.hid (lat_set6 (w := w5) HB.out.h (.slice none 0 0) (.slice none 0 0) (.slice none 0 0) (.slice none 0 0) (.int .i64 0) (.int .i64 0))
        go_wp2_with fail
        refine bodyPost_ret (res_lat2 rfl _ _ RB [.slice none 0 0, .slice none 0 0, .slice none 0 0, .slice none 0 0, .int .i64 0, .int .i64 0] rfl HS.out.1 (.bool false) rfl rfl) rfl ⟨Below.trans HG.out (HS.out.2.below (HG.out).size (by simp; omega)), .inl ⟨by rw [← hnL.out]; exact HX.out, rfl⟩⟩
      have HLt : Hid (lattP k f = true) := Lib.hid (lattP_iff.2 ⟨HC.out, hyes, hyes2⟩)
      have hla := latt_of HC.out hyes
      have hlb := latt_of (flip_anti HC.out) hyes2
      have htr : ∀ x y z, x < k → y < k → z < k → f x y = true → f y z = true → f x z = true := H.out.2.2.2.2.2
      have htf : ∀ x y z, x < k → y < k → z < k → flipB f x y = true → flipB f y z = true → flipB f x z = true := fun x y z hx hy hz a b => htr z y x hz hy hx b a
      have HF1 := Lib.hid (fun j (hj : j ≤ k) => (foldJ_ok hla htr h0 j hj).1)
      have HF2 := Lib.hid (fun j (hj : j ≤ k) => (foldJ_ok hlb htf h0 j hj).1)
      have HH : Hid (foldJ k f k = lowI k (flipB f) ∧ foldJ k (flipB f) k = lowI k f) := Lib.hid ⟨foldJ_high hla htr h0, foldJ_high hlb htf h0⟩
      have HT := Lib.hid (And.intro (hJ.later (Grow.trans (P4G.out) hg5)) hM)
      have hs3 : w2.heap.size ≤ w4.heap.size := H4.out.size
      have hs5 : w4.heap.size ≤ w5.heap.size := hg5.size
      have hs2 : w1.heap.size ≤ w2.heap.size := H2.out.2.size
      have hsR : RB < w1.heap.size := H.out.2.2.2.2.1.lt
      clear hyes hyes2 hla hlb htr htf hJ hM P5 hg5
      obtain ⟨B2, hB2⟩ : ∃ B2, w5.heap.size = B2 := ⟨_, rfl⟩
      obtain ⟨W, hW⟩ : ∃ W, w5.alloc (.cells #[.slice aN k cN, .slice aL k cL, .slice aJ k cJ, .slice aM k cM, .int .i64 0, .int .i64 0] 29) = W := ⟨_, rfl⟩
      have HI : Hid (LatB W B2 (.slice aN k cN) (.slice aL k cL) (.slice aJ k cJ) (.slice aM k cM) (.int .i64 (foldJ k (flipB f) 0 : Int)) (.int .i64 (foldJ k f 0 : Int)) ∧ Grow w5 W) := Lib.hid ⟨by rw [← hW, ← hB2]; exact LatB.new _ _ _ _ _ _ _, by rw [← hW]; exact (Below.refl _ _).alloc (Nat.le_refl _) _⟩
      have HW := Lib.hid hW
      clear hW
      go_wp2_with fail
      try rw [HW.out]
      try rw [hB2]
      go_loopw [14] (fun i wr => ∃ j : Nat, j ≤ k ∧ i = .int .i64 j ∧ Hid (LatB wr B2 (.slice aN k cN) (.slice aL k cL) (.slice aJ k cJ) (.slice aM k cM) (.int .i64 (foldJ k (flipB f) j : Int)) (.int .i64 (foldJ k f j : Int)) ∧ Grow w5 wr))
        (fun i _ => k - (RowKit.intOf i).toNat)
      case atStart => exact ⟨0, Nat.zero_le _, rfl, HI⟩
      case round =>
        clear HI
        obtain ⟨j, hj, rfl, hz⟩ := hrel
        by_cases h4 : j < k
        · have h5 : (j : Int) < (k : Int) := by omega
          have u1 := HF1.out j hj
          have u2 := HF2.out j hj
          obtain ⟨a1, b1, d1, rfl, c1, c2⟩ := (HT.out.1.toV.later hz.out.2).at u1 h4
          unfold bI at c2
          rw [show joinI k f (foldJ k f j) j = foldJ k f (j + 1) from rfl] at c2
          obtain ⟨⟨m0, m1, m2⟩, m3, m4, m5⟩ := hz.out.1.cells
          obtain ⟨⟨z0, z1, z2⟩, z3, z4, z5⟩ := hz.out.1.free
          obtain ⟨W6, hW6⟩ : ∃ W6, wr.setCell ⟨B2, 5, none⟩ (.int .i64 (foldJ k f (j + 1) : Int)) = W6 := ⟨_, rfl⟩
          have hB6 : LatB W6 B2 (.slice aN k cN) (.slice aL k cL) (.slice (some a1) k cJ) (.slice aM k cM) (.int .i64 (foldJ k (flipB f) j : Int)) (.int .i64 (foldJ k f (j + 1) : Int)) := by
            rw [← hW6]
            exact ⟨heap_setCell_same _ _ _ _ _ _ hz.out.1.h⟩
          have hg6 : Grow w5 W6 := by
            rw [← hW6]
            exact below_set hz.out.2 (Nat.le_of_eq hB2) _ _
          obtain ⟨a2, b2, d2, rfl, c3, c4⟩ := (HT.out.2.toV.later hg6).at u2 h4
          unfold bI at c4
          rw [show joinI k (flipB f) (foldJ k (flipB f) j) j = foldJ k (flipB f) (j + 1) from rfl] at c4
          obtain ⟨⟨o0, o1, o2⟩, o3, o4, o5⟩ := hB6.cells
          obtain ⟨⟨y0, y1, y2⟩, y3, y4, y5⟩ := hB6.free
          have HS : Hid (LatB (W6.setCell ⟨B2, 4, none⟩ (.int .i64 (foldJ k (flipB f) (j + 1) : Int))) B2 (.slice aN k cN) (.slice aL k cL) (.slice (some a1) k cJ) (.slice (some a2) k cM) (.int .i64 (foldJ k (flipB f) (j + 1) : Int)) (.int .i64 (foldJ k f (j + 1) : Int)) ∧ Grow w5 (W6.setCell ⟨B2, 4, none⟩ (.int .i64 (foldJ k (flipB f) (j + 1) : Int)))) := Lib.hid ⟨⟨heap_setCell_same _ _ _ _ _ _ hB6.h⟩, below_set hg6 (Nat.le_of_eq hB2) _ _⟩
          generalize foldJ k f j = F1 at *
          generalize foldJ k (flipB f) j = F2 at *
          have v1 : (F1 : Int) < (k : Int) := by omega
          have v2 : (F2 : Int) < (k : Int) := by omega
          clear hB6 hg6 hz
          generalize hF3 : foldJ k f (j + 1) = F3 at *
          generalize hF4 : foldJ k (flipB f) (j + 1) = F4 at *
          have HF34 := Lib.hid (And.intro hF3 hF4)
          clear hF3 hF4
          go_wp2_with fail
          exact ⟨⟨j + 1, by omega, by go_num, Lib.hid (by rw [HF34.out.1, HF34.out.2]; exact HS.out)⟩, by simp [RowKit.intOf]; omega⟩
        · have h5 : ¬ (j : Int) < (k : Int) := by omega
          obtain rfl : j = k := by omega
          have hzB := hz.out.1
          rw [HH.out.1, HH.out.2] at hzB
          obtain ⟨⟨q0, q1, q2⟩, q3, q4, q5⟩ := hzB.cells
          have HB := Lib.hid (HB5.out.later hz.out.2)
          obtain ⟨⟨m0, m1, m2⟩, m3, m4, m5⟩ := HB.out.cells
          obtain ⟨⟨z0, z1, z2⟩, z3, z4, z5⟩ := HB.out.free
          have HS := Lib.hid (lat_set6 (w := wr) HB.out.h (.slice aN j cN) (.slice aL j cL) (.slice aJ j cJ) (.slice aM j cM) (.int .i64 (lowI j f : Int)) (.int .i64 (lowI j (flipB f) : Int)))
          have hne : B2 ≠ RB := by omega
          have HG9 := Lib.hid hz.out.2
          clear hzB hz
          go_wp2_with fail
          generalize hW9 : (((((wr.setCell ⟨RB, 0, none⟩ _).setCell ⟨RB, 1, none⟩ _).setCell ⟨RB, 2, none⟩ _).setCell ⟨RB, 3, none⟩ _).setCell ⟨RB, 4, none⟩ _).setCell ⟨RB, 5, none⟩ _ = w9
          have HS2 := HS.out
          rw [hW9] at HS2
          have e8 : Grow w wr := Grow.trans HG.out HG9.out
          have e9 : Grow w w9 := Below.trans e8 (HS2.2.below e8.size (by simp; omega))
          refine bodyPost_ret (res_lat2 rfl _ _ RB [.slice aN j cN, .slice aL j cL, .slice aJ j cJ, .slice aM j cM, .int .i64 (lowI j f : Int), .int .i64 (lowI j (flipB f) : Int)] rfl HS2.1 (.bool true) rfl rfl) rfl ⟨e9, .inr ⟨by rw [← hnL.out]; exact HLt.out, _, rfl, aN, cN, aL, cL, aJ, cJ, aM, cM, j, hnL.out, rfl, ⟨H.out.1.later e9, H.out.2.1⟩, H.out.2.2.1.later e9, ?_, ?_⟩⟩
          · exact ((HT.out.1.later HG9.out).chg HS2.2 (by simp; omega)).mono (by omega)
          · exact ((HT.out.2.later HG9.out).chg HS2.2 (by simp; omega)).mono (by omega)

end Go.Proofs.YtejaikpnfhhmnaaDoor
