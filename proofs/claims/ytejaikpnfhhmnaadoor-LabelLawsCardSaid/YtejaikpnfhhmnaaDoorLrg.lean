/- The reference's Right, where the answer is yes. Numbers and types by name. -/
import Derived.Test.YtejaikpnfhhmnaaDoorLrt
import Derived.Test.YtejaikpnfhhmnaaDoorLrl
import Derived.Test.YtejaikpnfhhmnaaDoorObg
namespace Go.Proofs.YtejaikpnfhhmnaaDoor
open Go.RowKit Go.Lib
set_option maxRecDepth 1000000

theorem LatV.tabs8 {lo : Nat} {w : World} {L : List (List UInt8)} {f : Nat → Nat → Bool} {aN aL aJ aM : Option Addr} {n n1 n2 n3 cN cL cJ cM : Nat} {x y : Value} (h : LatV lo w L f (.agg #[.slice aN n cN, .slice aL n1 cL, .slice aJ n2 cJ, .slice aM n3 cM, x, y])) :
    n = L.length ∧ StrV w (.slice aN n cN) n L ∧ BlkP (fun k => lo ≤ k) (.slice aN n cN) ∧ TabL lo w (.slice aL n cL) n n (bB f) ∧ TabL lo w (.slice aJ n cJ) n n (bI (joinI n f)) ∧ TabL lo w (.slice aM n cM) n n (bI (joinI n (flipB f))) := by
  obtain ⟨bN, dN, bL, dL, bJ, dJ, bM, dM, m, hm, e, h1, h2, h3, h4⟩ := h
  simp only [Value.agg.injEq, Array.mk.injEq, List.cons.injEq, Value.slice.injEq, and_true] at e
  obtain ⟨⟨rfl, rfl, rfl⟩, ⟨rfl, rfl, rfl⟩, ⟨rfl, _, rfl⟩, ⟨rfl, _, rfl⟩, _, _⟩ := e
  exact ⟨hm, h1.1, h1.2, h2, h3, h4⟩

set_option maxHeartbeats 4000000 in
theorem ref_square (lo : Nat) (aN aL aJ aM : Option Addr) (n cN cL cJ cM : Nat) (x y : Int) (L : List (List UInt8)) (f : Nat → Nat → Bool) (w : World) (h : LatV lo w L f (.agg #[.slice aN n cN, .slice aL n cL, .slice aJ n cJ, .slice aM n cM, .int .i64 x, .int .i64 y])) (hrise : RiseT L) (h0 : 0 < n) (h12 : n ≤ 12) :
    Calls Tryd.prog 35 #[.agg #[.slice aN n cN, .slice aL n cL, .slice aJ n cJ, .slice aM n cM, .int .i64 x, .int .i64 y]] w fun e w' => e = .returned (.bool true) ∧ Grow w w' := by
  obtain ⟨W, hW⟩ : ∃ W, w.alloc (.cells #[.slice aN n cN, .slice aL n cL, .slice aJ n cJ, .slice aM n cM, .int .i64 x, .int .i64 y] 29) = W := ⟨_, rfl⟩
  have hgW : Grow w W := by rw [← hW]; exact (Below.refl _ _).alloc (Nat.le_refl _) _
  have HB := Lib.hid (show LatB W w.heap.size (.slice aN n cN) (.slice aL n cL) (.slice aJ n cJ) (.slice aM n cM) (.int .i64 x) (.int .i64 y) from by rw [← hW]; exact LatB.new _ _ _ _ _ _ _)
  have HV := Lib.hid (And.intro (h.later hgW).tabs8 hrise)
  have HG := Lib.hid hgW
  have HW := Lib.hid hW
  have i1 : ¬ (n : Int) < 1 := by omega
  have i2 : ¬ (12 : Int) < (n : Int) := by omega
  obtain ⟨⟨q0, q1, _⟩, _, _, _⟩ := HB.out.cells
  clear h hrise hgW hW
  go_enter Tryd.func35, Tryd.ntmps35
  go_upto_region 1 with fail
  rw [HW.out]
  go_wp2_with fail
  go_loopw [4] (fun i wr => ∃ k : Nat, k ≤ n ∧ i = .int .i64 (k : Int) ∧ Hid (Grow W wr)) (fun i _ => n - (RowKit.intOf i).toNat)
  case atStart => exact ⟨0, Nat.zero_le _, rfl, Lib.hid (Grow.refl W)⟩
  case round =>
    clear q0 q1
    obtain ⟨k, hk, rfl, hG⟩ := hrel
    by_cases h1 : k < n
    · have h3 : (k : Int) < (n : Int) := by omega
      have k0 : (0 : Int) ≤ (k : Int) := by omega
      obtain ⟨-, s1, -, s2, -, -⟩ := HV.out.1
      obtain ⟨⟨q0, q1, _⟩, _, _, _⟩ := (HB.out.later hG.out).cells
      obtain ⟨al, bo, dl, rfl, r1, -⟩ := (s2.toV.later hG.out).row h1
      cases k with
      | zero =>
        have hz : ¬ (0 : Int) < ((0 : Nat) : Int) := by omega
        have r2 : wr.cell? al = some (.slice bo n dl) := by simpa [Addr.add] using r1
        have hn1 : (0 : Int) < (n : Int) := by omega
        clear s1 s2
        go_wp2_with fail
        go_quiet (fail)
        go_wp2_with fail
        all_goals exact ⟨⟨1, by omega, by go_num, Lib.hid (below_drewN hG.out _)⟩, by simp [RowKit.intOf]; omega⟩
      | succ t =>
        have hz : (0 : Int) < ((t + 1 : Nat) : Int) := by omega
        obtain ⟨a, u, rfl, eu, bu⟩ := (s1.later hG.out).at (show t < n by omega)
        obtain ⟨_, v, e2, ev, bv'⟩ := (s1.later hG.out).at h1
        cases e2
        have hlt := rise_lt HV.out.2 eu ev
        have y1 := tx_list u
        have y2 := tx_list v
        have hbl : Op.bytesLess v u = false := by rw [bytesLess_eq]; simpa using fun h9 => List.lt_irrefl u (List.lt_trans hlt h9)
        have hne : (v == u) = false := by simpa using fun h9 : v = u => by subst h9; exact List.lt_irrefl v hlt
        have hne2 : ¬ v = u := by simpa using hne
        have ht1 : (((t + 1 : Nat) : Int) - 1) = (t : Int) := by omega
        have ht2 : (0 : Int) ≤ (t : Int) := by omega
        have ht3 : (t : Int) < (n : Int) := by omega
        have bv2 : wr.cell? ⟨a.block, a.off + (t + 1), none⟩ = some (.string (tx v)) := by simpa [Addr.add] using bv'
        have r2 : wr.cell? ⟨al.block, al.off + (t + 1), none⟩ = some (.slice bo n dl) := by simpa [Addr.add] using r1
        clear s1 s2 eu ev hlt
        go_wp2_with fail
        go_quiet (fail)
        go_wp2_with fail
        all_goals exact ⟨⟨t + 2, by omega, by go_num, Lib.hid (below_drewN hG.out _)⟩, by simp [RowKit.intOf]; omega⟩
    · have h3 : ¬ (k : Int) < (n : Int) := by omega
      go_wp2_with fail
      go_ret
      exact ⟨rfl, Grow.trans HG.out hG.out⟩

set_option maxHeartbeats 8000000 in
theorem ref_right (lo : Nat) (aN aL aJ aM : Option Addr) (n cN cL cJ cM : Nat) (x y : Int) (L : List (List UInt8)) (f : Nat → Nat → Bool) (w : World) (h : LatV lo w L f (.agg #[.slice aN n cN, .slice aL n cL, .slice aJ n cJ, .slice aM n cM, .int .i64 x, .int .i64 y])) (hrise : RiseT L) (h0 : 0 < n) (h12 : n ≤ 12) (hlo : lo ≤ w.heap.size)
    (hr : ∀ x, x < L.length → f x x = true) (ht : ∀ x y z, x < L.length → y < L.length → z < L.length → f x y = true → f y z = true → f x z = true) (hl : lattP L.length f = true) :
    Calls Tryd.prog 21 #[.agg #[.slice aN n cN, .slice aL n cL, .slice aJ n cJ, .slice aM n cM, .int .i64 x, .int .i64 y]] w fun e w' => e = .returned (.bool true) ∧ Grow w w' := by
  have hnL := h.tabs8.1
  rw [← hnL] at hr ht hl
  obtain ⟨W, hW⟩ : ∃ W, w.alloc (.cells #[.slice aN n cN, .slice aL n cL, .slice aJ n cJ, .slice aM n cM, .int .i64 x, .int .i64 y] 29) = W := ⟨_, rfl⟩
  have hgW : Grow w W := by rw [← hW]; exact (Below.refl _ _).alloc (Nat.le_refl _) _
  have HB := Lib.hid (show LatB W w.heap.size (.slice aN n cN) (.slice aL n cL) (.slice aJ n cJ) (.slice aM n cM) (.int .i64 x) (.int .i64 y) from by rw [← hW]; exact LatB.new _ _ _ _ _ _ _)
  have P1 := ref_square lo aN aL aJ aM n cN cL cJ cM x y L f W (h.later hgW) hrise h0 h12
  have HV := Lib.hid (And.intro (h.later hgW) (And.intro hr (And.intro ht (And.intro hl (And.intro hlo hnL)))))
  have HG := Lib.hid hgW
  have HW := Lib.hid hW
  obtain ⟨⟨q0, q1, q2⟩, q3, q4, q5⟩ := HB.out.cells
  clear h hrise hgW hW hr ht hl hlo hnL
  go_enter Tryd.func21, Tryd.ntmps21
  go_upto_region 1 with fail
  rw [HW.out]
  go_wp2_with fail
  refine P1.mono ?_
  rintro e w2 ⟨rfl, hg2⟩
  have HB2 := Lib.hid (HB.out.later hg2)
  have HV2 := Lib.hid (HV.out.1.later hg2)
  have HG2 := Lib.hid (Grow.trans HG.out hg2)
  clear hg2 P1 q0 q1 q2 q3 q4 q5
  obtain ⟨⟨q0, q1, q2⟩, q3, q4, q5⟩ := HB2.out.cells
  go_wp2_with fail
  go_loopw [4] (fun i wr => ∃ a : Nat, a ≤ n ∧ i = .int .i64 (a : Int) ∧ w2 = wr) (fun i _ => n - (RowKit.intOf i).toNat)
  case atStart => exact ⟨0, Nat.zero_le _, rfl, rfl⟩
  case round =>
    obtain ⟨a, ha, rfl, rfl⟩ := hrel
    by_cases h1 : a < n
    · have h3 : (a : Int) < (n : Int) := by omega
      have a0 : (0 : Int) ≤ (a : Int) := by omega
      have haa := HV.out.2.1 a h1
      obtain ⟨al, bl, dl, e1, r1, r2⟩ := HV2.out.tabs8.2.2.2.1.toV.at h1 h1
      unfold bB at r2
      rw [haa] at r2
      clear haa
      subst e1
      go_wp2_with fail
      clear r1 r2
      go_loopw [5] (fun i wr => ∃ b : Nat, b ≤ n ∧ i = .int .i64 (b : Int) ∧ w2 = wr) (fun i _ => n - (RowKit.intOf i).toNat)
      case atStart => exact ⟨0, Nat.zero_le _, rfl, rfl⟩
      case round =>
        obtain ⟨b, hb, rfl, rfl⟩ := hrel
        by_cases h4 : b < n
        · have h5 : (b : Int) < (n : Int) := by omega
          go_wp2_with fail
          go_loopw [6] (fun i wr => ∃ c : Nat, c ≤ n ∧ i = .int .i64 (c : Int) ∧ w2 = wr) (fun i _ => n - (RowKit.intOf i).toNat)
          case atStart => exact ⟨0, Nat.zero_le _, rfl, rfl⟩
          case round =>
            obtain ⟨c, hc, rfl, rfl⟩ := hrel
            by_cases h6 : c < n
            · have h7 : (c : Int) < (n : Int) := by omega
              have b0 : (0 : Int) ≤ (b : Int) := by omega
              have c0 : (0 : Int) ≤ (c : Int) := by omega
              obtain ⟨_, bl1, dl1, e1, r1, r2⟩ := HV2.out.tabs8.2.2.2.1.toV.at h1 h4
              cases e1
              obtain ⟨_, bl2, dl2, e2, r3, r4⟩ := HV2.out.tabs8.2.2.2.1.toV.at h4 h6
              cases e2
              obtain ⟨_, bl3, dl3, e3, r5, r6⟩ := HV2.out.tabs8.2.2.2.1.toV.at h1 h6
              cases e3
              rw [r1] at r5
              cases r5
              unfold bB at r2 r4 r6
              cases hab : f a b with
              | false =>
                rw [hab] at r2
                clear hab
                go_wp2_with fail
                exact ⟨⟨c + 1, by omega, by go_num, trivial⟩, by simp [RowKit.intOf]; omega⟩
              | true =>
                rw [hab] at r2
                cases hbc : f b c with
                | false =>
                  rw [hbc] at r4
                  clear hab hbc
                  go_wp2_with fail
                  exact ⟨⟨c + 1, by omega, by go_num, trivial⟩, by simp [RowKit.intOf]; omega⟩
                | true =>
                  rw [hbc] at r4
                  rw [HV.out.2.2.1 a b c h1 h4 h6 hab hbc] at r6
                  clear hab hbc
                  go_wp2_with fail
                  exact ⟨⟨c + 1, by omega, by go_num, trivial⟩, by simp [RowKit.intOf]; omega⟩
            · have h7 : ¬ (c : Int) < (n : Int) := by omega
              go_wp2_with fail
              exact ⟨⟨b + 1, by omega, by go_num, trivial⟩, by simp [RowKit.intOf]; omega⟩
        · have h5 : ¬ (b : Int) < (n : Int) := by omega
          go_wp2_with fail
          exact ⟨⟨a + 1, by omega, by go_num, trivial⟩, by simp [RowKit.intOf]; omega⟩
    · have h3 : ¬ (a : Int) < (n : Int) := by omega
      have P2 := ref_lattice lo (.slice aN n cN) (.slice aL n cL) n L f w2 HV2.out.tabs8.2.1 HV2.out.tabs8.2.2.1 HV2.out.tabs8.2.2.2.1 (by have := HV.out.2.2.2.2.1; have := HG2.out.size; omega) HV.out.2.2.1 h0 (by omega)
      have HLP := Lib.hid HV.out.2.2.2.1
      clear q0 q1 q2 q3 q4 q5
      obtain ⟨⟨q0, q1, q2⟩, q3, q4, q5⟩ := HB2.out.cells
      go_wp2_with fail
      refine P2.mono ?_
      rintro e w3 ⟨hg3, hres⟩
      rw [← HV.out.2.2.2.2.2] at hres
      rcases hres with ⟨hno, _⟩ | ⟨_, v, rfl, hv⟩
      · rw [HLP.out] at hno
        cases hno
      have HS1 := Lib.hid ((HV2.out.later hg3).six (by rw [← HV.out.2.2.2.2.2]; omega))
      have HS2 := Lib.hid (hv.six (by rw [← HV.out.2.2.2.2.2]; omega))
      obtain ⟨b0, k0, b1, k1, b2, k2, b3, k3, m, hm, rfl, -⟩ := hv
      obtain rfl : m = n := by rw [hm, ← HV.out.2.2.2.2.2]
      clear hm
      obtain ⟨y1, hy1⟩ : ∃ y, (lowI m f : Int) = y := ⟨_, rfl⟩
      obtain ⟨y2, hy2⟩ : ∃ y, (lowI m (flipB f) : Int) = y := ⟨_, rfl⟩
      rw [hy1, hy2] at HS2 ⊢
      obtain ⟨V, hVV⟩ : ∃ V, w3.alloc (.cells #[.slice b0 m k0, .slice b1 m k1, .slice b2 m k2, .slice b3 m k3, .int .i64 y1, .int .i64 y2] 29) = V := ⟨_, rfl⟩
      have hgV : Grow w3 V := by rw [← hVV]; exact (Below.refl _ _).alloc (Nat.le_refl _) _
      have HBV := Lib.hid (show LatB V w3.heap.size (.slice b0 m k0) (.slice b1 m k1) (.slice b2 m k2) (.slice b3 m k3) (.int .i64 y1) (.int .i64 y2) from by rw [← hVV]; exact LatB.new _ _ _ _ _ _ _)
      have HBo := Lib.hid (HB2.out.later (Grow.trans hg3 hgV))
      have HGV := Lib.hid (Grow.trans HG2.out (Grow.trans hg3 hgV))
      have HSS := Lib.hid (same_yes _ _ L f _ _ _ _ V (HS1.out.later hgV) (HS2.out.later hgV))
      have HVV := Lib.hid hVV
      clear hg3 hgV hVV P2 HS1 HS2 hy1 hy2 q0 q1 q2 q3 q4 q5
      go_upto_region 18 with fail
      rw [HVV.out]
      obtain ⟨⟨q0, q1, q2⟩, q3, q4, q5⟩ := HBo.out.cells
      obtain ⟨⟨g0, g1, g2⟩, g3, g4, g5⟩ := HBV.out.cells
      go_wp2_with (go_at_call 14; refine HSS.out.mono ?_; rintro e w' ⟨rfl, hb8⟩; have H8 := Lib.hid hb8; clear hb8)
      go_ret
      exact ⟨rfl, Grow.trans HGV.out H8.out⟩

end Go.Proofs.YtejaikpnfhhmnaaDoor
