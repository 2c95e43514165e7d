/- LabelRows, walked: the loops. Numbers and types by name. -/
import Derived.Test.YtejaikpnfhhmnaaDoorLpr
import Derived.Test.YtejaikpnfhhmnaaDoorLce
import Derived.BigRegion
namespace Go.Proofs.YtejaikpnfhhmnaaDoor
open Go.RowKit Go.Lib
set_option maxRecDepth 100000

theorem Parts.take {α : Type} {size : Nat} {R : α → List Value → Prop} : ∀ {l : List α} {cs : List Value}, Parts size R l cs → ∀ q, Parts size R (l.take q) (cs.take (q * size))
  | [], cs, h, q => by
    change cs = [] at h
    subst h
    simp only [List.take_nil]
    rfl
  | _ :: _, _, _, 0 => by simp only [Nat.zero_mul, List.take_zero]; rfl
  | a :: l, cs, ⟨x, d, e, k1, k2, k3⟩, q + 1 => by
    refine ⟨x, d.take (q * size), ?_, k1, k2, Parts.take k3 q⟩
    rw [e, List.take_append, k1, List.take_of_length_le (by rw [k1, Nat.succ_mul]; omega), Nat.succ_mul, Nat.add_sub_cancel]
theorem TRows.take {α : Type} {w : World} {size n c q : Nat} {R : α → List Value → Prop} {ao : Option Addr} {l : List α} (h : TRows w size R (.slice ao n c) l) (hn : n = l.length) (hq : q ≤ n) (h0 : ao ≠ none) : TRows w size R (.slice ao q c) (l.take q) := by
  obtain ⟨h1, cs, ⟨ao', c', e, hl, hc, _, hat⟩, hp⟩ := h
  simp only [Value.slice.injEq] at e
  obtain ⟨rfl, _, rfl⟩ := e
  have hlen : (l.take q).length = q := by rw [List.length_take]; omega
  refine ⟨by omega, cs.take (q * size), ⟨ao, c, by rw [hlen], ?_, by omega, fun e => absurd e h0, fun a ha j u hj => ?_⟩, ?_⟩
  · rw [hlen, List.length_take, hl, ← hn]
    exact Nat.min_eq_left (Nat.mul_le_mul_right _ hq)
  · rw [List.getElem?_take] at hj
    split at hj
    · exact hat a ha j u hj
    · cases hj
  · exact Parts.take hp q

theorem conv_two {W : World} {b : Nat} {z : Int} (x y : UInt8) (hz : z = (y.toNat : Int)) (h : W.cell? ⟨b, 0, none⟩ = some (.int .u8 (x.toNat : Int))) (h2 : W.cell? ⟨b, 1, none⟩ = some (.int .u8 z)) : (convert 43 9 (.slice (some ⟨b, 0, none⟩) 2 2)).run Tryd.prog W = .ok (.string (tx [x, y])) W := by
  refine conv_reads ⟨some ⟨b, 0, none⟩, 2, rfl, Nat.le_refl _, (fun e => by cases e), fun a' ha j u hj => ?_⟩
  cases ha
  rw [Addr.add_lit, Nat.zero_add]
  have hj2 : j < 2 := by have := (List.getElem?_eq_some_iff.1 hj).1; simpa [bv] using this
  match j, hj2 with
  | 0, _ =>
    rw [show (bv [x, y])[0]? = some (.int .u8 (x.toNat : Int)) from rfl] at hj
    cases hj
    exact h
  | 1, _ =>
    rw [show (bv [x, y])[1]? = some (.int .u8 (y.toNat : Int)) from rfl] at hj
    cases hj
    rw [h2, hz]

theorem rowP_len (k : Nat) : (rowP k).length = k - 1 := by simp [rowP]
theorem rowP_at {k m : Nat} (h : m + 1 < k) : (rowP k)[m]? = some ([UInt8.ofNat (97 + m)], [UInt8.ofNat (98 + m)]) := by
  unfold rowP
  rw [List.getElem?_map, List.getElem?_range (by omega)]
  rfl
theorem row_take {k m : Nat} (h : m + 1 < k) : (rowP k).take (m + 1) = (rowP k).take m ++ [([UInt8.ofNat (97 + m)], [UInt8.ofNat (98 + m)])] := by
  rw [List.take_add_one, rowP_at h]
  rfl
/-- The fan as far as i. -/
theorem fan_succ (i : Nat) : fanP (i + 1) = fanP i ++ [([108, 111, 119], [109, UInt8.ofNat (97 + i)]), ([109, UInt8.ofNat (97 + i)], [116, 111, 112])] := by
  unfold fanP
  rw [List.range_succ, List.flatMap_append]
  simp
theorem fan_len : ∀ i, (fanP i).length = 2 * i
  | 0 => rfl
  | i + 1 => by rw [fan_succ, List.length_append, fan_len i]; simp; omega

theorem pzs_one8 (p q : Pr8) : ∀ u ∈ pcs p ++ pcs q, u.oneCell' = true := by
  intro u hu
  rcases List.mem_append.1 hu with h | h
  · exact pcs_one p u h
  · exact pcs_one q u h
theorem parts_two {M : List Pr8} {cs : List Value} {p q : Pr8} (hp : Parts 3 PrmR M cs) : Parts 3 PrmR (M ++ [p, q]) (cs ++ (pcs p ++ pcs q)) := by
  have h1 := Parts.snoc rfl (pcs_prm p) hp
  have h2 := Parts.snoc rfl (pcs_prm q) h1
  rw [List.append_assoc, List.append_assoc] at h2
  exact h2
theorem lit_fan (w : World) (p q : Pr8) : Hid (∀ A, Cells ((w.alloc A).alloc (.cells #[.string (tx p.1), .string (tx p.2), .int .i64 0, .string (tx q.1), .string (tx q.2), .int .i64 0] 50)) (.slice (some ⟨w.heap.size + 1, 0, none⟩) 2 2) 3 2 (pcs p ++ pcs q)) := Lib.hid fun A => by
  have h := Cells.lit (w.alloc A) (pcs p ++ pcs q) 50 (0, 0) 3 2 rfl
  rw [show (w.alloc A).heap.size = w.heap.size + 1 by simp] at h
  exact h
/-- The shape of a lattice that is told. -/
def SixK (v : Value) (n : Nat) (lo hi : Int) : Prop := ∃ a0 k0 a1 k1 a2 k2 a3 k3, v = .agg #[.slice a0 n k0, .slice a1 n k1, .slice a2 n k2, .slice a3 n k3, .int .i64 lo, .int .i64 hi]
theorem LatV.sixK {lo : Nat} {w : World} {L : List (List UInt8)} {f : Nat → Nat → Bool} {v : Value} (h : LatV lo w L f v) : SixK v L.length (lowI L.length f : Int) (lowI L.length (flipB f) : Int) := by
  obtain ⟨aN, cN, aL, cL, aJ, cJ, aM, cM, n, rfl, e, _⟩ := h
  exact ⟨aN, cN, aL, cL, aJ, cJ, aM, cM, e⟩
theorem sixK0 : SixK lat0 0 0 0 := ⟨none, 0, none, 0, none, 0, none, 0, rfl⟩
theorem row_res {lo : Nat} {w : World} {k : Nat} {v : Value} {x : Int} (h : MadeV lo w (rowP k) v x) (h1 : 2 ≤ k) (h2 : k < 16) : ∃ n y z, SixK v n y z ∧ (k ≤ 12 → x = 0 ∧ n = k ∧ y = 0 ∧ z = (k : Int) - 1) ∧ (12 < k → x = 14) := by
  have hx := makeX_row h1 h2
  have hn := row_names k h2 h1
  by_cases h12 : k ≤ 12
  · obtain ⟨c1, c2, c3, c4⟩ := row_cert k (by omega) h1
    obtain ⟨e, hv⟩ := made_known h (by omega) (by omega) (by rw [hn]; exact clos_cert _ c1) (by rw [hn]; exact c2)
    have h6 := hv.sixK
    rw [hn, c3, c4] at h6
    exact ⟨_, _, _, h6, fun _ => ⟨e, rfl, rfl, by omega⟩, fun h => by omega⟩
  · rw [if_neg h12] at hx
    obtain ⟨e, rfl⟩ := made_error h hx (by decide)
    exact ⟨_, _, _, sixK0, fun h => absurd h h12, fun _ => e⟩
theorem fan_res {lo : Nat} {w : World} {k : Nat} {v : Value} {x : Int} (h : MadeV lo w (fanP k) v x) (h1 : 2 ≤ k) (h2 : k < 16) : ∃ n y z, SixK v n y z ∧ (k ≤ 10 → x = 0 ∧ n = k + 2) ∧ (10 < k → x = 14) := by
  have hx := makeX_fan h1 h2
  have hn := fan_names k h2 h1
  by_cases h12 : k ≤ 10
  · obtain ⟨c1, c2⟩ := fan_cert k (by omega) h1
    obtain ⟨e, hv⟩ := made_known h (by omega) (by omega) (by rw [hn]; exact clos_cert _ c1) (by rw [hn]; exact c2)
    have h6 := hv.sixK
    rw [hn] at h6
    exact ⟨_, _, _, h6, fun _ => ⟨e, rfl⟩, fun h => by omega⟩
  · rw [if_neg h12] at hx
    obtain ⟨e, rfl⟩ := made_error h hx (by decide)
    exact ⟨_, _, _, sixK0, fun h => absurd h h12, fun _ => e⟩
theorem fen_res {lo : Nat} {w : World} {k : Nat} {v : Value} {x : Int} (h : MadeV lo w (fenP k) v x) (h1 : 2 ≤ k) (h2 : k < 16) : ∃ n y z, SixK v n y z ∧ (k ≤ 10 → x = 13) := by
  have hx := makeX_fen h1 h2
  obtain ⟨e, rfl⟩ := made_error h hx (by split <;> decide)
  exact ⟨_, _, _, sixK0, fun h => by rw [e, if_pos h]⟩
theorem tu_res {lo : Nat} {w : World} {v : Value} {x : Int} (h : MadeV lo w tuP v x) : ∃ n y z, SixK v n y z ∧ x = 13 := by
  obtain ⟨e, rfl⟩ := made_error h makeX_tu (by decide)
  exact ⟨_, _, _, sixK0, e⟩
theorem fen_take (k : Nat) (_h : 1 ≤ k) : fenP k = (fanP k).take (2 * k - 1) := by
  unfold fenP
  rw [List.dropLast_eq_take, fan_len]
theorem OwnPr.some {w : World} {base : Nat} {ao : Option Addr} {n c : Nat} {l : List Pr8} (h : OwnPr w base (.slice ao n c) n l) (hn : 0 < n) : ∃ a, ao = some a := by
  obtain ⟨_, cs, ⟨_, h2 | ⟨g, cap, cur, e, _⟩⟩, _⟩ := h
  · omega
  · cases e
    exact ⟨_, rfl⟩

set_option maxHeartbeats 4000000 in
theorem rows_walk (K : LabK) (z : Nat) (hz : z < 256) (w : World) (ht : SgW w) : Calls Tryd.prog 7 #[.int .u8 (z : Int)] w fun e w' => e = .returned (.bool true) ∧ Below w.heap.size w w' := by
  obtain ⟨k, hk⟩ : ∃ k, 2 + z % 14 = k := ⟨_, rfl⟩
  have hkI : (2 : Int) + (z : Int) % 14 = (k : Int) := by omega
  have hk2 : 2 ≤ k ∧ k < 16 := by omega
  have H := Lib.hid ht
  have HK := Lib.hid K
  clear hk ht K
  go_enter Tryd.func7, Tryd.ntmps7
  go_wp2_with fail
  clear hkI
  go_loopw [4, 6] (fun r i wr => ∃ j m : Nat, 1 ≤ j ∧ j ≤ k ∧ i = .int .i64 j ∧ m + 1 = j ∧ Hid (OwnPr wr w.heap.size r m ((rowP k).take m) ∧ Grow w wr)) (fun r i _ => k - (RowKit.intOf i).toNat)
  case atStart => exact ⟨1, 0, Nat.le_refl _, by omega, rfl, rfl, Lib.hid ⟨OwnPr.nil _ _, Grow.refl w⟩⟩
  case round =>
    obtain ⟨j, m, h1, h2, rfl, rfl, hs⟩ := hrel
    by_cases h3 : m + 1 < k
    · have h4 : ((m + 1 : Nat) : Int) < (k : Int) := by omega
      obtain ⟨x1, hx1⟩ : ∃ x, UInt8.ofNat (97 + m) = x := ⟨_, rfl⟩
      obtain ⟨x2, hx2⟩ : ∃ x, UInt8.ofNat (98 + m) = x := ⟨_, rfl⟩
      have hr := row_take h3
      rw [hx1, hx2] at hr
      have HR := Lib.hid hr
      have HL := lit_two wr ([x1], [x2])
      have cv1 : ∀ (W : World) (a : Addr), W.cell? a = some (.int .u8 (97 + (m : Int))) → (convert 43 9 (.slice (some a) 1 1)).run Tryd.prog W = .ok (.string (tx [x1])) W := fun W a h => conv_one _ (by rw [← hx1, UInt8.toNat_ofNat']; omega) h
      have cv2 : ∀ (W : World) (a : Addr), W.cell? a = some (.int .u8 (97 + ((m : Int) + 1))) → (convert 43 9 (.slice (some a) 1 1)).run Tryd.prog W = .ok (.string (tx [x2])) W := fun W a h => conv_one _ (by rw [← hx2, UInt8.toNat_ofNat']; omega) h
      obtain ⟨bo, d, rfl⟩ := hs.out.1.shape
      obtain ⟨hmM, cs, hcs, hpa⟩ := hs.out.1
      have HGR := Lib.hid hs.out.2
      have HO : Hid (∀ W, Grow wr W → W.ownsRow w.heap.size 50 3 (.slice bo m d) m cs) := Lib.hid fun W hg => own_chg (F := []) hcs (Chg.of_below hg) (by simp)
      have HB : Hid (∀ W, Grow wr W → w.heap.size ≤ W.heap.size) := Lib.hid fun W hg => by have := HGR.out.size; have := hg.size; omega
      have FK : Hid (m + 1 ≤ 1000000) := Lib.hid (by omega)
      have HT := Lib.hid (And.intro hmM hpa)
      clear hs hcs hmM hpa hx1 hx2 hr
      go_upto_region 6 with fail
      go_region
      all_goals
        go_wp2_with (at_builtin; refine wpList_append_gen elemPrm8 rfl (.tmp 39) (.tmp 43) rfl w.heap.size _ m cs rfl (HO.out _ (by repeat' (first | exact Grow.refl _ | refine growA _ ?_ | refine growD ?_))) _ 1 (pcs ([x1], [x2])) rfl (HL.out _ _) (pcs_one _) (m + 1) rfl FK (by decide) (HB.out _ (by repeat' (first | exact Grow.refl _ | refine growA _ ?_ | refine growD ?_))) ?_; intro ao6 c6 w6 hown6 hb6 hg6 ho6; have HN : Hid (OwnPr w6 w.heap.size (.slice ao6 (m + 1) c6) (m + 1) ((rowP k).take (m + 1)) ∧ Grow w w6) := Lib.hid ⟨⟨by rw [List.length_take, rowP_len]; omega, _, hown6, by rw [HR.out]; exact Parts.snoc rfl (pcs_prm _) HT.out.2⟩, Below.trans (by repeat' (first | exact HGR.out | refine growA _ ?_ | refine growD ?_)) hb6⟩; clear hown6 hb6 hg6 ho6)
        exact ⟨⟨m + 1 + 1, m + 1, by omega, by omega, by go_num, rfl, Lib.hid HN.out⟩, by simp [RowKit.intOf]; omega⟩
    · have h4 : ¬ ((m + 1 : Nat) : Int) < (k : Int) := by omega
      obtain rfl : m + 1 = k := by omega
      have h9 : (rowP (m + 1)).take m = rowP (m + 1) := List.take_of_length_le (by rw [rowP_len]; omega)
      have HW := hs.out
      rw [h9] at HW
      have HI : Hid (OwnPr wr w.heap.size u4 m (rowP (m + 1)) ∧ Grow w wr) := Lib.hid HW
      clear hs HW h9
      go_wp2_with fail
      rename World => w2
      go_loopw [5, 9] (fun r i wr => ∃ j n : Nat, j ≤ m + 1 ∧ i = .int .i64 j ∧ Hid (n = 2 * j ∧ OwnPr wr w2.heap.size r n (fanP j) ∧ Grow w2 wr)) (fun r i _ => (m + 1) - (RowKit.intOf i).toNat)
      case atStart => exact ⟨0, 0, by omega, rfl, Lib.hid ⟨rfl, OwnPr.nil _ _, Grow.refl w2⟩⟩
      case round =>
        obtain ⟨j, n, h1, rfl, hs⟩ := hrel
        by_cases h5 : j < m + 1
        · have h6 : (j : Int) < ((m + 1 : Nat) : Int) := by omega
          obtain ⟨x1, hx1⟩ : ∃ x, UInt8.ofNat (97 + j) = x := ⟨_, rfl⟩
          have hr := fan_succ j
          rw [hx1] at hr
          have HR := Lib.hid hr
          have cv1 : ∀ (W : World) (b : Nat), W.cell? ⟨b, 0, none⟩ = some (.int .u8 109) → W.cell? ⟨b, 1, none⟩ = some (.int .u8 (97 + (j : Int))) → (convert 43 9 (.slice (some ⟨b, 0, none⟩) 2 2)).run Tryd.prog W = .ok (.string (tx [109, x1])) W := fun W b h h2 => conv_two 109 x1 (by rw [← hx1, UInt8.toNat_ofNat']; omega) h h2
          obtain ⟨bo, d, rfl⟩ := hs.out.2.1.shape
          obtain ⟨hmM, cs, hcs, hpa⟩ := hs.out.2.1
          have HGR := Lib.hid hs.out.2.2
          have HO : Hid (∀ W, Grow wr W → W.ownsRow w2.heap.size 50 3 (.slice bo n d) n cs) := Lib.hid fun W hg => own_chg (F := []) hcs (Chg.of_below hg) (by simp)
          have HB : Hid (∀ W, Grow wr W → w2.heap.size ≤ W.heap.size) := Lib.hid fun W hg => by have := HGR.out.size; have := hg.size; omega
          have FK : Hid (n + 2 ≤ 1000000) := Lib.hid (by have := hs.out.1; omega)
          have HT := Lib.hid (And.intro hmM (And.intro hpa hs.out.1))
          have HL := lit_fan wr ([108, 111, 119], [109, x1]) ([109, x1], [116, 111, 112])
          clear hs hcs hmM hpa hx1 hr
          go_wp2_with (at_builtin; refine wpList_append_gen elemPrm8 rfl (.tmp 55) (.tmp 60) rfl w2.heap.size _ n cs rfl (HO.out _ (by repeat' (first | exact Grow.refl _ | refine growA _ ?_ | refine growD ?_))) _ 2 (pcs ([108, 111, 119], [109, x1]) ++ pcs ([109, x1], [116, 111, 112])) rfl (HL.out _) (pzs_one8 _ _) (n + 2) rfl FK (by decide) (HB.out _ (by repeat' (first | exact Grow.refl _ | refine growA _ ?_ | refine growD ?_))) ?_; intro ao6 c6 w6 hown6 hb6 hg6 ho6; have HN : Hid (OwnPr w6 w2.heap.size (.slice ao6 (n + 2) c6) (n + 2) (fanP (j + 1)) ∧ Grow w2 w6) := Lib.hid ⟨⟨by rw [fan_len]; have := HT.out.2.2; omega, _, hown6, by rw [HR.out]; exact parts_two HT.out.2.1⟩, Below.trans (by repeat' (first | exact HGR.out | refine growA _ ?_ | refine growD ?_)) hb6⟩; clear hown6 hb6 hg6 ho6)
          exact ⟨⟨j + 1, n + 2, by omega, by go_num, Lib.hid ⟨by have := HT.out.2.2; omega, HN.out⟩⟩, by simp [RowKit.intOf]; omega⟩
        · have h6 : ¬ (j : Int) < ((m + 1 : Nat) : Int) := by omega
          obtain rfl : j = m + 1 := by omega
          obtain ⟨q, hq⟩ : ∃ q, n = q + 1 := ⟨n - 1, by have := hs.out.1; omega⟩
          subst hq
          obtain ⟨ar, cr, rfl⟩ := HI.out.1.shape
          obtain ⟨bo, d, rfl⟩ := hs.out.2.1.shape
          obtain ⟨bo, rfl⟩ := hs.out.2.1.some (by omega)
          have hF := hs.out.2.1.read (by have := hs.out.1; omega)
          have hq30 : q + 1 ≤ d := by obtain ⟨h7, _, _, cs9, ⟨_, _, e9, _, h8, _⟩, _⟩ := hF; simp only [Value.slice.injEq] at e9; omega
          have HF : Hid (PrmsV wr (.slice (some bo) (q + 1) d) (q + 1) (fanP (m + 1)) ∧ PrmsV wr (.slice (some bo) q d) q (fenP (m + 1)) ∧ Grow w wr) := Lib.hid (by
            have e : q = 2 * (m + 1) - 1 := by have := hs.out.1; omega
            have h9 := TRows.take hF.2.2 hF.1 (show q ≤ q + 1 by omega) (by simp)
            refine ⟨hF, ⟨?_, by have := hF.2.1; omega, ?_⟩, Grow.trans HI.out.2 hs.out.2.2⟩
            · rw [fen_take _ (by omega), List.length_take, ← hF.1]; omega
            · rw [fen_take _ (by omega), ← e]; exact h9)
          have P1 := code_make _ m (rowP (m + 1)) wr ((HI.out.1.read (by omega)).later hs.out.2.2)
          have fq : (0 : Int) ≤ (q : Int) := by omega
          have fq2 : q ≤ 40 := by have := hs.out.1; omega
          have fq3 : (q : Int) ≤ 40 := by omega
          have fqd : (q : Int) ≤ (d : Int) := by omega
          clear hs hF
          go_wp2_with fail
          refine P1.mono ?_
          rintro e w3 ⟨hg3, v3, x1, rfl, hm3⟩
          obtain ⟨n1, y1, z1, ⟨a0, k0, a1, k1, a2, k2, a3, k3, rfl⟩, hr1⟩ := row_res hm3 hk2.1 hk2.2
          obtain ⟨W, hW⟩ : ∃ W, w3.alloc (.cells #[.slice a0 n1 k0, .slice a1 n1 k1, .slice a2 n1 k2, .slice a3 n1 k3, .int .i64 y1, .int .i64 z1] 29) = W := ⟨_, rfl⟩
          have hgW : Grow w3 W := by rw [← hW]; exact (Below.refl _ _).alloc (Nat.le_refl _) _
          have HB1 := Lib.hid (show LatB W w3.heap.size (.slice a0 n1 k0) (.slice a1 n1 k1) (.slice a2 n1 k2) (.slice a3 n1 k3) (.int .i64 y1) (.int .i64 z1) from by rw [← hW]; exact LatB.new _ _ _ _ _ _ _)
          have HG1 := Lib.hid (Grow.trans hg3 hgW)
          have P2 := code_make _ (q + 1) (fanP (m + 1)) W (HF.out.1.later HG1.out)
          have HW := Lib.hid hW
          have HR1 := Lib.hid hr1
          clear hm3 hg3 hgW hW P1 hr1
          go_upto_region 14 with fail
          rw [HW.out]
          go_wp2_with fail
          refine P2.mono ?_
          rintro e w4 ⟨hg4, v4, x2, rfl, hm4⟩
          obtain ⟨n2, y2, z2, ⟨b0, l0, b1, l1, b2, l2, b3, l3, rfl⟩, hr2⟩ := fan_res hm4 hk2.1 hk2.2
          obtain ⟨V, hV⟩ : ∃ V, w4.alloc (.cells #[.slice b0 n2 l0, .slice b1 n2 l1, .slice b2 n2 l2, .slice b3 n2 l3, .int .i64 y2, .int .i64 z2] 29) = V := ⟨_, rfl⟩
          have hgV : Grow w4 V := by rw [← hV]; exact (Below.refl _ _).alloc (Nat.le_refl _) _
          have HB2 := Lib.hid (show LatB V w4.heap.size (.slice b0 n2 l0) (.slice b1 n2 l1) (.slice b2 n2 l2) (.slice b3 n2 l3) (.int .i64 y2) (.int .i64 z2) from by rw [← hV]; exact LatB.new _ _ _ _ _ _ _)
          have HG2 := Lib.hid (Grow.trans hg4 hgV)
          have P3 := code_make _ q (fenP (m + 1)) V (HF.out.2.1.later (Grow.trans HG1.out HG2.out))
          have HV := Lib.hid hV
          have HR2 := Lib.hid hr2
          clear hm4 hg4 hgV hV P2 hr2
          go_upto_region 15 with fail
          rw [HV.out]
          go_wp2_with fail
          refine P3.mono ?_
          rintro e w5 ⟨hg5, v5, x3, rfl, hm5⟩
          obtain ⟨n3, y3, z3, ⟨c0, m0, c1, m1, c2, m2, c3, m3, rfl⟩, hr3⟩ := fen_res hm5 hk2.1 hk2.2
          obtain ⟨U, hU⟩ : ∃ U, w5.alloc (.cells #[.slice c0 n3 m0, .slice c1 n3 m1, .slice c2 n3 m2, .slice c3 n3 m3, .int .i64 y3, .int .i64 z3] 29) = U := ⟨_, rfl⟩
          have hgU : Grow w5 U := by rw [← hU]; exact (Below.refl _ _).alloc (Nat.le_refl _) _
          have HG3 := Lib.hid (Grow.trans hg5 hgU)
          have HU := Lib.hid hU
          have HR3 := Lib.hid hr3
          clear hm5 hg5 hgU hU P3 hr3
          go_upto_region 16 with fail
          rw [HU.out]
          have P4 := fun (W' : World) (a : Addr) (h : Cells W' (.slice (some a) 2 2) 3 2 (pcs ([97], [98]) ++ pcs ([98], [97]))) => code_make (.slice (some a) 2 2) 2 tuP W' ⟨rfl, by decide, by decide, _, h, parts_two (M := []) (cs := []) rfl⟩
          obtain ⟨X, hX⟩ : ∃ X, U.alloc (.cells #[.string (tx [97]), .string (tx [98]), .int .i64 0, .string (tx [98]), .string (tx [97]), .int .i64 0] 50) = X := ⟨_, rfl⟩
          have hgX : Grow U X := by rw [← hX]; exact (Below.refl _ _).alloc (Nat.le_refl _) _
          have hcX : Cells X (.slice (some ⟨U.heap.size, 0, none⟩) 2 2) 3 2 (pcs ([97], [98]) ++ pcs ([98], [97])) := by rw [← hX]; exact Cells.lit U (pcs ([97], [98]) ++ pcs ([98], [97])) 50 (0, 0) 3 2 rfl
          have P4' := P4 X _ hcX
          have HG4 := Lib.hid (show Grow wr X from Grow.trans HG1.out (Grow.trans HG2.out (Grow.trans HG3.out hgX)))
          have HX : X = U.alloc (.cells #[.string ⟨#[97]⟩, .string ⟨#[98]⟩, .int .i64 0, .string ⟨#[98]⟩, .string ⟨#[97]⟩, .int .i64 0] 50) := hX.symm
          have HX' := Lib.hid HX.symm
          have HB1' := Lib.hid (HB1.out.later (Grow.trans HG2.out (Grow.trans HG3.out hgX)))
          have HB2' := Lib.hid (HB2.out.later (Grow.trans HG3.out hgX))
          clear P4 hX hgX hcX HX HG2 HG3 HB1 HB2
          have hx := HX'.out
          go_wp2_with fail
          refine P4'.mono ?_
          rintro e w6 ⟨hg6, v6, x4, rfl, hm6⟩
          obtain ⟨n4, y4, z4, ⟨d0, o0, d1, o1, d2, o2, d3, o3, rfl⟩, hx4⟩ := tu_res hm6
          subst hx4
          obtain ⟨Y, hY⟩ : ∃ Y, w6.alloc (.cells #[.slice d0 n4 o0, .slice d1 n4 o1, .slice d2 n4 o2, .slice d3 n4 o3, .int .i64 y4, .int .i64 z4] 29) = Y := ⟨_, rfl⟩
          have hgY : Grow w6 Y := by rw [← hY]; exact (Below.refl _ _).alloc (Nat.le_refl _) _
          have HG5 := Lib.hid (show Grow w Y from Grow.trans HF.out.2.2 (Grow.trans HG4.out (Grow.trans hg6 hgY)))
          have HB1 := Lib.hid (HB1'.out.later (Grow.trans hg6 hgY))
          have HB2 := Lib.hid (HB2'.out.later (Grow.trans hg6 hgY))
          have HY := Lib.hid hY
          clear hx hm6 hg6 hgY hY P4' HB1' HB2' HX' HW HV HU
          go_upto_region 17 with fail
          rw [HY.out]
          obtain ⟨⟨f0, _, _⟩, _, f4, f5⟩ := HB1.out.cells
          obtain ⟨⟨g0, _, _⟩, _, _, _⟩ := HB2.out.cells
          have HA := Lib.hid (awake_lab HK.out Y (H.out.later HG5.out))
          by_cases h10 : m + 1 ≤ 10
          · have i10 : (m : Int) + 1 ≤ 10 := by omega
            have i12 : (m : Int) + 1 ≤ 12 := by omega
            have j12 : ¬ (12 : Int) < (m : Int) + 1 := by omega
            obtain ⟨rfl, rfl, rfl, rfl⟩ := HR1.out.1 (by omega)
            obtain ⟨rfl, rfl⟩ := HR2.out.1 h10
            obtain rfl := HR3.out h10
            go_wp2_with (first | (go_at_call 15; refine (lnum_at _ _).mono ?_; rintro e w' ⟨rfl, rfl⟩) | (go_at_call 11; refine HA.out.mono ?_; rintro e w' ⟨rfl, hb9⟩; have H9 := Lib.hid (Grow.trans HG5.out hb9); clear hb9))
            go_ret
            exact ⟨rfl, H9.out⟩
          · by_cases h12 : m + 1 ≤ 12
            · have i10 : ¬ (m : Int) + 1 ≤ 10 := by omega
              have i12 : (m : Int) + 1 ≤ 12 := by omega
              have j12 : ¬ (12 : Int) < (m : Int) + 1 := by omega
              obtain ⟨rfl, rfl, rfl, rfl⟩ := HR1.out.1 (by omega)
              obtain rfl := HR2.out.2 (by omega)
              go_wp2_with (first | (go_at_call 15; refine (lnum_at _ _).mono ?_; rintro e w' ⟨rfl, rfl⟩) | (go_at_call 11; refine HA.out.mono ?_; rintro e w' ⟨rfl, hb9⟩; have H9 := Lib.hid (Grow.trans HG5.out hb9); clear hb9))
              go_ret
              exact ⟨rfl, H9.out⟩
            · have i10 : ¬ (m : Int) + 1 ≤ 10 := by omega
              have i12 : ¬ (m : Int) + 1 ≤ 12 := by omega
              have j12 : (12 : Int) < (m : Int) + 1 := by omega
              obtain rfl := HR1.out.2 (by omega)
              obtain rfl := HR2.out.2 (by omega)
              go_wp2_with (first | (go_at_call 15; refine (lnum_at _ _).mono ?_; rintro e w' ⟨rfl, rfl⟩) | (go_at_call 11; refine HA.out.mono ?_; rintro e w' ⟨rfl, hb9⟩; have H9 := Lib.hid (Grow.trans HG5.out hb9); clear hb9))
              go_ret
              exact ⟨rfl, H9.out⟩

end Go.Proofs.YtejaikpnfhhmnaaDoor
