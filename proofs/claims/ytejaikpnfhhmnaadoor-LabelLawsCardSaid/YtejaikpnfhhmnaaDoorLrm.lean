/- The reference's Make. Made by wip/tools/genrmk.py. Numbers and types by name. -/
import Derived.Test.YtejaikpnfhhmnaaDoorLrw
import Derived.Test.YtejaikpnfhhmnaaDoorLrl
import Derived.Test.YtejaikpnfhhmnaaDoorLrd
import Derived.Test.YtejaikpnfhhmnaaDoorMvs
namespace Go.Proofs.YtejaikpnfhhmnaaDoor
open Go.RowKit Go.Lib
set_option maxRecDepth 100000

/-- The row of one that is itself. -/
theorem diag_set {n k : Nat} : (rowB n fun _ => false).set k (.bool true) = rowB n (fun j => decide (k = j)) := by
  apply List.ext_getElem?
  intro j
  by_cases hj : j < n
  · by_cases e : k = j
    · subst e
      rw [List.getElem?_set_self (by rw [rowB_length]; exact hj), rowB_at hj]
      simp
    · rw [List.getElem?_set_ne e, rowB_at hj, rowB_at hj]
      simp [e]
  · rw [List.getElem?_eq_none (by simp [rowB]; omega), List.getElem?_eq_none (by simp [rowB]; omega)]

theorem dgB_upd (f : Nat → Nat → Bool) (x1 x2 : Nat) (i j : Nat) : updB (fun x y => decide (x = y) || f x y) x1 x2 true i j = (decide (i = j) || (f i j || (true && (decide (x1 = i) && decide (x2 = j))))) := by
  unfold updB
  by_cases h : i = x1 ∧ j = x2
  · obtain ⟨rfl, rfl⟩ := h
    simp
  · rw [if_neg h]
    have h8 : (decide (x1 = i) && decide (x2 = j)) = false := by
      rw [Bool.and_eq_false_iff]
      by_cases h9 : x1 = i
      · right
        subst h9
        simpa using fun e : x2 = j => h ⟨rfl, e.symm⟩
      · left
        simpa using h9
    rw [h8]
    simp

set_option maxHeartbeats 32000000 in
theorem ref_make (v : Value) (n : Nat) (l : List Pr8) (w : World) (h : PrmsV w v n l) :
    Calls Tryd.prog 13 #[v] w (MakeTold w l) := by
  obtain ⟨ao, c, rfl⟩ := h.shape
  obtain ⟨RB, hRB⟩ : ∃ RB, w.heap.size = RB := ⟨_, rfl⟩
  obtain ⟨w1, hw1⟩ : ∃ w1, w.alloc (.cells #[.slice none 0 0, .slice none 0 0, .slice none 0 0, .slice none 0 0, .int .i64 0, .int .i64 0] 29) = w1 := ⟨_, rfl⟩
  have hg1 : Grow w w1 := by rw [← hw1]; exact (Below.refl _ _).alloc (Nat.le_refl _) _
  have hB1 : LatB w1 RB (.slice none 0 0) (.slice none 0 0) (.slice none 0 0) (.slice none 0 0) (.int .i64 0) (.int .i64 0) := by rw [← hw1, ← hRB]; exact LatB.new _ _ _ _ _ _ _
  have hm := h.2.1
  have H := Lib.hid (And.intro (h.later hg1) (And.intro hg1 (And.intro hB1 hRB)))
  have hRB2 := hRB
  clear h hg1 hB1
  go_enter Tryd.func13, Tryd.ntmps13
  go_wp2_with fail
  try rw [hw1]
  clear hw1
  go_loopw [5, 4] (fun i o wr => ∃ (k : Nat) (bo : Option Addr) (m d : Nat), k ≤ n ∧ i = .int .i64 k ∧ o = .slice bo m d ∧ m ≤ 13 ∧ Hid (OwnS wr w1.heap.size (.slice bo m d) m (namesP (l.take k)) ∧ Grow w1 wr))
    (fun i _ _ => n - (RowKit.intOf i).toNat)
  case atStart => exact ⟨0, none, 0, 0, Nat.zero_le _, rfl, rfl, by decide, Lib.hid ⟨OwnS.nil _ _, Grow.refl _⟩⟩
  case round =>
    obtain ⟨k, bo, m, d, hk, rfl, rfl, hm13, hs⟩ := hrel
    by_cases h1 : k < n
    · have h3 : (k : Int) < (n : Int) := by omega
      obtain ⟨a, p, z, rfl, hp, c0, c1, c2⟩ := (H.out.1.later hs.out.2).at h1
      obtain ⟨p1, p2⟩ := p
      simp only at c0 c1
      have P1 := ref_ins w1.heap.size _ m _ p1 wr hs.out.1 hs.out.2.size (by omega)
      have HM := Lib.hid (And.intro hs.out.1.1 hm13)
      have HW := Lib.hid (And.intro hp hs.out)
      clear hp hs
      go_wp2_with fail
      refine P1.mono ?_
      rintro e w2 ⟨bo2, m2, d2, rfl, hO2, hC2, hF2⟩
      have hB2 : Grow w1 w2 := row_grow HW.out.2.2 HW.out.2.1 hC2
      have hm2 : m2 ≤ 14 := by
        have h5 := hO2.1
        have h6 := insT_length p1 (namesP (l.take k))
        have h7 := HM.out.1
        have h8 := HM.out.2
        omega
      obtain ⟨a', p', z', e, hp', x0, x1, x2⟩ := (H.out.1.later hB2).at h1
      cases e
      have hpp := HW.out.1
      rw [hpp] at hp'
      cases hp'
      simp only at x0 x1
      cases p2 with
      | nil =>
        have HE : Hid (OwnS w2 w1.heap.size (.slice bo2 m2 d2) m2 (namesP (l.take (k + 1))) ∧ Grow w1 w2) := Lib.hid ⟨by rw [names_take HW.out.1]; unfold addP; rw [if_pos rfl]; exact hO2, hB2⟩
        clear hO2 hB2 P1 hC2 hF2 hpp
        have hem : (!(tx []).toList.isEmpty) = false := by rw [tx_list]; decide
        by_cases hle : m2 ≤ 13
        · have hgt : ¬ (13 : Int) < (m2 : Int) := by omega
          go_wp2_with fail
          exact ⟨⟨k + 1, bo2, m2, d2, by omega, by go_num, rfl, hle, Lib.hid HE.out⟩, by simp [RowKit.intOf]; omega⟩
        · have hgt : (13 : Int) < (m2 : Int) := by omega
          have g12 : (12 : Int) < (m2 : Int) := by omega
          have g0 : ¬ (m2 : Int) = 0 := by omega
          have HX : Hid (MakeX l 14) := Lib.hid (.inr (.inl ⟨by
            have h5 := names_le l (k + 1)
            have h6 := HE.out.1.1
            omega, rfl⟩))
          have HB := Lib.hid ((H.out.2.2.1.later HE.out.2))
          obtain ⟨⟨m0, m1, m2'⟩, m3', m4, m5⟩ := HB.out.cells
          obtain ⟨⟨z0, z1, z2⟩, z3, z4, z5⟩ := HB.out.free
          have HS := Lib.hid (lat_set6 (w := w2) HB.out.h (.slice none 0 0) (.slice none 0 0) (.slice none 0 0) (.slice none 0 0) (.int .i64 0) (.int .i64 0))
          go_wp2_with fail
          have HQ := MakeTold.none (Below.trans (Grow.trans H.out.2.1 HE.out.2) (HS.out.2.below ((Grow.trans H.out.2.1 HE.out.2)).size (by simp; omega))) HX.out (by decide)
          refine bodyPost_ret (res_lat2 rfl _ _ RB [.slice none 0 0, .slice none 0 0, .slice none 0 0, .slice none 0 0, .int .i64 0, .int .i64 0] rfl HS.out.1 (.int .i64 14) rfl rfl) rfl ?_
          exact HQ
      | cons ch p2 =>
        have P2 := ref_ins w1.heap.size _ m2 _ (ch :: p2) w2 hO2 hB2.size (by omega)
        have HO := Lib.hid (And.intro hO2 hB2)
        clear hO2 hB2 P1 hC2 hF2 hpp
        have hem : (!(tx (ch :: p2)).toList.isEmpty) = true := by rw [tx_list]; rfl
        go_wp2_with fail
        refine P2.mono ?_
        rintro e w3 ⟨bo3, m3, d3, rfl, hO3, hC3, hF3⟩
        have hB3 : Grow w1 w3 := row_grow HO.out.2 HO.out.1 hC3
        have hm3 : m3 ≤ 15 := by
          have h5 := hO3.1
          have h6 := insT_length (ch :: p2) (insT p1 (namesP (l.take k)))
          have h7 := HO.out.1.1
          omega
        have HE : Hid (OwnS w3 w1.heap.size (.slice bo3 m3 d3) m3 (namesP (l.take (k + 1))) ∧ Grow w1 w3) := Lib.hid ⟨by rw [names_take HW.out.1]; unfold addP; rw [if_neg (by simp)]; exact hO3, hB3⟩
        clear hO3 hB3 P2 hC3 hF3
        by_cases hle : m3 ≤ 13
        · have hgt : ¬ (13 : Int) < (m3 : Int) := by omega
          go_wp2_with fail
          exact ⟨⟨k + 1, bo3, m3, d3, by omega, by go_num, rfl, hle, Lib.hid HE.out⟩, by simp [RowKit.intOf]; omega⟩
        · have hgt : (13 : Int) < (m3 : Int) := by omega
          have g12 : (12 : Int) < (m3 : Int) := by omega
          have g0 : ¬ (m3 : Int) = 0 := by omega
          have HX : Hid (MakeX l 14) := Lib.hid (.inr (.inl ⟨by
            have h5 := names_le l (k + 1)
            have h6 := HE.out.1.1
            omega, rfl⟩))
          have HB := Lib.hid ((H.out.2.2.1.later HE.out.2))
          obtain ⟨⟨m0, m1, m2'⟩, m3', m4, m5⟩ := HB.out.cells
          obtain ⟨⟨z0, z1, z2⟩, z3, z4, z5⟩ := HB.out.free
          have HS := Lib.hid (lat_set6 (w := w3) HB.out.h (.slice none 0 0) (.slice none 0 0) (.slice none 0 0) (.slice none 0 0) (.int .i64 0) (.int .i64 0))
          go_wp2_with fail
          have HQ := MakeTold.none (Below.trans (Grow.trans H.out.2.1 HE.out.2) (HS.out.2.below ((Grow.trans H.out.2.1 HE.out.2)).size (by simp; omega))) HX.out (by decide)
          refine bodyPost_ret (res_lat2 rfl _ _ RB [.slice none 0 0, .slice none 0 0, .slice none 0 0, .slice none 0 0, .int .i64 0, .int .i64 0] rfl HS.out.1 (.int .i64 14) rfl rfl) rfl ?_
          exact HQ
    · have h3 : ¬ (k : Int) < (n : Int) := by omega
      obtain rfl : k = n := by omega
      have HN := Lib.hid (show OwnS wr w1.heap.size (.slice bo m d) m (namesP l) ∧ Grow w1 wr from by
        have h5 : l.take k = l := List.take_of_length_le (by have := H.out.1.1; omega)
        have h6 := hs.out
        rw [h5] at h6
        exact h6)
      clear hs
      obtain ⟨wB, hwB⟩ : ∃ wB, wB = wr := ⟨_, rfl⟩
      rw [← hwB] at HN ⊢
      clear hwB
      by_cases h0 : m = 0
      · subst h0
        have HX : Hid (MakeX l 13) := Lib.hid (.inl ⟨HN.out.1.1.symm, rfl⟩)
        have g0 : (((0 : Nat) : Int) == 0) = true := rfl
        have HB := Lib.hid ((H.out.2.2.1.later HN.out.2))
        obtain ⟨⟨m0, m1, m2'⟩, m3', m4, m5⟩ := HB.out.cells
        obtain ⟨⟨z0, z1, z2⟩, z3, z4, z5⟩ := HB.out.free
        have HS := Lib.hid (lat_set6 (w := wB) HB.out.h (.slice none 0 0) (.slice none 0 0) (.slice none 0 0) (.slice none 0 0) (.int .i64 0) (.int .i64 0))
        go_wp2_with fail
        have HQ := MakeTold.none (Below.trans (Grow.trans H.out.2.1 HN.out.2) (HS.out.2.below ((Grow.trans H.out.2.1 HN.out.2)).size (by simp; omega))) HX.out (by decide)
        refine bodyPost_ret (res_lat2 rfl _ _ RB [.slice none 0 0, .slice none 0 0, .slice none 0 0, .slice none 0 0, .int .i64 0, .int .i64 0] rfl HS.out.1 (.int .i64 13) rfl rfl) rfl ?_
        exact HQ
      by_cases h12 : 12 < m
      · have g12 : (12 : Int) < (m : Int) := by omega
        have g0 : ¬ (m : Int) = 0 := by omega
        have HX : Hid (MakeX l 14) := Lib.hid (.inr (.inl ⟨by have := HN.out.1.1; omega, rfl⟩))
        have HB := Lib.hid ((H.out.2.2.1.later HN.out.2))
        obtain ⟨⟨m0, m1, m2'⟩, m3', m4, m5⟩ := HB.out.cells
        obtain ⟨⟨z0, z1, z2⟩, z3, z4, z5⟩ := HB.out.free
        have HS := Lib.hid (lat_set6 (w := wB) HB.out.h (.slice none 0 0) (.slice none 0 0) (.slice none 0 0) (.slice none 0 0) (.int .i64 0) (.int .i64 0))
        go_wp2_with fail
        have HQ := MakeTold.none (Below.trans (Grow.trans H.out.2.1 HN.out.2) (HS.out.2.below ((Grow.trans H.out.2.1 HN.out.2)).size (by simp; omega))) HX.out (by decide)
        refine bodyPost_ret (res_lat2 rfl _ _ RB [.slice none 0 0, .slice none 0 0, .slice none 0 0, .slice none 0 0, .int .i64 0, .int .i64 0] rfl HS.out.1 (.int .i64 14) rfl rfl) rfl ?_
        exact HQ
      have g12 : ¬ (12 : Int) < (m : Int) := by omega
      have g0 : ¬ (m : Int) = 0 := by omega
      have FN : Hid (m ≤ 1000000) := Lib.hid (by omega)
      clear h3
      go_wp2_with fail
      go_loopw [8, 7] (fun i o wr => ∃ (a : Nat) (bo2 : Option Addr) (d2 : Nat) (vs : List Value), a ≤ m ∧ i = .int .i64 a ∧ o = .slice bo2 a d2 ∧ Hid (TabO wr wB.heap.size 47 4 (.slice bo2 a d2) a vs ((List.range a).map fun i => rowB m (fun j => decide (i = j))) ∧ Grow wB wr))
        (fun i _ _ => m - (RowKit.intOf i).toNat)
      case atStart => exact ⟨0, none, 0, [], Nat.zero_le _, rfl, rfl, Lib.hid ⟨TabO.nil _ _ _ _, Grow.refl _⟩⟩
      case round =>
        obtain ⟨a, bo2, d2, vs, ha, rfl, rfl, hs⟩ := hrel
        by_cases h4 : a < m
        · have h5 : (a : Int) < (m : Int) := by omega
          have FK : Hid (a + 1 ≤ 1000000) := Lib.hid (by omega)
          go_wp2_with (first | (refine wpList_make_gen elemBool rfl rfl (.tmp 58) (.tmp 58) rfl wB.heap.size m m m rfl rfl rfl rfl FN (by decide) hs.out.2.size ?_; intro w2 hown2 hb2 hg2 hs2; obtain ⟨m1, f1⟩ := own_cell (w := w2) (by rw [rowB_false] at hown2; exact hown2) (rowB_at h4); have HS2 := Lib.hid (show (w2.setCell ⟨wr.heap.size, a, none⟩ (.bool true)).ownsRow wB.heap.size 4 1 (.slice (some ⟨wr.heap.size, 0, none⟩) m m) m (rowB m (fun j => decide (a = j))) ∧ Grow wr (w2.setCell ⟨wr.heap.size, a, none⟩ (.bool true)) from ⟨by rw [← diag_set]; exact own_setV (by rw [← rowB_false]; exact hown2) a _, below_set (below_none hg2 (Nat.le_refl _)) (Nat.le_refl _) _ _⟩); clear hown2 hb2 hg2 hs2; obtain ⟨W3, hW3⟩ : ∃ W3, w2.setCell ⟨wr.heap.size, a, none⟩ (.bool true) = W3 := ⟨_, rfl⟩; rw [hW3] at HS2) | (at_builtin; refine wpList_append_gen elemBools rfl (.tmp 63) (.tmp 65) rfl wB.heap.size _ a vs rfl ((hs.out.1.later HS2.out.2).outer.alloc _) _ 1 [.slice (some ⟨wr.heap.size, 0, none⟩) m m] rfl (Cells.lit _ [.slice (some ⟨wr.heap.size, 0, none⟩) m m] 47 (0, 0) 1 1 rfl) (by intro u hu; simp at hu; subst hu; rfl) (a + 1) rfl FK (by decide) (Grow.trans hs.out.2 (HS2.out.2.alloc HS2.out.2.size _)).size ?_; intro ao6 c6 w6 hown6 hb6 hg6 ho6; have HA := Lib.hid (And.intro hown6 (And.intro hg6 hb6)); clear hown6 hb6 hg6 ho6))
          refine ⟨⟨a + 1, ao6, c6, vs ++ [.slice (some ⟨wr.heap.size, 0, none⟩) m m], by omega, by go_num, rfl, Lib.hid ⟨?_, ?_⟩⟩, by simp [RowKit.intOf]; omega⟩
          · rw [rows_snoc]
            refine TabO.push (by decide) ((hs.out.1.later HS2.out.2).later ((Below.refl _ _).alloc (Nat.le_refl _) _)) (xr := rowB m fun j => decide (a = j)) ?_ ?_ HA.out.1 HA.out.2.1
            · rw [rowB_length]
              exact HS2.out.1.alloc _
            · intro i vi b hi hb hb2
              have h6 := (hs.out.1.lt hi hb).2
              have h7 : wr.heap.size = b := by simpa [Value.ownBlock] using hb2
              omega
          · have e1 := Grow.trans hs.out.2 HS2.out.2
            exact Below.trans (e1.alloc e1.size _) HA.out.2.2
        · have h5 : ¬ (a : Int) < (m : Int) := by omega
          obtain rfl : a = m := by omega
          have HMt : Hid (∃ O C R cp, (Value.slice bo2 a d2) = .slice (some ⟨O, 0, none⟩) a C ∧ Mat wr wB.heap.size O C a R cp (dgB (namesP l) (l.take 0)) ∧ wB.heap.size ≤ O) := Lib.hid (by
            have h9 := hs.out.1
            rw [show ((List.range a).map fun i => rowB a (fun j => decide (i = j))) = (List.range a).map fun i => rowB a (dgB (namesP l) (l.take 0) i) from List.map_congr_left fun i _ => range_congr fun j _ => by rw [List.take_zero, dgB_nil]] at h9
            obtain ⟨O, C, R, cp, e, hMm⟩ := h9.mat (by omega)
            refine ⟨O, C, R, cp, e, hMm, ?_⟩
            have h10 := own_low h9.outer
            exact h10 _ _ _ e)
          obtain ⟨O, C, R, cp, e, hMm, hOb⟩ := HMt.out
          cases e
          have HI : Hid (Mat wr wB.heap.size O d2 a R cp (dgB (namesP l) (l.take 0)) ∧ Grow wB wr) := Lib.hid ⟨hMm, hs.out.2⟩
          have HOb := Lib.hid hOb
          clear hMm hs HMt hOb
          go_wp2_with fail
          go_loopw [10] (fun i wr => ∃ b : Nat, b ≤ k ∧ i = .int .i64 b ∧ Hid (Mat wr wB.heap.size O d2 a R cp (dgB (namesP l) (l.take b)) ∧ Grow wB wr))
            (fun i _ => k - (RowKit.intOf i).toNat)
          case atStart => exact ⟨0, Nat.zero_le _, rfl, HI⟩
          case round =>
            clear HI
            obtain ⟨b, hb, rfl, hs⟩ := hrel
            by_cases h6 : b < k
            · have h7 : (b : Int) < (k : Int) := by omega
              obtain ⟨a0, p, z, rfl, hp, c0, c1, c2⟩ := (H.out.1.later (Grow.trans HN.out.2 hs.out.2)).at h6
              obtain ⟨p1, p2⟩ := p
              simp only at c0 c1
              have hnx := base_take (L := namesP l) hp
              have hmem : (p1, p2) ∈ l := List.mem_of_getElem? hp
              cases p2 with
              | nil =>
                have hem : (!(tx []).toList.isEmpty) = false := by rw [tx_list]; decide
                have HE := Lib.hid (And.intro hs.out.1 (And.intro hs.out.2 hnx))
                clear hp hs hnx hmem
                go_wp2_with fail
                exact ⟨⟨b + 1, by omega, by go_num, Lib.hid ⟨HE.out.1.congr fun i j _ _ => by unfold dgB; rw [HE.out.2.2]; simp, HE.out.2.1⟩⟩, by simp [RowKit.intOf]; omega⟩
              | cons ch p2 =>
                have hem : (!(tx (ch :: p2)).toList.isEmpty) = true := by rw [tx_list]; rfl
                have hin1 : p1 ∈ namesP l := (inL_names l _ hmem).1
                have hin2 : (ch :: p2) ∈ namesP l := (inL_names l _ hmem).2 (by simp)
                have hi1 : idxT (namesP l) p1 < a := by have := idxT_lt hin1; have := HN.out.1.1; omega
                have hi2 : idxT (namesP l) (ch :: p2) < a := by have := idxT_lt hin2; have := HN.out.1.1; omega
                have HII := Lib.hid (fun (t : List UInt8) (W' : World) (hg : Grow wr.drew W') => ref_plcE _ a (namesP l) t W' ((HN.out.1.read (by omega)).later (Grow.trans (below_drewN hs.out.2 1) hg)))
                have e1 := plcT_in hin1
                have e2 := plcT_in hin2
                have c3 := hs.out.1.outer _ hi1
                obtain ⟨m1, f1⟩ := hs.out.1.at hi1 hi2
                have HE := Lib.hid (And.intro hs.out.1 (And.intro hs.out.2 (And.intro hnx (And.intro hi1 hi2))))
                clear hp hs hnx hmem hin1 hin2
                generalize hx1 : idxT (namesP l) p1 = x1 at *
                generalize hx2 : idxT (namesP l) (ch :: p2) = x2 at *
                have HX := Lib.hid (And.intro e1 e2)
                clear hx1 hx2 e1 e2
                have u1 : (x1 : Int) < (a : Int) := by omega
                have u2 : (x2 : Int) < (a : Int) := by omega
                go_upto_region 25 with fail
                have LC : ∀ w', Grow wr.drew w' → w'.cell? (a0.add (b * 3)) = some (.string (tx p1)) ∧ w'.cell? ⟨(a0.add (b * 3)).block, (a0.add (b * 3)).off + 1, none⟩ = some (.string (tx (ch :: p2))) ∧ w'.cell? ⟨O, x1, none⟩ = some (.slice (some ⟨R x1, 0, none⟩) a (cp x1)) ∧ w'.cell? ⟨R x1, x2, none⟩ = some (.bool (dgB (namesP l) (l.take b) x1 x2)) ∧ w'.frozen? ⟨R x1, x2, none⟩ = false := fun w' hG => by
                  have hgr : Grow wr w' := (below_drewN (Grow.refl wr) 1).trans hG
                  have hM9 := HE.out.1.later hgr
                  exact ⟨grow_cellO hgr c0, grow_cellO hgr c1, grow_cellO hgr c3, (hM9.at HE.out.2.2.2.1 HE.out.2.2.2.2).1, (hM9.at HE.out.2.2.2.1 HE.out.2.2.2.2).2⟩
                have HI1 : Hid (∀ w', Grow wr.drew w' → Calls Tryd.prog 28 #[.slice bo a d, .string (tx p1)] w' fun e w3 => e = .returned (.int .i64 (x1 : Int)) ∧ w3 = w') := Lib.hid (fun w' hG => (HII.out p1 w' hG).mono fun e w3 ⟨he, hw⟩ => ⟨by rw [he, HX.out.1], hw.symm⟩)
                have HI2 : Hid (∀ w', Grow wr.drew w' → Calls Tryd.prog 28 #[.slice bo a d, .string (tx (ch :: p2))] w' fun e w3 => e = .returned (.int .i64 (x2 : Int)) ∧ w3 = w') := Lib.hid (fun w' hG => (HII.out (ch :: p2) w' hG).mono fun e w3 ⟨he, hw⟩ => ⟨by rw [he, HX.out.2], hw.symm⟩)
                clear c0 c1 c3 m1 f1
                refine wp_region_mvs 18 [(0, 18, true), (18, 1, false)] (by kernel_rfl) (by kernel_rfl) ?_
                simp only [mvAll, mvSeg, List.drop_succ_cons, List.drop_zero, List.cons_append, List.nil_append, Nat.reduceAdd]
                iterate 7
                  refine wpLins_still ?_ (fun w' hG K hK => ?_) (fun K hK => ?_)
                  rotate_left
                  · obtain ⟨d0, d1, d3, d4, d5⟩ := LC w' hG
                    unfold mvVal
                    go_simp
                    try exact hK
                  go_simp
                  refine hK _ ?_
                  clear hK K
                refine wpLins_still (.int .i64 (x1 : Int)) (fun w' hG K hK => ?_) (fun K hK => ?_)
                · unfold mvVal
                  go_simp
                  exact ⟨_, HI1.out w' hG, hK⟩
                go_simp
                refine hK _ ?_
                clear hK K
                iterate 8
                  refine wpLins_still ?_ (fun w' hG K hK => ?_) (fun K hK => ?_)
                  rotate_left
                  · obtain ⟨d0, d1, d3, d4, d5⟩ := LC w' hG
                    unfold mvVal
                    go_simp
                    try exact hK
                  go_simp
                  refine hK _ ?_
                  clear hK K
                refine wpLins_still (.int .i64 (x2 : Int)) (fun w' hG K hK => ?_) (fun K hK => ?_)
                · unfold mvVal
                  go_simp
                  exact ⟨_, HI2.out w' hG, hK⟩
                go_simp
                refine hK _ ?_
                clear hK K
                iterate 1
                  refine wpLins_still ?_ (fun w' hG K hK => ?_) (fun K hK => ?_)
                  rotate_left
                  · obtain ⟨d0, d1, d3, d4, d5⟩ := LC w' hG
                    unfold mvVal
                    go_simp
                    try exact hK
                  go_simp
                  refine hK _ ?_
                  clear hK K
                obtain ⟨d0, d1, d3, d4, d5⟩ := LC wr.drew (Grow.refl _)
                refine wpLins_last (fun K hK => ?_)
                unfold mvRun
                go_simp
                simp only [mvUpon]
                refine hK _ _ ?_
                clear hK K
                refine wpLins_nil ?_
                go_wp2_with fail
                refine ⟨⟨b + 1, by omega, by go_num, Lib.hid ⟨?_, ?_⟩⟩, by simp [RowKit.intOf]; omega⟩
                · refine (HE.out.1.drew.set HE.out.2.2.2.1 x2 true).congr fun i j _ _ => ?_
                  unfold dgB
                  rw [HE.out.2.2.1]
                  rw [show decide ((p1, ch :: p2).snd ≠ []) = true from by simp]
                  exact dgB_upd _ _ _ _ _
                · have e1 : Below wB.heap.size wB wr.drew := below_drewN HE.out.2.1 1
                  exact below_set e1 (HE.out.1.lt HE.out.2.2.2.1).1 _ _
            · have h7 : ¬ (b : Int) < (k : Int) := by omega
              obtain rfl : b = k := by omega
              have HI : Hid (∃ g, Mat wr wB.heap.size O d2 a R cp g ∧ WarI a (baseP (namesP l) l) g 0 ∧ Grow wB wr) := Lib.hid (by
                have h9 : l.take b = l := List.take_of_length_le (by have := H.out.1.1; omega)
                have h10 := hs.out
                rw [h9] at h10
                exact ⟨_, h10.1, dgB_war _ _, h10.2⟩)
              clear hs
              go_wp2_with fail
              go_loopw [11] (fun i wr => ∃ v : Nat, v ≤ a ∧ i = .int .i64 v ∧ Hid (∃ g, Mat wr wB.heap.size O d2 a R cp g ∧ WarI a (baseP (namesP l) l) g v ∧ Grow wB wr))
                (fun i _ => a - (RowKit.intOf i).toNat)
              case atStart => exact ⟨0, Nat.zero_le _, rfl, HI⟩
              case round =>
                clear HI
                obtain ⟨v, hv, rfl, hs⟩ := hrel
                by_cases h8 : v < a
                · have g8 : (v : Int) < (a : Int) := by omega
                  obtain ⟨g, hMg, hWg, hGg⟩ := hs.out
                  have HWar := Lib.hid hWg
                  have HI : Hid (Mat wr wB.heap.size O d2 a R cp (wst g v 0 0) ∧ Grow wB wr) := Lib.hid ⟨hMg.congr fun i j _ _ => (wst_start g v i j).symm, hGg⟩
                  clear hs hMg hWg hGg
                  go_wp2_with fail
                  go_loopw [12] (fun i wr => ∃ x : Nat, x ≤ a ∧ i = .int .i64 x ∧ Hid (Mat wr wB.heap.size O d2 a R cp (wst g v x 0) ∧ Grow wB wr))
                    (fun i _ => a - (RowKit.intOf i).toNat)
                  case atStart => exact ⟨0, Nat.zero_le _, rfl, HI⟩
                  case round =>
                    clear HI
                    obtain ⟨x, hx, rfl, hs⟩ := hrel
                    by_cases h9 : x < a
                    · have g9 : (x : Int) < (a : Int) := by omega
                      go_wp2_with fail
                      go_loopw [13] (fun i wr => ∃ y : Nat, y ≤ a ∧ i = .int .i64 y ∧ Hid (Mat wr wB.heap.size O d2 a R cp (wst g v x y) ∧ Grow wB wr))
                        (fun i _ => a - (RowKit.intOf i).toNat)
                      case atStart => exact ⟨0, Nat.zero_le _, rfl, hs⟩
                      case round =>
                        clear hs
                        obtain ⟨y, hy, rfl, hs⟩ := hrel
                        by_cases h10 : y < a
                        · have g10 : (y : Int) < (a : Int) := by omega
                          have HE := Lib.hid hs.out
                          have LC : ∀ w', Grow wr.drew w' → w'.cell? ⟨O, x, none⟩ = some (.slice (some ⟨R x, 0, none⟩) a (cp x)) ∧ w'.cell? ⟨O, v, none⟩ = some (.slice (some ⟨R v, 0, none⟩) a (cp v)) ∧ w'.cell? ⟨R x, y, none⟩ = some (.bool (g x y)) ∧ w'.cell? ⟨R x, v, none⟩ = some (.bool (g x v)) ∧ w'.cell? ⟨R v, y, none⟩ = some (.bool (g v y)) ∧ w'.frozen? ⟨R x, y, none⟩ = false := fun w' hG => by
                            have hgr : Grow wr w' := (below_drewN (Grow.refl wr) 1).trans hG
                            have hM9 := HE.out.1.later hgr
                            have e1 := hM9.at h9 h10
                            have e2 := hM9.at h9 h8
                            have e3 := hM9.at h8 h10
                            rw [wst_here] at e1
                            rw [wst_col] at e2
                            rw [wst_row] at e3
                            exact ⟨hM9.outer x h9, hM9.outer v h8, e1.1, e2.1, e3.1, e1.2⟩
                          clear hs
                          cases hf : g x y with
                          | true =>
                            have HV := Lib.hid (show (true : Bool) = (g x y || (g x v && g v y)) by rw [hf]; rfl)
                            rw [hf] at LC
                            clear hf
                            go_upto_region 35 with fail
                            refine wp_region_mvs 31 [(0, 31, true), (31, 1, false)] (by kernel_rfl) (by kernel_rfl) ?_
                            simp only [mvAll, mvSeg, List.drop_succ_cons, List.drop_zero, List.cons_append, List.nil_append, Nat.reduceAdd]
                            iterate 31
                              refine wpLins_still ?_ (fun w' hG K hK => ?_) (fun K hK => ?_)
                              rotate_left
                              · obtain ⟨d0, d1, d2', d3, d4, d5⟩ := LC w' hG
                                unfold mvVal
                                go_simp
                                try exact hK
                              go_simp
                              refine hK _ ?_
                              clear hK K
                            obtain ⟨d0, d1, d2', d3, d4, d5⟩ := LC wr.drew (Grow.refl _)
                            refine wpLins_last (fun K hK => ?_)
                            unfold mvRun
                            go_simp
                            simp only [mvUpon]
                            refine hK _ _ ?_
                            clear hK K
                            refine wpLins_nil ?_
                            go_wp2_with fail
                            exact ⟨⟨y + 1, by omega, by go_num, Lib.hid ⟨(HE.out.1.drew.set h9 y true).congr fun i j _ _ => by rw [← wst_set, ← HV.out], below_set (below_drewN HE.out.2 1) (HE.out.1.lt h9).1 _ _⟩⟩, by simp [RowKit.intOf]; omega⟩
                          | false =>
                            rw [hf] at LC
                            cases hf2 : g x v with
                            | false =>
                              have HV := Lib.hid (show (false : Bool) = (g x y || (g x v && g v y)) by rw [hf, hf2]; rfl)
                              rw [hf2] at LC
                              clear hf hf2
                              go_upto_region 35 with fail
                              refine wp_region_mvs 31 [(0, 31, true), (31, 1, false)] (by kernel_rfl) (by kernel_rfl) ?_
                              simp only [mvAll, mvSeg, List.drop_succ_cons, List.drop_zero, List.cons_append, List.nil_append, Nat.reduceAdd]
                              iterate 31
                                refine wpLins_still ?_ (fun w' hG K hK => ?_) (fun K hK => ?_)
                                rotate_left
                                · obtain ⟨d0, d1, d2', d3, d4, d5⟩ := LC w' hG
                                  unfold mvVal
                                  go_simp
                                  try exact hK
                                go_simp
                                refine hK _ ?_
                                clear hK K
                              obtain ⟨d0, d1, d2', d3, d4, d5⟩ := LC wr.drew (Grow.refl _)
                              refine wpLins_last (fun K hK => ?_)
                              unfold mvRun
                              go_simp
                              simp only [mvUpon]
                              refine hK _ _ ?_
                              clear hK K
                              refine wpLins_nil ?_
                              go_wp2_with fail
                              exact ⟨⟨y + 1, by omega, by go_num, Lib.hid ⟨(HE.out.1.drew.set h9 y false).congr fun i j _ _ => by rw [← wst_set, ← HV.out], below_set (below_drewN HE.out.2 1) (HE.out.1.lt h9).1 _ _⟩⟩, by simp [RowKit.intOf]; omega⟩
                            | true =>
                              have HV := Lib.hid (show g v y = (g x y || (g x v && g v y)) by rw [hf, hf2]; simp)
                              rw [hf2] at LC
                              clear hf hf2
                              go_upto_region 35 with fail
                              refine wp_region_mvs 31 [(0, 31, true), (31, 1, false)] (by kernel_rfl) (by kernel_rfl) ?_
                              simp only [mvAll, mvSeg, List.drop_succ_cons, List.drop_zero, List.cons_append, List.nil_append, Nat.reduceAdd]
                              iterate 31
                                refine wpLins_still ?_ (fun w' hG K hK => ?_) (fun K hK => ?_)
                                rotate_left
                                · obtain ⟨d0, d1, d2', d3, d4, d5⟩ := LC w' hG
                                  unfold mvVal
                                  go_simp
                                  try exact hK
                                go_simp
                                refine hK _ ?_
                                clear hK K
                              obtain ⟨d0, d1, d2', d3, d4, d5⟩ := LC wr.drew (Grow.refl _)
                              refine wpLins_last (fun K hK => ?_)
                              unfold mvRun
                              go_simp
                              simp only [mvUpon]
                              refine hK _ _ ?_
                              clear hK K
                              refine wpLins_nil ?_
                              go_wp2_with fail
                              exact ⟨⟨y + 1, by omega, by go_num, Lib.hid ⟨(HE.out.1.drew.set h9 y (g v y)).congr fun i j _ _ => by rw [← wst_set, ← HV.out], below_set (below_drewN HE.out.2 1) (HE.out.1.lt h9).1 _ _⟩⟩, by simp [RowKit.intOf]; omega⟩
                        · have g10 : ¬ (y : Int) < (a : Int) := by omega
                          obtain rfl : y = a := by omega
                          go_wp2_with fail
                          exact ⟨⟨x + 1, by omega, by go_num, Lib.hid ⟨hs.out.1.congr fun i j _ hj => wst_next g v x y i j hj, hs.out.2⟩⟩, by simp [RowKit.intOf]; omega⟩
                    · have g9 : ¬ (x : Int) < (a : Int) := by omega
                      obtain rfl : x = a := by omega
                      go_wp2_with fail
                      exact ⟨⟨v + 1, by omega, by go_num, Lib.hid ⟨warS g v, hs.out.1.congr fun i j hi _ => wst_end g v x i j hi, HWar.out.next h8, hs.out.2⟩⟩, by simp [RowKit.intOf]; omega⟩
                · have g8 : ¬ (v : Int) < (a : Int) := by omega
                  obtain rfl : v = a := by omega
                  obtain ⟨f, hMg, hWg, hGg⟩ := hs.out
                  have hcl := hWg.clos
                  have HmL := Lib.hid HN.out.1.1
                  have hcl2 : Clos (namesP l).length (baseP (namesP l) l) f := by rw [← HmL.out]; exact hcl
                  have P3 := ref_lattice w1.heap.size (.slice bo v d) _ v (namesP l) f wr ((HN.out.1.read (by omega)).later hGg) (own_low HN.out.1.2) ((hMg.tabL HOb.out).mono HN.out.2.size) (Nat.le_trans HN.out.2.size hGg.size) hcl.trans (by omega) (by omega)
                  have H3 := Lib.hid hGg
                  clear hMg hWg hGg hs
                  go_wp2_with fail
                  refine P3.mono ?_
                  rintro e w4 ⟨hg4, hres⟩
                  have HG14 := Lib.hid (Grow.trans HN.out.2 (Grow.trans H3.out hg4))
                  have HB4 := Lib.hid (H.out.2.2.1.later HG14.out)
                  have HG4 := Lib.hid (Grow.trans H.out.2.1 HG14.out)
                  have s1 : w1.heap.size ≤ w4.heap.size := HG14.out.size
                  have s0 : RB < w1.heap.size := H.out.2.2.1.lt
                  clear P3 hg4
                  rcases hres with ⟨hno, rfl⟩ | ⟨hyes, vv, rfl, hLV⟩
                  · have HX : Hid (MakeX l 13) := Lib.hid (.inr (.inr ⟨by have := HmL.out; omega, by have := HmL.out; omega, f, hcl2, .inl ⟨hno, rfl⟩⟩))
                    clear hno hcl hcl2
                    unfold lat0
                    have HgW : Hid (Grow w4 (w4.alloc (.cells #[.slice none 0 0, .slice none 0 0, .slice none 0 0, .slice none 0 0, .int .i64 0, .int .i64 0] 29))) := Lib.hid ((Below.refl _ _).alloc (Nat.le_refl _) _)
                    have HB := Lib.hid ((HB4.out.later HgW.out))
                    obtain ⟨⟨m0, m1, m2'⟩, m3', m4, m5⟩ := HB.out.cells
                    obtain ⟨⟨z0, z1, z2⟩, z3, z4, z5⟩ := HB.out.free
                    have HS := Lib.hid (lat_set6 (w := (w4.alloc (.cells #[.slice none 0 0, .slice none 0 0, .slice none 0 0, .slice none 0 0, .int .i64 0, .int .i64 0] 29))) HB.out.h (.slice none 0 0) (.slice none 0 0) (.slice none 0 0) (.slice none 0 0) (.int .i64 0) (.int .i64 0))
                    go_wp2_with fail
                    have HQ := MakeTold.none (Below.trans (Grow.trans HG4.out HgW.out) (HS.out.2.below ((Grow.trans HG4.out HgW.out)).size (by simp; omega))) HX.out (by decide)
                    refine bodyPost_ret (res_lat2 rfl _ _ RB [.slice none 0 0, .slice none 0 0, .slice none 0 0, .slice none 0 0, .int .i64 0, .int .i64 0] rfl HS.out.1 (.int .i64 13) rfl rfl) rfl ?_
                    exact HQ
                  · obtain ⟨aN', cN', aL, cL, aJ, cJ, aM, cM, n', hn', e, k1, k2, k3, k4⟩ := hLV
                    obtain rfl : n' = v := by rw [hn']; exact HmL.out.symm
                    have HLV := Lib.hid (show LatV w1.heap.size w4 (namesP l) f vv from ⟨aN', cN', aL, cL, aJ, cJ, aM, cM, n', hn', e, k1, k2, k3, k4⟩)
                    subst e
                    have HX : Hid (MakeX l 0 ∧ Clos (namesP l).length (baseP (namesP l) l) f ∧ lattP (namesP l).length f = true) := Lib.hid ⟨.inr (.inr ⟨by have := HmL.out; omega, by have := HmL.out; omega, f, hcl2, .inr ⟨hyes, rfl⟩⟩), hcl2, hyes⟩
                    clear hn' k1 k2 k3 k4 hyes hcl hcl2
                    generalize (lowI n' f : Int) = LoZ at *
                    generalize (lowI n' (flipB f) : Int) = HiZ at *
                    obtain ⟨W, hW⟩ : ∃ W, w4.alloc (.cells #[.slice aN' n' cN', .slice aL n' cL, .slice aJ n' cJ, .slice aM n' cM, .int .i64 LoZ, .int .i64 HiZ] 29) = W := ⟨_, rfl⟩
                    have HgW : Hid (Grow w4 W) := Lib.hid (by rw [← hW]; exact (Below.refl _ _).alloc (Nat.le_refl _) _)
                    have hbW : LatB W w4.heap.size (.slice aN' n' cN') (.slice aL n' cL) (.slice aJ n' cJ) (.slice aM n' cM) (.int .i64 LoZ) (.int .i64 HiZ) := by rw [← hW]; exact LatB.new _ _ _ _ _ _ _
                    obtain ⟨⟨q0, q1, q2⟩, q3, q4, q5⟩ := hbW.cells
                    have HB := Lib.hid (HB4.out.later HgW.out)
                    obtain ⟨⟨m0, m1, m2⟩, m3, m4, m5⟩ := HB.out.cells
                    obtain ⟨⟨z0, z1, z2⟩, z3, z4, z5⟩ := HB.out.free
                    have HS := Lib.hid (lat_set6 (w := W) HB.out.h (.slice aN' n' cN') (.slice aL n' cL) (.slice aJ n' cJ) (.slice aM n' cM) (.int .i64 LoZ) (.int .i64 HiZ))
                    have hne : w4.heap.size ≠ RB := by omega
                    clear hbW
                    go_wp2_with fail
                    generalize hW9 : (((((W.setCell ⟨RB, 0, none⟩ _).setCell ⟨RB, 1, none⟩ _).setCell ⟨RB, 2, none⟩ _).setCell ⟨RB, 3, none⟩ _).setCell ⟨RB, 4, none⟩ _).setCell ⟨RB, 5, none⟩ _ = w9
                    have HS2 := HS.out
                    rw [hW9] at HS2
                    have e8 : Grow w W := Grow.trans HG4.out HgW.out
                    refine bodyPost_ret (res_lat2 rfl _ _ RB [.slice aN' n' cN', .slice aL n' cL, .slice aJ n' cJ, .slice aM n' cM, .int .i64 LoZ, .int .i64 HiZ] rfl HS2.1 _ rfl rfl) rfl ⟨Below.trans e8 (HS2.2.below e8.size (by simp; omega)), _, _, rfl, HX.out.1, .inr ⟨rfl, f, HX.out.2.1, HX.out.2.2, ?_⟩⟩
                    exact ((HLV.out.later HgW.out).chg HS2.2 (by simp; omega)).mono H.out.2.1.size


end Go.Proofs.YtejaikpnfhhmnaaDoor
