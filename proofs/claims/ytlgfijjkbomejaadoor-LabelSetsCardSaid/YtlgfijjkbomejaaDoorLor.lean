/- slices.Index at lists of texts; the code's order. Numbers and types by name. -/
import Derived.Test.YtlgfijjkbomejaaDoorMvs
import Derived.Test.YtlgfijjkbomejaaDoorLtc
namespace Go.Proofs.YtlgfijjkbomejaaDoor
open Go.RowKit Go.Lib Go.Sort
set_option maxRecDepth 100000

theorem idx_str (v : Value) (n : Nat) (L : List (List UInt8)) (s : List UInt8) (w : World) (h : StrV w v n L) :
    Calls Tryd.prog 12 #[v, .string (tx s)] w fun e w' => e = .returned (.int .i64 (plcT L s)) ∧ w = w' := by
  obtain ⟨ao, c, rfl⟩ := h.shape
  have H := Lib.hid h
  have hm := h.2.1
  clear h
  go_enter Tryd.func12, Tryd.ntmps12
  go_wp2_with fail
  go_loopw [8] (fun i wr => ∃ k : Nat, k ≤ n ∧ i = .int .i64 k ∧ Hid (∀ j, j < k → L[j]? ≠ some s) ∧ w = wr)
    (fun i _ => n - (RowKit.intOf i).toNat)
  case atStart => exact ⟨0, Nat.zero_le _, rfl, Lib.hid (fun j hj => by omega), rfl⟩
  case round =>
    obtain ⟨k, hk, rfl, hs, rfl⟩ := hrel
    by_cases h1 : k < n
    · have h3 : (k : Int) < (n : Int) := by omega
      obtain ⟨a, t, rfl, ht, hc⟩ := H.out.at h1
      have HT := Lib.hid ht
      clear ht
      have y1 := tx_list t
      by_cases he : t = s
      · subst he
        go_wp2_with fail
        go_ret
        rw [plcT_in (List.mem_of_getElem? HT.out), idxT_first HT.out hs.out]
        exact ⟨rfl, rfl⟩
      · have y2 := tx_list s
        have he1 : ¬ s = t := fun e => he e.symm
        have he2 : (s == t) = false := by simpa using he1
        go_wp2_with fail
        refine ⟨⟨k + 1, by omega, by go_num, Lib.hid (fun j hj => ?_), trivial⟩, by simp [RowKit.intOf]; omega⟩
        by_cases hjk : j < k
        · exact hs.out j hjk
        · obtain rfl : j = k := by omega
          rw [HT.out]
          simpa using he
    · have h3 : ¬ (k : Int) < (n : Int) := by omega
      go_wp2_with fail
      go_ret
      rw [plcT_out fun hm => by
        obtain ⟨j, hj, he⟩ := List.getElem_of_mem hm
        have := H.out.1
        exact hs.out j (by omega) (by rw [List.getElem?_eq_getElem hj, he])]
      exact ⟨rfl, rfl⟩

theorem grow_cellO {w w' : World} (h : Grow w w') {a : Addr} {u : Value} (hc : w.cell? a = some u) : w'.cell? a = some u := (World.cell?_of_block (h.block _ (World.block_lt_of_cell? w _ hc))).trans hc
/-- Rows as far as k, all noughts. -/
def mkR (n k : Nat) : List (List Value) := (List.range n).map fun i => if i < k then rowB n (fun _ => false) else []
theorem mkR_at {n k i : Nat} (hi : i < n) : (mkR n k)[i]? = some (if i < k then rowB n (fun _ => false) else []) := by
  unfold mkR
  rw [List.getElem?_map, List.getElem?_range hi]
  rfl
theorem mkR_start (n : Nat) : List.replicate n [] = mkR n 0 := by
  apply List.ext_getElem?
  intro i
  by_cases hi : i < n
  · rw [mkR_at hi]
    simp [hi]
  · rw [List.getElem?_eq_none (by simp; omega), List.getElem?_eq_none (by simp [mkR]; omega)]
theorem mkR_set {n k : Nat} (_hk : k < n) : (mkR n k).set k (rowB n fun _ => false) = mkR n (k + 1) := by
  apply List.ext_getElem?
  intro i
  by_cases hi : i < n
  · by_cases e : k = i
    · subst e
      rw [List.getElem?_set_self (by simp [mkR]; exact hi), mkR_at hi, if_pos (by omega)]
    · rw [List.getElem?_set_ne e, mkR_at hi, mkR_at hi]
      congr 1
      by_cases h : i < k
      · rw [if_pos h, if_pos (by omega)]
      · rw [if_neg h, if_neg (by omega)]
  · rw [List.getElem?_eq_none (by simp [mkR]; omega), List.getElem?_eq_none (by simp [mkR]; omega)]
theorem mkR_end (n : Nat) (L : List (List UInt8)) : mkR n n = (List.range n).map fun i => rowB n (baseP L [] i) := by
  unfold mkR
  refine List.map_congr_left fun i hi => ?_
  rw [if_pos (by simpa using hi)]
  exact range_congr fun k _ => rfl

/-- All that pairs name is in a list. -/
def InL (L : List (List UInt8)) (l : List Pr8) : Prop := ∀ p, p ∈ l → p.1 ∈ L ∧ (p.2 ≠ [] → p.2 ∈ L)
theorem inL_names (l : List Pr8) : InL (namesP l) l := fun p hp => ⟨namesP_mem.2 ⟨p, hp, .inl rfl⟩, fun h => namesP_mem.2 ⟨p, hp, .inr ⟨h, rfl⟩⟩⟩
/-- What order tells. -/
def OrdTold (w : World) (n : Nat) (L : List (List UInt8)) (l : List Pr8) (e : Ending) (w' : World) : Prop :=
  ∃ O R cp, e = .returned (.slice (some ⟨O, 0, none⟩) n n) ∧ Mat w' w.heap.size O n n R cp (baseP L l) ∧ Grow w w' ∧ w.heap.size ≤ O

set_option maxHeartbeats 8000000 in
theorem code_order (vN vl : Value) (n m : Nat) (L : List (List UInt8)) (l : List Pr8) (w : World) (hN : StrV w vN n L) (hl : PrmsV w vl m l) (hin : InL L l) (h0 : 0 < n) (hn : n ≤ 1000) :
    Calls Tryd.prog 11 #[vN, vl] w (OrdTold w n L l) := by
  obtain ⟨aN, cN, rfl⟩ := hN.shape
  obtain ⟨al, cl, rfl⟩ := hl.shape
  have H := Lib.hid (And.intro hN (And.intro hl hin))
  have hm := hl.2.1
  have FN : Hid (n ≤ 1000000) := Lib.hid (by omega)
  clear hN hl hin
  go_enter Tryd.func11, Tryd.ntmps11
  go_wp2_with (refine wpList_make_gen elemBools rfl rfl (.tmp 10) (.tmp 10) rfl w.heap.size n n n rfl rfl rfl rfl FN (by decide) (Nat.le_refl _) ?_; intro w1 hown1 hb1 hg1 hs1)
  obtain ⟨O, hO⟩ : ∃ O, w.heap.size = O := ⟨_, rfl⟩
  have HI : Hid (TabO w1 O 38 4 (.slice (some ⟨O, 0, none⟩) n n) n (List.replicate n (.slice none 0 0)) (mkR n 0) ∧ Grow w w1) := Lib.hid (by
    rw [← mkR_start, ← hO]
    exact ⟨TabO.blank hown1, below_none hg1 (Nat.le_refl _)⟩)
  rw [hO]
  have HR := Lib.hid hO
  clear hown1 hb1 hg1 hs1 hO
  go_loopw [14] (fun i wr => ∃ (b : Nat) (vs : List Value), b ≤ n ∧ i = .int .i64 b ∧ Hid (TabO wr O 38 4 (.slice (some ⟨O, 0, none⟩) n n) n vs (mkR n b) ∧ Grow w wr))
    (fun i _ => n - (RowKit.intOf i).toNat)
  case atStart => exact ⟨0, _, Nat.zero_le _, rfl, HI⟩
  case round =>
    clear HI
    obtain ⟨b, vs, hb, rfl, hs⟩ := hrel
    by_cases h1 : b < n
    · have h3 : (b : Int) < (n : Int) := by omega
      obtain ⟨vb, hvb⟩ : ∃ vb, vs[b]? = some vb := ⟨_, List.getElem?_eq_getElem (by rw [hs.out.1.vlen]; exact h1)⟩
      have HV := Lib.hid hvb
      have HB : Hid (O ≤ wr.heap.size) := Lib.hid (by have := hs.out.2.size; have := HR.out; omega)
      clear hvb
      go_wp2_with (refine wpList_make_gen elemBool rfl rfl (.tmp 20) (.tmp 20) rfl O n n n rfl rfl rfl rfl FN (by decide) HB.out ?_; intro w2 hown2 hb2 hg2 hs2; obtain ⟨k1, k2⟩ := TabO.seen (by decide) hs.out.1 HV.out (mkR_at h1) (grown_any hg2 vb.ownBlock); have HN := Lib.hid (And.intro (TabO.put (by decide) hs.out.1 HV.out (mkR_at h1) (x8 := rowB n fun _ => false) (by rw [rowB_length, ← rowB_false]; exact hown2) (grown_any hg2 vb.ownBlock) (.inr rfl)) hb2); clear hown2 hb2 hg2 hs2)
      refine ⟨⟨b + 1, vs.set b (.slice (some ⟨wr.heap.size, 0, none⟩) n n), by omega, by go_num, Lib.hid ⟨?_, ?_⟩⟩, by simp [RowKit.intOf]; omega⟩
      · have h9 := HN.out.1
        rw [mkR_set h1] at h9
        exact h9
      · have e1 : Below O w wr := HR.out ▸ hs.out.2
        show Below w.heap.size w _
        rw [HR.out]
        exact below_set (e1.trans HN.out.2) (Nat.le_refl O) _ _
    · have h3 : ¬ (b : Int) < (n : Int) := by omega
      obtain rfl : b = n := by omega
      have HM : Hid (∃ R cp, Mat wr O O b b R cp (baseP L [])) := Lib.hid (by
        have h9 := hs.out.1
        rw [mkR_end b L] at h9
        obtain ⟨O', C', R, cp, e, hM⟩ := h9.mat h0
        simp only [Value.slice.injEq, Option.some.injEq, Addr.mk.injEq, and_true, true_and] at e
        obtain ⟨rfl, rfl⟩ := e
        exact ⟨R, cp, hM⟩)
      obtain ⟨R, cp, hM⟩ := HM.out
      have HI : Hid (Mat wr O O b b R cp (baseP L (l.take 0)) ∧ Grow w wr) := Lib.hid ⟨hM, hs.out.2⟩
      clear hM HM hs
      go_wp2_with fail
      go_loopw [26] (fun i wr => ∃ k : Nat, k ≤ m ∧ i = .int .i64 k ∧ Hid (Mat wr O O b b R cp (baseP L (l.take k)) ∧ Grow w wr))
        (fun i _ => m - (RowKit.intOf i).toNat)
      case atStart => exact ⟨0, Nat.zero_le _, rfl, HI⟩
      case round =>
        clear HI
        obtain ⟨k, hk, rfl, hs⟩ := hrel
        by_cases h4 : k < m
        · have h5 : (k : Int) < (m : Int) := by omega
          obtain ⟨a, p, z, rfl, hp, c0, c1, c2⟩ := (H.out.2.1.later hs.out.2).at h4
          obtain ⟨p1, p2⟩ := p
          simp only at c0 c1
          obtain ⟨W, hW⟩ : ∃ W, wr.alloc (.cells #[.string (tx p1), .string (tx p2), .int .i64 z] 26) = W := ⟨_, rfl⟩
          have hgW : Grow wr W := by rw [← hW]; exact (Below.refl _ _).alloc (Nat.le_refl _) _
          have hbW : W.heap[wr.heap.size]? = some (.cells #[.string (tx p1), .string (tx p2), .int .i64 z] 26 (0, 0)) := by rw [← hW]; exact heap_alloc_new _ _
          have b0 : W.cell? ⟨wr.heap.size, 0, none⟩ = some (.string (tx p1)) := cellsN hbW 0 _ rfl
          have b1 : W.cell? ⟨wr.heap.size, 1, none⟩ = some (.string (tx p2)) := cellsN hbW 1 _ rfl
          have hMW := hs.out.1.later hgW
          have hGW := Grow.trans hs.out.2 hgW
          have hnx := base_take (L := L) hp
          have hmem : (p1, p2) ∈ l := List.mem_of_getElem? hp
          cases p2 with
          | nil =>
            have hem : (!(tx []).toList.isEmpty) = false := by rw [tx_list]; decide
            have HE := Lib.hid (And.intro hMW (And.intro hGW hnx))
            clear hp hs hbW hMW hGW hnx hmem
            go_wp2_with fail
            exact ⟨⟨k + 1, by omega, by go_num, Lib.hid ⟨HE.out.1.congr fun i j _ _ => by rw [HE.out.2.2]; simp, HE.out.2.1⟩⟩, by simp [RowKit.intOf]; omega⟩
          | cons ch p2 =>
            have hem : (!(tx (ch :: p2)).toList.isEmpty) = true := by rw [tx_list]; rfl
            have hin1 : p1 ∈ L := (H.out.2.2 _ hmem).1
            have hin2 : (ch :: p2) ∈ L := (H.out.2.2 _ hmem).2 (by simp)
            have hbL := H.out.1.1
            have hi1 : idxT L p1 < b := by have := idxT_lt hin1; omega
            have hi2 : idxT L (ch :: p2) < b := by have := idxT_lt hin2; omega
            have hGd : Grow w W.drew := below_drewN hGW 1
            have HII := Lib.hid (fun (t : List UInt8) (W' : World) (hg : Grow W.drew W') => idx_str _ b L t W' ((H.out.1.later hGd).later hg))
            have e1 := plcT_in hin1
            have e2 := plcT_in hin2
            have c3 := hMW.outer _ hi1
            obtain ⟨m1, f1⟩ := hMW.at hi1 hi2
            have HE := Lib.hid (And.intro hMW (And.intro hGW (And.intro hnx (And.intro hi1 hi2))))
            clear hp hs hbW hMW hGW hnx hmem hin1 hin2 hGd hbL
            generalize hx1 : idxT L p1 = x1 at *
            generalize hx2 : idxT L (ch :: p2) = x2 at *
            have HX := Lib.hid (And.intro e1 e2)
            have HXX := Lib.hid (And.intro hx1 hx2)
            clear hx1 hx2 e1 e2
            have u1 : (x1 : Int) < (b : Int) := by omega
            have u2 : (x2 : Int) < (b : Int) := by omega
            go_upto_region 11 with fail
            have LC : ∀ w', Grow W.drew w' → w'.cell? ⟨wr.heap.size, 0, none⟩ = some (.string (tx p1)) ∧ w'.cell? ⟨wr.heap.size, 1, none⟩ = some (.string (tx (ch :: p2))) ∧ w'.cell? ⟨O, x1, none⟩ = some (.slice (some ⟨R x1, 0, none⟩) b (cp x1)) ∧ w'.cell? ⟨R x1, x2, none⟩ = some (.bool (baseP L (l.take k) x1 x2)) ∧ w'.frozen? ⟨R x1, x2, none⟩ = false := fun w' hG => by
              have hgr : Grow W w' := (below_drewN (Grow.refl W) 1).trans hG
              have hM9 := HE.out.1.later hgr
              exact ⟨grow_cellO hgr b0, grow_cellO hgr b1, grow_cellO hgr c3, (hM9.at HE.out.2.2.2.1 HE.out.2.2.2.2).1, (hM9.at HE.out.2.2.2.1 HE.out.2.2.2.2).2⟩
            have HI1 : Hid (∀ w', Grow W.drew w' → Calls Tryd.prog 12 #[.slice aN b cN, .string (tx p1)] w' fun e w3 => e = .returned (.int .i64 (x1 : Int)) ∧ w3 = w') := Lib.hid (fun w' hG => (HII.out p1 w' hG).mono fun e w3 ⟨he, hw⟩ => ⟨by rw [he, HX.out.1], hw.symm⟩)
            have HI2 : Hid (∀ w', Grow W.drew w' → Calls Tryd.prog 12 #[.slice aN b cN, .string (tx (ch :: p2))] w' fun e w3 => e = .returned (.int .i64 (x2 : Int)) ∧ w3 = w') := Lib.hid (fun w' hG => (HII.out (ch :: p2) w' hG).mono fun e w3 ⟨he, hw⟩ => ⟨by rw [he, HX.out.2], hw.symm⟩)
            clear hW b0 b1 c3 m1 f1
            refine wp_region_mvs 12 [(0, 12, true), (12, 1, false)] (by kernel_rfl) (by kernel_rfl) ?_
            simp only [mvAll, mvSeg, List.drop_succ_cons, List.drop_zero, List.cons_append, List.nil_append, Nat.reduceAdd]
            iterate 4
              refine wpLins_still ?_ (fun w' hG K hK => ?_) (fun K hK => ?_)
              rotate_left
              · obtain ⟨d0, d1, d3, d4, d5⟩ := LC w' hG
                unfold mvVal
                go_simp
                try exact hK
              go_simp
              refine hK _ ?_
              clear hK K
            refine wpLins_still (.int .i64 (x1 : Int)) (fun w' hG K hK => ?_) (fun K hK => ?_)
            · unfold mvVal
              go_simp
              exact ⟨_, HI1.out w' hG, hK⟩
            go_simp
            refine hK _ ?_
            clear hK K
            iterate 5
              refine wpLins_still ?_ (fun w' hG K hK => ?_) (fun K hK => ?_)
              rotate_left
              · obtain ⟨d0, d1, d3, d4, d5⟩ := LC w' hG
                unfold mvVal
                go_simp
                try exact hK
              go_simp
              refine hK _ ?_
              clear hK K
            refine wpLins_still (.int .i64 (x2 : Int)) (fun w' hG K hK => ?_) (fun K hK => ?_)
            · unfold mvVal
              go_simp
              exact ⟨_, HI2.out w' hG, hK⟩
            go_simp
            refine hK _ ?_
            clear hK K
            iterate 1
              refine wpLins_still ?_ (fun w' hG K hK => ?_) (fun K hK => ?_)
              rotate_left
              · obtain ⟨d0, d1, d3, d4, d5⟩ := LC w' hG
                unfold mvVal
                go_simp
                try exact hK
              go_simp
              refine hK _ ?_
              clear hK K
            obtain ⟨d0, d1, d3, d4, d5⟩ := LC W.drew (Grow.refl _)
            refine wpLins_last (fun K hK => ?_)
            unfold mvRun
            go_simp
            simp only [mvUpon]
            refine hK _ _ ?_
            clear hK K
            refine wpLins_nil ?_
            go_wp2_with fail
            refine ⟨⟨k + 1, by omega, by go_num, Lib.hid ⟨?_, ?_⟩⟩, by simp [RowKit.intOf]; omega⟩
            · refine (HE.out.1.drew.set HE.out.2.2.2.1 x2 true).congr fun i j _ _ => ?_
              rw [HE.out.2.2.1]
              unfold updB
              by_cases h : i = x1 ∧ j = x2
              · obtain ⟨rfl, rfl⟩ := h
                simp
              · rw [if_neg h]
                have h8 : (decide (x1 = i) && decide (x2 = j)) = false := by
                  rw [Bool.and_eq_false_iff]
                  by_cases h9 : x1 = i
                  · right
                    subst h9
                    simpa using fun e : x2 = j => h ⟨rfl, e.symm⟩
                  · left
                    simpa using h9
                simp only [h8, Bool.and_false, Bool.or_false]
            · have e1 : Below w.heap.size w W.drew := below_drewN HE.out.2.1 1
              exact below_set e1 (by rw [HR.out]; exact (HE.out.1.lt HE.out.2.2.2.1).1) _ _
        · have h5 : ¬ (k : Int) < (m : Int) := by omega
          obtain rfl : k = m := by omega
          go_wp2_with fail
          go_ret
          have h6 : l.take k = l := List.take_of_length_le (by have := H.out.2.1.1; omega)
          have h7 := hs.out.1
          rw [h6] at h7
          exact ⟨O, R, cp, rfl, by rw [HR.out]; exact h7, hs.out.2, Nat.le_of_eq HR.out⟩

end Go.Proofs.YtlgfijjkbomejaaDoor
