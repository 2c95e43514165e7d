/- Two sets put together: cmp.Compare at texts, the code's merge. Numbers and types by name. -/
import Derived.Test.YtlgfijjkbomejaaGreatDoorFcb
import Derived.Test.YtlgfijjkbomejaaGreatDoorMvu
import Derived.Test.YtlgfijjkbomejaaGreatDoorTxt
namespace Go.Proofs.YtlgfijjkbomejaaGreatDoor
open Go.RowKit Go.Lib Go.Sort
set_option maxRecDepth 100000

def cmpT (x y : B8) : Int := if x < y then -1 else if y < x then 1 else 0
theorem nan_str (s : ByteArray) (w : World) : Calls Tryz.prog 78 #[.string s] w fun e w' => e = .returned (.bool false) ∧ w' = w := by
  go_enter Tryz.func78, Tryz.ntmps78
  go_wp2_with fail
  go_ret
  exact ⟨rfl, rfl⟩
theorem cmp_str (x y : B8) (w : World) : Calls Tryz.prog 33 #[.string (tx x), .string (tx y)] w fun e w' => e = .returned (.int .i64 (cmpT x y)) ∧ w' = w := by
  have b1 : Op.bytesLess (tx x).toList (tx y).toList = decide (x < y) := by rw [tx_list, tx_list, bytesLess_eq]
  have b2 : Op.bytesLess (tx y).toList (tx x).toList = decide (y < x) := by rw [tx_list, tx_list, bytesLess_eq]
  unfold cmpT
  by_cases h1 : x < y
  · rw [decide_eq_true h1] at b1
    rw [if_pos h1]
    clear b2
    go_enter Tryz.func33, Tryz.ntmps33
    go_wp2_with (go_at_call 78; refine (nan_str _ _).mono ?_; rintro e w' ⟨rfl, rfl⟩)
    go_ret
    exact ⟨rfl, rfl⟩
  · rw [decide_eq_false h1] at b1
    rw [if_neg h1]
    by_cases h2 : y < x
    · rw [decide_eq_true h2] at b2
      rw [if_pos h2]
      have b3 : ((tx x).toList == (tx y).toList) = false := by rw [tx_list, tx_list, beq_eq_false_iff_ne]; exact fun e => lt_irr8 y (by rw [e] at h2; exact h2)
      go_enter Tryz.func33, Tryz.ntmps33
      go_wp2_with (go_at_call 78; refine (nan_str _ _).mono ?_; rintro e w' ⟨rfl, rfl⟩)
      go_ret
      exact ⟨rfl, rfl⟩
    · rw [decide_eq_false h2] at b2
      rw [if_neg h2]
      have b3 : ((tx x).toList == (tx y).toList) = true := by
        rw [tx_list, tx_list, beq_iff_eq]
        by_cases e : x = y
        · exact e
        · exact absurd (lt_tri8 h1 e) h2
      go_enter Tryz.func33, Tryz.ntmps33
      go_wp2_with (go_at_call 78; refine (nan_str _ _).mono ?_; rintro e w' ⟨rfl, rfl⟩)
      go_ret
      exact ⟨rfl, rfl⟩

theorem cell_low {w W : World} (hg : Below w.heap.size w W) {a : Addr} {u : Value} (hc : w.cell? a = some u) : W.cell? a = some u := (World.cell?_of_block (hg.block _ (World.block_lt_of_cell? w _ hc))).trans hc
theorem below_none2 (w : World) (o : Obj) : Below w.heap.size w (w.drew.alloc o) := (below_drewN (Below.refl _ w) 1).alloc (by simp) o
def lenV : Value → Nat
  | .slice _ n _ => n
  | _ => 0
theorem StrV.tail {w : World} {a b : Addr} {n c : Nat} {x : B8} {L : List B8} (h : StrV w (.slice (some a) (n + 1) c) (n + 1) (x :: L)) (hb : b = a.add 1 ∨ n = 0) : StrV w (.slice (some b) n (c - 1)) n L := by
  obtain ⟨h1, h2, ao, cap, e, h3, h4, h5, h6⟩ := h
  simp only [Value.slice.injEq] at e
  obtain ⟨rfl, _, rfl⟩ := e
  have hl : n = L.length := by simpa using h1
  refine ⟨hl, by omega, some b, c - 1, rfl, by rw [sx_length]; omega, by omega, (fun e => by cases e), fun a' ha j u hj => ?_⟩
  cases ha
  have hjl := (List.getElem?_eq_some_iff.1 hj).1
  rw [sx_length] at hjl
  rcases hb with rfl | h0
  · have := h6 a rfl (j + 1) u (by simpa [sx] using hj)
    rw [← this]
    congr 1
    unfold Addr.add
    by_cases hj0 : j = 0
    · simp [hj0]
    · simp [hj0]; omega
  · omega
theorem StrV.tail_at {w : World} {a : Addr} {n c : Nat} {x : B8} {L : List B8} (h : StrV w (.slice (some a) (n + 1) c) (n + 1) (x :: L)) : ∃ bz, (if c = 1 then some a else some (⟨a.block, a.off + 1, none⟩ : Addr)) = some bz ∧ StrV w (.slice (some bz) n (c - 1)) n L := by
  have hc : n + 1 ≤ c := by
    obtain ⟨_, _, ao, cap, e, _, h4, _⟩ := h
    simp only [Value.slice.injEq] at e
    omega
  by_cases h1 : c = 1
  · rw [if_pos h1]
    exact ⟨a, rfl, h.tail (.inr (by omega))⟩
  · rw [if_neg h1]
    exact ⟨_, rfl, h.tail (.inl (by unfold Addr.add; rw [if_neg (by decide)]))⟩
theorem StrV.head {w : World} {ao : Option Addr} {n c : Nat} {x : B8} {L : List B8} (h : StrV w (.slice ao n c) n (x :: L)) : ∃ a m, ao = some a ∧ n = m + 1 ∧ w.cell? (a.add 0) = some (.string (tx x)) ∧ w.cell? a = some (.string (tx x)) := by
  have hn := h.1
  obtain ⟨a, s, rfl, h1, h2⟩ := h.at (k := 0) (by rw [hn]; simp)
  simp only [List.getElem?_cons_zero, Option.some.injEq] at h1
  subst h1
  refine ⟨a, L.length, rfl, by simpa using hn, h2, ?_⟩
  rw [← h2]
  congr 1

set_option maxHeartbeats 4000000 in
theorem merge_str (v1 v2 : Value) (n1 n2 : Nat) (A B : List B8) (w : World) (h1 : StrV w v1 n1 A) (h2 : StrV w v2 n2 B) (hb : n1 + n2 ≤ 1000000) :
    Calls Tryz.prog 54 #[v1, v2] w fun e w' => ∃ u m, e = .returned u ∧ OwnS w' w.heap.size u m (mergeT A B) ∧ Grow w w' := by
  obtain ⟨a1, c1, rfl⟩ := h1.shape
  obtain ⟨a2, c2, rfl⟩ := h2.shape
  have H1 := Lib.hid h1
  have H2 := Lib.hid h2
  have L1 := Lib.hid h1.1
  have L2 := Lib.hid h2.1
  have e12 : wrap64 ((n1 : Int) + (n2 : Int)) = ((n1 + n2 : Nat) : Int) := by rw [wrap64_id _ (by omega)]; omega
  clear h1 h2
  go_enter Tryz.func54, Tryz.ntmps54
  go_wp2_with (at_make; refine wpList_make_texts rfl _ _ rfl w.heap.size (n1 + n2) _ rfl rfl (by omega) (Lib.hid (by omega)) (Nat.le_refl _) ?_; intro w5 hown5 hb5; have HM := Lib.hid (And.intro hown5 hb5); clear hown5 hb5)
  clear e12
  go_loopw [0, 1, 5] (fun s0 s1 s5 wr => ∃ m1 m2 m A' B' acc, Hid (StrV w s0 m1 A' ∧ StrV w s1 m2 B') ∧ Hid (OwnS wr w.heap.size s5 m acc ∧ Grow w wr ∧ mergeT A B = acc ++ mergeT A' B' ∧ m + m1 + m2 ≤ n1 + n2)) (fun s0 s1 _ _ => lenV s0 + lenV s1)
  case atStart => exact ⟨n1, n2, 0, A, B, [], Lib.hid ⟨H1.out, H2.out⟩, Lib.hid ⟨⟨rfl, HM.out.1.2⟩, HM.out.2, by simp, by omega⟩⟩
  case round =>
    obtain ⟨m1, m2, m, A', B', acc, hv, hs⟩ := hrel
    obtain ⟨b1, d1, rfl⟩ := hv.out.1.shape
    obtain ⟨b2, d2, rfl⟩ := hv.out.2.shape
    obtain ⟨b5, d5, rfl⟩ := hs.out.1.shape
    cases A' with
    | nil =>
      have e1 : m1 = 0 := hv.out.1.1
      subst e1
      have FK1 : Hid (m + 0 ≤ 1000000) := Lib.hid (by have := hs.out.2.2.2; omega)
      have FK2 : Hid (m + 0 + m2 ≤ 1000000) := Lib.hid (by have := hs.out.2.2.2; omega)
      have HE : Hid (mergeT A B = (acc ++ []) ++ B') := Lib.hid (by rw [hs.out.2.2.1]; simp [mergeT_nil_left])
      have HO := Lib.hid hs.out.1.2
      have HG := Lib.hid hs.out.2.1
      have HL := Lib.hid (And.intro hs.out.1.1 (And.intro hv.out.1.1 hv.out.2.1))
      have HC1 := Lib.hid (hv.out.1.later hs.out.2.1).2.2
      have HV2 := Lib.hid hv.out.2
      clear hs hv
      go_wp2_with (first | (have _ := HB1.out; at_builtin; refine wpList_append_gen elemStr rfl (.tmp 54) (.tmp 55) rfl w.heap.size _ (m + 0) (sx acc ++ sx []) rfl HB1.out.1 _ (m2) (sx B') rfl (HV2.out.later HB1.out.2).2.2 (sx_one _) (m + 0 + m2) rfl FK2 (by decide) HB1.out.2.size ?_; intro ao7 c7 w7 hown7 hb7 hg7 ho7; have HB2 : Hid (OwnS w7 w.heap.size (.slice ao7 (m + 0 + m2) c7) (m + 0 + m2) (mergeT A B) ∧ Grow w w7) := Lib.hid ⟨⟨by rw [HE.out]; simp only [List.length_append, ← HL.out.1, ← HL.out.2.1, ← HL.out.2.2], by rw [HE.out]; simpa [sx] using hown7⟩, Below.trans HB1.out.2 hb7⟩; clear hown7 hb7 hg7 ho7) | (at_builtin; refine wpList_append_gen elemStr rfl (.tmp 52) (.tmp 53) rfl w.heap.size _ m (sx acc) rfl HO.out _ (0) (sx []) rfl HC1.out (sx_one _) (m + 0) rfl FK1 (by decide) HG.out.size ?_; intro ao6 c6 w6 hown6 hb6 hg6 ho6; have HB1 : Hid (w6.ownsRow w.heap.size 9 1 (.slice ao6 (m + 0) c6) (m + 0) (sx acc ++ sx []) ∧ Grow w w6) := Lib.hid ⟨hown6, Below.trans HG.out hb6⟩; clear hown6 hb6 hg6 ho6))
      go_ret
      exact ⟨_, _, rfl, HB2.out.1, HB2.out.2⟩
    | cons x A' =>
      obtain ⟨a, q1, rfl, rfl, ca, ca'⟩ := hv.out.1.head
      have p1 : (0 : Int) < (q1 : Int) + 1 := by omega
      cases B' with
      | nil =>
        have e2 : m2 = 0 := hv.out.2.1
        subst e2
        have FK1 : Hid (m + (q1 + 1) ≤ 1000000) := Lib.hid (by have := hs.out.2.2.2; omega)
        have FK2 : Hid (m + (q1 + 1) + 0 ≤ 1000000) := Lib.hid (by have := hs.out.2.2.2; omega)
        have HE : Hid (mergeT A B = (acc ++ (x :: A')) ++ []) := Lib.hid (by rw [hs.out.2.2.1]; simp [mergeT_nil_right])
        have HO := Lib.hid hs.out.1.2
        have HG := Lib.hid hs.out.2.1
        have HL := Lib.hid (And.intro hs.out.1.1 (And.intro hv.out.1.1 hv.out.2.1))
        have HC1 := Lib.hid (hv.out.1.later hs.out.2.1).2.2
        have HV2 := Lib.hid hv.out.2
        clear hs hv
        go_wp2_with (first | (have _ := HB1.out; at_builtin; refine wpList_append_gen elemStr rfl (.tmp 54) (.tmp 55) rfl w.heap.size _ (m + (q1 + 1)) (sx acc ++ sx (x :: A')) rfl HB1.out.1 _ (0) (sx []) rfl (HV2.out.later HB1.out.2).2.2 (sx_one _) (m + (q1 + 1) + 0) rfl FK2 (by decide) HB1.out.2.size ?_; intro ao7 c7 w7 hown7 hb7 hg7 ho7; have HB2 : Hid (OwnS w7 w.heap.size (.slice ao7 (m + (q1 + 1) + 0) c7) (m + (q1 + 1) + 0) (mergeT A B) ∧ Grow w w7) := Lib.hid ⟨⟨by rw [HE.out]; simp only [List.length_append, ← HL.out.1, ← HL.out.2.1, ← HL.out.2.2], by rw [HE.out]; simpa [sx] using hown7⟩, Below.trans HB1.out.2 hb7⟩; clear hown7 hb7 hg7 ho7) | (at_builtin; refine wpList_append_gen elemStr rfl (.tmp 52) (.tmp 53) rfl w.heap.size _ m (sx acc) rfl HO.out _ ((q1 + 1)) (sx (x :: A')) rfl HC1.out (sx_one _) (m + (q1 + 1)) rfl FK1 (by decide) HG.out.size ?_; intro ao6 c6 w6 hown6 hb6 hg6 ho6; have HB1 : Hid (w6.ownsRow w.heap.size 9 1 (.slice ao6 (m + (q1 + 1)) c6) (m + (q1 + 1)) (sx acc ++ sx (x :: A')) ∧ Grow w w6) := Lib.hid ⟨hown6, Below.trans HG.out hb6⟩; clear hown6 hb6 hg6 ho6))
        go_ret
        exact ⟨_, _, rfl, HB2.out.1, HB2.out.2⟩
      | cons y B' =>
        obtain ⟨b, q2, rfl, rfl, cb, cb'⟩ := hv.out.2.head
        have p2 : (0 : Int) < (q2 : Int) + 1 := by omega
        have LC : Hid (∀ W, Below w.heap.size w W → W.cell? (a.add 0) = some (.string (tx x)) ∧ W.cell? a = some (.string (tx x)) ∧ W.cell? (b.add 0) = some (.string (tx y)) ∧ W.cell? b = some (.string (tx y))) := Lib.hid fun W hg => ⟨cell_low hg ca, cell_low hg ca', cell_low hg cb, cell_low hg cb'⟩
        have HG := Lib.hid (Grow.trans hs.out.2.1 (below_drewN (Grow.refl wr) 1))
        clear ca ca' cb cb'
        obtain ⟨bz1, hbz1, ht1⟩ := hv.out.1.tail_at
        obtain ⟨bz2, hbz2, ht2⟩ := hv.out.2.tail_at
        have HT := Lib.hid (And.intro ht1 (And.intro ht2 (And.intro hv.out.2 hv.out.1)))
        clear ht1 ht2 hv
        have s1 : (1 : Int) ≤ (q1 : Int) + 1 := by omega
        have s2 : (1 : Int) ≤ (q2 : Int) + 1 := by omega
        go_upto_region 3 with fail
        refine wp_region_mvu [(0, 8, true)] (by kernel_rfl) (by kernel_rfl) ?_
        simp only [mvAll, mvSeg, List.drop_zero, List.cons_append, List.nil_append, Nat.reduceAdd]
        iterate 6
          refine wpLinU_step ?_ (fun w' hG K hK => ?_) (fun K hK => ?_)
          rotate_left
          · obtain ⟨l1, l2, l3, l4⟩ := LC.out w' (Below.trans HG.out (hG.mono HG.out.size))
            unfold mvValU
            go_simp
            exact hK
          go_simp
          refine hK _ ?_
          clear hK K
        refine wpLinU_step (.int .i64 (cmpT x y)) (fun w' hG K hK => ?_) (fun K hK => ?_)
        · unfold mvValU
          go_simp
          exact ⟨_, (cmp_str x y w').mono fun e w3 h => ⟨h.1, by rw [h.2]; exact Grow.refl _⟩, hK⟩
        go_simp
        refine hK _ ?_
        clear hK K
        iterate 1
          refine wpLinU_step ?_ (fun w' hG K hK => ?_) (fun K hK => ?_)
          rotate_left
          · skip
            unfold mvValU
            go_simp
            exact hK
          go_simp
          refine hK _ ?_
          clear hK K
        refine wpLinU_nil ?_
        intro w3 hG3
        have HG3 := Lib.hid (Grow.trans HG.out hG3)
        have HO3 := Lib.hid ((hs.out.1.later (below_drewN (Grow.refl wr) 1)).later hG3)
        have HM3 := Lib.hid hs.out.2.2
        clear hG3 hs HG
        unfold cmpT
        by_cases hlt : x < y
        · rw [if_pos hlt]
          rw [mergeT_lt hlt] at HM3
          go_upto_region 6 with fail
          refine wp_region_mvg (fun W W' => Below w.heap.size W W') (fun W => Below.refl _ _) (fun h k => Below.trans h k) [(0, 4, true), (6, 2, true), (4, 1, false), (5, 1, false), (8, 2, true)] (by kernel_rfl) (by kernel_rfl) ?_
          simp only [mvAll, mvSeg, List.drop_succ_cons, List.drop_zero, List.cons_append, List.nil_append, Nat.reduceAdd]
          iterate 6
            refine wpLing_still ?_ (fun w' hG K hK => ?_) (fun K hK => ?_)
            rotate_left
            · obtain ⟨l1, l2, l3, l4⟩ := LC.out w' (Below.trans HG3.out (Below.trans (below_drewN (Below.refl _ w3) 1) hG))
              unfold mvVal
              go_simp
              exact hK
            go_simp
            refine hK _ ?_
            clear hK K
          refine wpLing_call (fun K hK => ?_)
          unfold mvRun
          go_simp
          simp only [mvUpon]
          obtain ⟨w4, hw4⟩ : ∃ w4, (w3.alloc (.cells #[.string (tx x)] 9)).drew = w4 := ⟨_, rfl⟩
          have HL4 : Hid (Cells w4 (.slice (some ⟨w3.heap.size, 0, none⟩) 1 1) 1 1 [.string (tx x)] ∧ Below w.heap.size w3.drew w4) := Lib.hid ⟨by rw [← hw4]; exact Cells.lit _ [.string (tx x)] 9 (0, 0) 1 1 rfl, by rw [← hw4]; exact (Below.refl _ _).alloc (by have := HG3.out.size; simpa using this) _⟩
          have HO4 : Hid (w4.ownsRow w.heap.size 9 1 (.slice b5 m d5) m (sx acc)) := Lib.hid (by rw [← hw4]; exact own_chg (F := []) HO3.out.2 (Chg.of_below (below_none2 w3 _)) (by simp))
          rw [hw4]
          refine hK _ _ HL4.out.2 ?_
          clear hK K hw4
          refine wpLing_call (fun K hK => ?_)
          refine mv_append_gen elemStr rfl (.tmp 33) (.tmp 37) rfl w.heap.size (.slice b5 m d5) m (sx acc) rfl HO4.out (.slice (some ⟨w3.heap.size, 0, none⟩) 1 1) 1 [.string (tx x)] rfl HL4.out.1 (by simp [Value.oneCell']) (m + 1) rfl (Lib.hid (by have := HM3.out.2; omega)) (by decide) (by have := HG3.out.size; have := HL4.out.2.size; simp at this; omega) ?_
          intro ao5 c5 w5 hown5 hb5 _ _
          have H5 : Hid (OwnS w5 w.heap.size (.slice ao5 (m + 1) c5) (m + 1) (acc ++ [x]) ∧ Grow w w5) := Lib.hid ⟨⟨by rw [List.length_append, ← HO3.out.1]; rfl, by simpa [sx] using hown5⟩, Below.trans HG3.out (Below.trans (below_drewN (Below.refl _ w3) 1) (Below.trans HL4.out.2 hb5))⟩
          go_simp
          refine hK _ _ hb5 ?_
          clear hK K hown5 hb5
          iterate 2
            refine wpLing_still ?_ (fun w' hG K hK => ?_) (fun K hK => ?_)
            rotate_left
            · unfold mvVal
              go_simp
              exact hK
            go_simp
            refine hK _ ?_
            clear hK K
          refine wpLing_nil ?_
          go_wp2_with fail
          exact ⟨⟨_, _, _, _, _, _, Lib.hid ⟨HT.out.1, HT.out.2.2.1⟩, Lib.hid ⟨H5.out.1, H5.out.2, by rw [HM3.out.1]; simp, by have := HM3.out.2; omega⟩⟩, by simp [lenV]⟩
        · rw [if_neg hlt]
          by_cases hgt : y < x
          · rw [if_pos hgt]
            rw [mergeT_gt hlt hgt] at HM3
            go_upto_region 8 with fail
            refine wp_region_mvg (fun W W' => Below w.heap.size W W') (fun W => Below.refl _ _) (fun h k => Below.trans h k) [(0, 4, true), (6, 2, true), (4, 1, false), (5, 1, false), (8, 2, true)] (by kernel_rfl) (by kernel_rfl) ?_
            simp only [mvAll, mvSeg, List.drop_succ_cons, List.drop_zero, List.cons_append, List.nil_append, Nat.reduceAdd]
            iterate 6
              refine wpLing_still ?_ (fun w' hG K hK => ?_) (fun K hK => ?_)
              rotate_left
              · obtain ⟨l1, l2, l3, l4⟩ := LC.out w' (Below.trans HG3.out (Below.trans (below_drewN (Below.refl _ w3) 1) hG))
                unfold mvVal
                go_simp
                exact hK
              go_simp
              refine hK _ ?_
              clear hK K
            refine wpLing_call (fun K hK => ?_)
            unfold mvRun
            go_simp
            simp only [mvUpon]
            obtain ⟨w4, hw4⟩ : ∃ w4, (w3.alloc (.cells #[.string (tx y)] 9)).drew = w4 := ⟨_, rfl⟩
            have HL4 : Hid (Cells w4 (.slice (some ⟨w3.heap.size, 0, none⟩) 1 1) 1 1 [.string (tx y)] ∧ Below w.heap.size w3.drew w4) := Lib.hid ⟨by rw [← hw4]; exact Cells.lit _ [.string (tx y)] 9 (0, 0) 1 1 rfl, by rw [← hw4]; exact (Below.refl _ _).alloc (by have := HG3.out.size; simpa using this) _⟩
            have HO4 : Hid (w4.ownsRow w.heap.size 9 1 (.slice b5 m d5) m (sx acc)) := Lib.hid (by rw [← hw4]; exact own_chg (F := []) HO3.out.2 (Chg.of_below (below_none2 w3 _)) (by simp))
            rw [hw4]
            refine hK _ _ HL4.out.2 ?_
            clear hK K hw4
            refine wpLing_call (fun K hK => ?_)
            refine mv_append_gen elemStr rfl (.tmp 44) (.tmp 48) rfl w.heap.size (.slice b5 m d5) m (sx acc) rfl HO4.out (.slice (some ⟨w3.heap.size, 0, none⟩) 1 1) 1 [.string (tx y)] rfl HL4.out.1 (by simp [Value.oneCell']) (m + 1) rfl (Lib.hid (by have := HM3.out.2; omega)) (by decide) (by have := HG3.out.size; have := HL4.out.2.size; simp at this; omega) ?_
            intro ao5 c5 w5 hown5 hb5 _ _
            have H5 : Hid (OwnS w5 w.heap.size (.slice ao5 (m + 1) c5) (m + 1) (acc ++ [y]) ∧ Grow w w5) := Lib.hid ⟨⟨by rw [List.length_append, ← HO3.out.1]; rfl, by simpa [sx] using hown5⟩, Below.trans HG3.out (Below.trans (below_drewN (Below.refl _ w3) 1) (Below.trans HL4.out.2 hb5))⟩
            go_simp
            refine hK _ _ hb5 ?_
            clear hK K hown5 hb5
            iterate 2
              refine wpLing_still ?_ (fun w' hG K hK => ?_) (fun K hK => ?_)
              rotate_left
              · unfold mvVal
                go_simp
                exact hK
              go_simp
              refine hK _ ?_
              clear hK K
            refine wpLing_nil ?_
            go_wp2_with fail
            exact ⟨⟨_, _, _, _, _, _, Lib.hid ⟨HT.out.2.2.2, HT.out.2.1⟩, Lib.hid ⟨H5.out.1, H5.out.2, by rw [HM3.out.1]; simp, by have := HM3.out.2; omega⟩⟩, by simp [lenV]⟩
          · rw [if_neg hgt]
            obtain rfl : x = y := by
              by_cases e : x = y
              · exact e
              · exact absurd (lt_tri8 hlt e) hgt
            rw [mergeT_eq] at HM3
            go_wp2_with fail
            exact ⟨⟨_, _, _, _, _, _, Lib.hid ⟨HT.out.1, HT.out.2.2.1⟩, Lib.hid ⟨HO3.out, HG3.out, HM3.out.1, by have := HM3.out.2; omega⟩⟩, by simp [lenV]⟩

end Go.Proofs.YtlgfijjkbomejaaGreatDoor
