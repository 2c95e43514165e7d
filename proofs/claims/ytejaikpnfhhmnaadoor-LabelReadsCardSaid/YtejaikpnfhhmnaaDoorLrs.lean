/- LabelReads, walked. Numbers and types by name. -/
import Derived.Test.YtejaikpnfhhmnaaDoorObg
import Derived.Test.YtejaikpnfhhmnaaDoorLre
namespace Go.Proofs.YtejaikpnfhhmnaaDoor
open Go.RowKit Go.Lib
set_option maxRecDepth 100000

theorem lat_zero (lo : Nat) (w : World) (f : Nat → Nat → Bool) : LatV lo w [] f lat0 := by
  have ht : ∀ g, TabL lo w (.slice none 0 0) 0 0 g := fun g => ⟨[], ⟨none, 0, rfl, rfl, Nat.le_refl _, fun _ => ⟨rfl, rfl⟩, fun a h => by cases h⟩, BlkP.nil _ _ _, fun i vi h => by simp at h⟩
  exact ⟨none, 0, none, 0, none, 0, none, 0, 0, rfl, rfl, ⟨StrV.nil w, BlkP.nil _ _ _⟩, ht _, ht _, ht _⟩
theorem made_lats {lo lo' : Nat} {w : World} {l : List Pr8} {v v' : Value} {x x' : Int} (h : MadeV lo w l v x) (h' : MadeV lo' w l v' x') : ∃ L f f', LatV lo w L f v ∧ LatV lo' w L f' v' := by
  obtain rfl := h.1.one h'.1
  rcases h.2 with ⟨h0, rfl⟩ | ⟨rfl, f, hc, hl, hv⟩
  · rcases h'.2 with ⟨_, rfl⟩ | ⟨h1, _⟩
    · exact ⟨[], fun _ _ => false, fun _ _ => false, lat_zero _ _ _, lat_zero _ _ _⟩
    · exact absurd h1 h0
  · rcases h'.2 with ⟨h0, _⟩ | ⟨_, g, hc', _, hv'⟩
    · exact absurd rfl h0
    · exact ⟨_, f, g, hv, hv'⟩
theorem ReadV.later {lo : Nat} {w w' : World} {b : List UInt8} {v : Value} {x a : Int} (h : ReadV lo w b v x a) (hg : Grow w w') : ReadV lo w' b v x a := by
  rcases h with h | ⟨h1, h2, h3⟩
  · exact .inl h
  · exact .inr ⟨h1, h2, h3.later hg⟩
theorem ReadV.six {lo : Nat} {w : World} {b : List UInt8} {v : Value} {x a : Int} (h : ReadV lo w b v x a) : ∃ a0 k0 a1 k1 a2 k2 a3 k3 n z4 z5, v = .agg #[.slice a0 n k0, .slice a1 n k1, .slice a2 n k2, .slice a3 n k3, .int .i64 z4, .int .i64 z5] := by
  rcases h with ⟨_, rfl, _⟩ | ⟨_, _, h3⟩
  · exact ⟨none, 0, none, 0, none, 0, none, 0, 0, 0, 0, rfl⟩
  · exact h3.six
theorem read_pair {lo lo' : Nat} {w : World} {b : List UInt8} {v v' : Value} {x x' a a' : Int} (h : ReadV lo w b v x a) (h' : ReadV lo' w b v' x' a') :
    x = x' ∧ a = a' ∧ (∃ L f J M p q, SixV w L f J M p q v ∧ SixV w L f J M p q v') ∧ ∃ L f f', LatV lo w L f v ∧ LatV lo' w L f' v' := by
  rcases h with ⟨h0, rfl, rfl, rfl⟩ | ⟨h0, rfl, hm⟩
  · rcases h' with ⟨_, rfl, rfl, rfl⟩ | ⟨h1, _⟩
    · exact ⟨rfl, rfl, ⟨[], fun _ _ => false, fun _ _ => 0, fun _ _ => 0, 0, 0, six_zero _ _ _ _, six_zero _ _ _ _⟩, [], fun _ _ => false, fun _ _ => false, lat_zero _ _ _, lat_zero _ _ _⟩
    · exact absurd h1 h0
  · rcases h' with ⟨h1, _⟩ | ⟨_, rfl, hm'⟩
    · exact absurd h0 h1
    · obtain ⟨rfl, h5⟩ := made_pair hm hm'
      exact ⟨rfl, rfl, h5, made_lats hm hm'⟩

set_option maxHeartbeats 16000000 in
theorem reads_walk (K : LabK) (b s : List UInt8) (w : World) (ht : SgW w) : Calls Tryd.prog 4 #[.string (tx b), .string (tx s)] w fun e w' => e = .returned (.bool true) ∧ Below w.heap.size w w' := by
  have P1 := code_read K b w ht
  have H := Lib.hid ht
  have HK := Lib.hid K
  clear ht K
  go_enter Tryd.func4, Tryd.ntmps4
  by_cases g1 : 2000 < (tx b).size
  · have e1 : (2000 : Int) < ((tx b).size : Int) := by omega
    by_cases g2 : (tx b).size ≤ 8192
    · have e2 : ((tx b).size : Int) ≤ 8192 := by omega
      clear P1
      go_wp2_with (go_at_call 11; refine (awake_lab HK.out _ H.out).mono ?_; rintro e w' ⟨rfl, hb9⟩; have H9 := Lib.hid hb9; clear hb9)
      go_ret
      exact ⟨rfl, H9.out⟩
    · have e2 : ¬ ((tx b).size : Int) ≤ 8192 := by omega
      by_cases g3 : 100 < (tx s).size
      · have e3 : (100 : Int) < ((tx s).size : Int) := by omega
        clear P1
        go_wp2_with (go_at_call 11; refine (awake_lab HK.out _ H.out).mono ?_; rintro e w' ⟨rfl, hb9⟩; have H9 := Lib.hid hb9; clear hb9)
        go_ret
        exact ⟨rfl, H9.out⟩
      · have e3 : ¬ (100 : Int) < ((tx s).size : Int) := by omega
        go_wp2_with fail
        refine P1.mono ?_
        rintro e w2 ⟨hg2, v2, x2, at2, rfl, hm2⟩
        obtain ⟨a0, k0, a1, k1, a2, k2, a3, k3, n2, y4, y5, rfl⟩ := hm2.six
        obtain ⟨W, hW⟩ : ∃ W, w2.alloc (.cells #[.slice a0 n2 k0, .slice a1 n2 k1, .slice a2 n2 k2, .slice a3 n2 k3, .int .i64 y4, .int .i64 y5] 29) = W := ⟨_, rfl⟩
        have hgW : Grow w2 W := by rw [← hW]; exact (Below.refl _ _).alloc (Nat.le_refl _) _
        have HB1 := Lib.hid (show LatB W w2.heap.size (.slice a0 n2 k0) (.slice a1 n2 k1) (.slice a2 n2 k2) (.slice a3 n2 k3) (.int .i64 y4) (.int .i64 y5) from by rw [← hW]; exact LatB.new _ _ _ _ _ _ _)
        have HM1 := Lib.hid (hm2.later hgW)
        have HGW := Lib.hid (Grow.trans hg2 hgW)
        have P2 := ref_read b W
        have HW := Lib.hid hW
        clear hm2 hg2 hgW hW P1
        go_upto_region 4 with fail
        rw [HW.out]
        go_wp2_with fail
        refine P2.mono ?_
        rintro e w3 ⟨hg3, v3, x3, at3, rfl, hm3⟩
        obtain ⟨hxx, haa, ⟨L, f, J, M, p, q', s2, s3⟩, L2, f2, f3, l2, l3⟩ := read_pair (HM1.out.later hg3) hm3
        subst hxx haa
        obtain ⟨b0, c0, b1, c1, b2, c2, b3, c3, m2, z4, z5, rfl⟩ := hm3.six
        obtain ⟨V, hV⟩ : ∃ V, w3.alloc (.cells #[.slice b0 m2 c0, .slice b1 m2 c1, .slice b2 m2 c2, .slice b3 m2 c3, .int .i64 z4, .int .i64 z5] 29) = V := ⟨_, rfl⟩
        have hgV : Grow w3 V := by rw [← hV]; exact (Below.refl _ _).alloc (Nat.le_refl _) _
        have HB2 := Lib.hid (show LatB V w3.heap.size (.slice b0 m2 c0) (.slice b1 m2 c1) (.slice b2 m2 c2) (.slice b3 m2 c3) (.int .i64 z4) (.int .i64 z5) from by rw [← hV]; exact LatB.new _ _ _ _ _ _ _)
        have HB3 := Lib.hid (HB1.out.later (Grow.trans hg3 hgV))
        have HGV := Lib.hid (Grow.trans HGW.out (Grow.trans hg3 hgV))
        have HS := Lib.hid (fun (W' : World) (hg : Grow V W') => same_yes _ _ L f J M p q' W' (s2.later (Grow.trans hgV hg)) (s3.later (Grow.trans hgV hg)))
        have HPc := Lib.hid (fun (W' : World) (hg : Grow V W') => code_place _ L2 f2 _ s W' (l2.later (Grow.trans hgV hg)))
        have HPr := Lib.hid (fun (W' : World) (hg : Grow V W') => ref_place _ L2 f3 _ s W' (l3.later (Grow.trans hgV hg)))
        have HV := Lib.hid hV
        clear hm3 hg3 hgV hV P2 s2 s3 l2 l3 HM1 HB1
        go_upto_region 5 with fail
        rw [HV.out]
        have HGd : Hid (Grow V V.drew) := Lib.hid (below_drewN (Grow.refl V) 1)
        have LC : ∀ w', Grow V.drew w' → ((w'.cell? ⟨w3.heap.size, 0, none⟩ = some (.slice b0 m2 c0) ∧ w'.cell? ⟨w3.heap.size, 1, none⟩ = some (.slice b1 m2 c1) ∧ w'.cell? ⟨w3.heap.size, 2, none⟩ = some (.slice b2 m2 c2)) ∧ w'.cell? ⟨w3.heap.size, 3, none⟩ = some (.slice b3 m2 c3) ∧ w'.cell? ⟨w3.heap.size, 4, none⟩ = some (.int .i64 z4) ∧ w'.cell? ⟨w3.heap.size, 5, none⟩ = some (.int .i64 z5)) ∧ (w'.cell? ⟨w2.heap.size, 0, none⟩ = some (.slice a0 n2 k0) ∧ w'.cell? ⟨w2.heap.size, 1, none⟩ = some (.slice a1 n2 k1) ∧ w'.cell? ⟨w2.heap.size, 2, none⟩ = some (.slice a2 n2 k2)) ∧ w'.cell? ⟨w2.heap.size, 3, none⟩ = some (.slice a3 n2 k3) ∧ w'.cell? ⟨w2.heap.size, 4, none⟩ = some (.int .i64 y4) ∧ w'.cell? ⟨w2.heap.size, 5, none⟩ = some (.int .i64 y5) := fun w' hG => ⟨(HB2.out.later (Grow.trans HGd.out hG)).cells, (HB3.out.later (Grow.trans HGd.out hG)).cells⟩
        refine wp_region_mv [(0, 2, true), (2, 1, false), (3, 14, true), (18, 2, true), (17, 1, false), (20, 1, false), (21, 3, true), (24, 1, false), (25, 2, true)] (by kernel_rfl) (by kernel_rfl) ?_
        simp only [mvAll, mvSeg, List.drop_succ_cons, List.drop_zero, List.cons_append, List.nil_append, Nat.reduceAdd]
        iterate 2
          refine wpLin_still ?_ (fun w' hG K hK => ?_) (fun K hK => ?_)
          rotate_left
          · obtain ⟨⟨⟨p0, p1, p2⟩, p3, p4, p5⟩, ⟨r0, r1, r2⟩, r3, r4, r5⟩ := LC w' hG
            unfold mvVal
            go_simp
            exact hK
          go_simp
          refine hK _ ?_
          clear hK K
        refine wpLin_call (fun K hK => ?_)
        unfold mvRun
        go_simp
        simp only [mvUpon]
        refine (HS.out _ HGd.out).mono ?_
        rintro e w5 ⟨rfl, hg5⟩
        refine ⟨_, rfl, ?_⟩
        go_simp
        refine hK _ _ hg5 ?_
        clear hK K
        iterate 2
          refine wpLin_still ?_ (fun w' hG K hK => ?_) (fun K hK => ?_)
          rotate_left
          · unfold mvVal
            go_simp
            exact hK
          go_simp
          refine hK _ ?_
          clear hK K
        refine wpLin_still (.int .i64 x2) (fun w' hG K hK => ?_) (fun K hK => ?_)
        · unfold mvVal
          go_simp
          exact ⟨_, (lnum_at _ w').mono fun e w3 h => ⟨h.1, h.2.symm⟩, hK⟩
        go_simp
        refine hK _ ?_
        clear hK K
        iterate 13
          refine wpLin_still ?_ (fun w' hG K hK => ?_) (fun K hK => ?_)
          rotate_left
          · obtain ⟨⟨⟨p0, p1, p2⟩, p3, p4, p5⟩, ⟨r0, r1, r2⟩, r3, r4, r5⟩ := LC w' (Grow.trans hg5 hG)
            unfold mvVal
            go_simp
            exact hK
          go_simp
          refine hK _ ?_
          clear hK K
        refine wpLin_call (fun K hK => ?_)
        unfold mvRun
        go_simp
        simp only [mvUpon]
        refine (HPc.out _ (Grow.trans HGd.out hg5)).mono ?_
        rintro e w6 ⟨rfl, hg6⟩
        refine ⟨_, rfl, ?_⟩
        go_simp
        refine hK _ _ hg6 ?_
        clear hK K
        refine wpLin_call (fun K hK => ?_)
        unfold mvRun
        go_simp
        simp only [mvUpon]
        refine (HPr.out _ (Grow.trans HGd.out (Grow.trans hg5 hg6))).mono ?_
        rintro e w7 ⟨rfl, hg7⟩
        refine ⟨_, rfl, ?_⟩
        go_simp
        refine hK _ _ hg7 ?_
        clear hK K
        iterate 3
          refine wpLin_still ?_ (fun w' hG K hK => ?_) (fun K hK => ?_)
          rotate_left
          · unfold mvVal
            go_simp
            exact hK
          go_simp
          refine hK _ ?_
          clear hK K
        have HG7 := Lib.hid (Grow.trans HGV.out (Grow.trans HGd.out (Grow.trans hg5 (Grow.trans hg6 hg7))))
        refine wpLin_call (fun K hK => ?_)
        unfold mvRun
        go_simp
        simp only [mvUpon]
        refine (awake_lab HK.out _ (H.out.later HG7.out)).mono ?_
        rintro e w8 ⟨rfl, hg8⟩
        refine ⟨_, rfl, ?_⟩
        go_simp
        refine hK _ _ hg8 ?_
        clear hK K
        iterate 2
          refine wpLin_still ?_ (fun w' hG K hK => ?_) (fun K hK => ?_)
          rotate_left
          · unfold mvVal
            go_simp
            exact hK
          go_simp
          refine hK _ ?_
          clear hK K
        refine wpLin_nil ?_
        have HE := Lib.hid (Grow.trans HG7.out hg8)
        clear LC hg5 hg6 hg7 hg8
        go_wp2_with fail
        go_ret
        exact ⟨rfl, HE.out⟩
  · have e1 : ¬ (2000 : Int) < ((tx b).size : Int) := by omega
    by_cases g3 : 100 < (tx s).size
    · have e3 : (100 : Int) < ((tx s).size : Int) := by omega
      clear P1
      go_wp2_with (go_at_call 11; refine (awake_lab HK.out _ H.out).mono ?_; rintro e w' ⟨rfl, hb9⟩; have H9 := Lib.hid hb9; clear hb9)
      go_ret
      exact ⟨rfl, H9.out⟩
    · have e3 : ¬ (100 : Int) < ((tx s).size : Int) := by omega
      go_wp2_with fail
      refine P1.mono ?_
      rintro e w2 ⟨hg2, v2, x2, at2, rfl, hm2⟩
      obtain ⟨a0, k0, a1, k1, a2, k2, a3, k3, n2, y4, y5, rfl⟩ := hm2.six
      obtain ⟨W, hW⟩ : ∃ W, w2.alloc (.cells #[.slice a0 n2 k0, .slice a1 n2 k1, .slice a2 n2 k2, .slice a3 n2 k3, .int .i64 y4, .int .i64 y5] 29) = W := ⟨_, rfl⟩
      have hgW : Grow w2 W := by rw [← hW]; exact (Below.refl _ _).alloc (Nat.le_refl _) _
      have HB1 := Lib.hid (show LatB W w2.heap.size (.slice a0 n2 k0) (.slice a1 n2 k1) (.slice a2 n2 k2) (.slice a3 n2 k3) (.int .i64 y4) (.int .i64 y5) from by rw [← hW]; exact LatB.new _ _ _ _ _ _ _)
      have HM1 := Lib.hid (hm2.later hgW)
      have HGW := Lib.hid (Grow.trans hg2 hgW)
      have P2 := ref_read b W
      have HW := Lib.hid hW
      clear hm2 hg2 hgW hW P1
      go_upto_region 4 with fail
      rw [HW.out]
      go_wp2_with fail
      refine P2.mono ?_
      rintro e w3 ⟨hg3, v3, x3, at3, rfl, hm3⟩
      obtain ⟨hxx, haa, ⟨L, f, J, M, p, q', s2, s3⟩, L2, f2, f3, l2, l3⟩ := read_pair (HM1.out.later hg3) hm3
      subst hxx haa
      obtain ⟨b0, c0, b1, c1, b2, c2, b3, c3, m2, z4, z5, rfl⟩ := hm3.six
      obtain ⟨V, hV⟩ : ∃ V, w3.alloc (.cells #[.slice b0 m2 c0, .slice b1 m2 c1, .slice b2 m2 c2, .slice b3 m2 c3, .int .i64 z4, .int .i64 z5] 29) = V := ⟨_, rfl⟩
      have hgV : Grow w3 V := by rw [← hV]; exact (Below.refl _ _).alloc (Nat.le_refl _) _
      have HB2 := Lib.hid (show LatB V w3.heap.size (.slice b0 m2 c0) (.slice b1 m2 c1) (.slice b2 m2 c2) (.slice b3 m2 c3) (.int .i64 z4) (.int .i64 z5) from by rw [← hV]; exact LatB.new _ _ _ _ _ _ _)
      have HB3 := Lib.hid (HB1.out.later (Grow.trans hg3 hgV))
      have HGV := Lib.hid (Grow.trans HGW.out (Grow.trans hg3 hgV))
      have HS := Lib.hid (fun (W' : World) (hg : Grow V W') => same_yes _ _ L f J M p q' W' (s2.later (Grow.trans hgV hg)) (s3.later (Grow.trans hgV hg)))
      have HPc := Lib.hid (fun (W' : World) (hg : Grow V W') => code_place _ L2 f2 _ s W' (l2.later (Grow.trans hgV hg)))
      have HPr := Lib.hid (fun (W' : World) (hg : Grow V W') => ref_place _ L2 f3 _ s W' (l3.later (Grow.trans hgV hg)))
      have HV := Lib.hid hV
      clear hm3 hg3 hgV hV P2 s2 s3 l2 l3 HM1 HB1
      go_upto_region 5 with fail
      rw [HV.out]
      have HGd : Hid (Grow V V.drew) := Lib.hid (below_drewN (Grow.refl V) 1)
      have LC : ∀ w', Grow V.drew w' → ((w'.cell? ⟨w3.heap.size, 0, none⟩ = some (.slice b0 m2 c0) ∧ w'.cell? ⟨w3.heap.size, 1, none⟩ = some (.slice b1 m2 c1) ∧ w'.cell? ⟨w3.heap.size, 2, none⟩ = some (.slice b2 m2 c2)) ∧ w'.cell? ⟨w3.heap.size, 3, none⟩ = some (.slice b3 m2 c3) ∧ w'.cell? ⟨w3.heap.size, 4, none⟩ = some (.int .i64 z4) ∧ w'.cell? ⟨w3.heap.size, 5, none⟩ = some (.int .i64 z5)) ∧ (w'.cell? ⟨w2.heap.size, 0, none⟩ = some (.slice a0 n2 k0) ∧ w'.cell? ⟨w2.heap.size, 1, none⟩ = some (.slice a1 n2 k1) ∧ w'.cell? ⟨w2.heap.size, 2, none⟩ = some (.slice a2 n2 k2)) ∧ w'.cell? ⟨w2.heap.size, 3, none⟩ = some (.slice a3 n2 k3) ∧ w'.cell? ⟨w2.heap.size, 4, none⟩ = some (.int .i64 y4) ∧ w'.cell? ⟨w2.heap.size, 5, none⟩ = some (.int .i64 y5) := fun w' hG => ⟨(HB2.out.later (Grow.trans HGd.out hG)).cells, (HB3.out.later (Grow.trans HGd.out hG)).cells⟩
      refine wp_region_mv [(0, 2, true), (2, 1, false), (3, 14, true), (18, 2, true), (17, 1, false), (20, 1, false), (21, 3, true), (24, 1, false), (25, 2, true)] (by kernel_rfl) (by kernel_rfl) ?_
      simp only [mvAll, mvSeg, List.drop_succ_cons, List.drop_zero, List.cons_append, List.nil_append, Nat.reduceAdd]
      iterate 2
        refine wpLin_still ?_ (fun w' hG K hK => ?_) (fun K hK => ?_)
        rotate_left
        · obtain ⟨⟨⟨p0, p1, p2⟩, p3, p4, p5⟩, ⟨r0, r1, r2⟩, r3, r4, r5⟩ := LC w' hG
          unfold mvVal
          go_simp
          exact hK
        go_simp
        refine hK _ ?_
        clear hK K
      refine wpLin_call (fun K hK => ?_)
      unfold mvRun
      go_simp
      simp only [mvUpon]
      refine (HS.out _ HGd.out).mono ?_
      rintro e w5 ⟨rfl, hg5⟩
      refine ⟨_, rfl, ?_⟩
      go_simp
      refine hK _ _ hg5 ?_
      clear hK K
      iterate 2
        refine wpLin_still ?_ (fun w' hG K hK => ?_) (fun K hK => ?_)
        rotate_left
        · unfold mvVal
          go_simp
          exact hK
        go_simp
        refine hK _ ?_
        clear hK K
      refine wpLin_still (.int .i64 x2) (fun w' hG K hK => ?_) (fun K hK => ?_)
      · unfold mvVal
        go_simp
        exact ⟨_, (lnum_at _ w').mono fun e w3 h => ⟨h.1, h.2.symm⟩, hK⟩
      go_simp
      refine hK _ ?_
      clear hK K
      iterate 13
        refine wpLin_still ?_ (fun w' hG K hK => ?_) (fun K hK => ?_)
        rotate_left
        · obtain ⟨⟨⟨p0, p1, p2⟩, p3, p4, p5⟩, ⟨r0, r1, r2⟩, r3, r4, r5⟩ := LC w' (Grow.trans hg5 hG)
          unfold mvVal
          go_simp
          exact hK
        go_simp
        refine hK _ ?_
        clear hK K
      refine wpLin_call (fun K hK => ?_)
      unfold mvRun
      go_simp
      simp only [mvUpon]
      refine (HPc.out _ (Grow.trans HGd.out hg5)).mono ?_
      rintro e w6 ⟨rfl, hg6⟩
      refine ⟨_, rfl, ?_⟩
      go_simp
      refine hK _ _ hg6 ?_
      clear hK K
      refine wpLin_call (fun K hK => ?_)
      unfold mvRun
      go_simp
      simp only [mvUpon]
      refine (HPr.out _ (Grow.trans HGd.out (Grow.trans hg5 hg6))).mono ?_
      rintro e w7 ⟨rfl, hg7⟩
      refine ⟨_, rfl, ?_⟩
      go_simp
      refine hK _ _ hg7 ?_
      clear hK K
      iterate 3
        refine wpLin_still ?_ (fun w' hG K hK => ?_) (fun K hK => ?_)
        rotate_left
        · unfold mvVal
          go_simp
          exact hK
        go_simp
        refine hK _ ?_
        clear hK K
      have HG7 := Lib.hid (Grow.trans HGV.out (Grow.trans HGd.out (Grow.trans hg5 (Grow.trans hg6 hg7))))
      refine wpLin_call (fun K hK => ?_)
      unfold mvRun
      go_simp
      simp only [mvUpon]
      refine (awake_lab HK.out _ (H.out.later HG7.out)).mono ?_
      rintro e w8 ⟨rfl, hg8⟩
      refine ⟨_, rfl, ?_⟩
      go_simp
      refine hK _ _ hg8 ?_
      clear hK K
      iterate 2
        refine wpLin_still ?_ (fun w' hG K hK => ?_) (fun K hK => ?_)
        rotate_left
        · unfold mvVal
          go_simp
          exact hK
        go_simp
        refine hK _ ?_
        clear hK K
      refine wpLin_nil ?_
      have HE := Lib.hid (Grow.trans HG7.out hg8)
      clear LC hg5 hg6 hg7 hg8
      go_wp2_with fail
      go_ret
      exact ⟨rfl, HE.out⟩

theorem reads_walkS (K : LabK) (b s : ByteArray) (w : World) (ht : SgW w) : Calls Tryd.prog 4 #[.string b, .string s] w fun e w' => e = .returned (.bool true) ∧ Below w.heap.size w w' := by
  obtain ⟨l, rfl⟩ : ∃ l, b = tx l := ⟨_, tx_of rfl⟩
  obtain ⟨m, rfl⟩ : ∃ m, s = tx m := ⟨_, tx_of rfl⟩
  exact reads_walk K l m w ht

end Go.Proofs.YtejaikpnfhhmnaaDoor
