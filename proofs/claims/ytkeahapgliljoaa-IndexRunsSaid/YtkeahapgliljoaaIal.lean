/- IndexAlike, walked over what is asked of the code's index. Numbers and types by name. -/
import Derived.Test.YtkeahapgliljoaaIru
import Derived.Test.YtkeahapgliljoaaMvg
namespace Go.Proofs.Ytkeahapgliljoaa
open Go.RowKit Go.Lib
set_option maxRecDepth 100000

/-- Two indexes, apart from one another. -/
structure Two9 (C : World → Nat → List Prm → List Nat → Prop) (w0 wl : World) (x y : Nat) (L M : List Prm) (F G : List Nat) : Prop where
  one : C wl x L F
  two : C wl y M G
  apart : ∀ q ∈ F, q ∉ G
  low1 : ∀ q ∈ F, w0.heap.size ≤ q
  low2 : ∀ q ∈ G, w0.heap.size ≤ q
  grow : Grow w0 wl

theorem Two9.flip {C : World → Nat → List Prm → List Nat → Prop} {w0 wl : World} {x y : Nat} {L M : List Prm} {F G : List Nat} (h : Two9 C w0 wl x y L M F G) : Two9 C w0 wl y x M L G F :=
  ⟨h.two, h.one, fun q hq hm => h.apart q hm hq, h.low2, h.low1, h.grow⟩
theorem Two9.new {C : World → Nat → List Prm → List Nat → Prop} (K : IxK C) {w0 wl w' : World} {x y : Nat} {L M : List Prm} {F G : List Nat} (h : Two9 C w0 wl x y L M F G) (t : Turn [] wl w') : Two9 C w0 w' x y L M F G :=
  ⟨K.keep h.one t (by simp), K.keep h.two t (by simp), h.apart, h.low1, h.low2, h.grow.trans (tg9 t)⟩
theorem Two9.step {C : World → Nat → List Prm → List Nat → Prop} (K : IxK C) {w0 wl w' : World} {x y : Nat} {L L' M : List Prm} {F G : List Nat} (h : Two9 C w0 wl x y L M F G) (hn : INext C wl w' x L' F) : ∃ F', Two9 C w0 w' x y L' M F' G ∧ Turn F wl w' := by
  obtain ⟨F', h1, h2, t⟩ := hn
  refine ⟨F', ⟨h1, K.keep h.two t (fun q hq hm => h.apart q hm hq), fun q hq hm => ?_, fun q hq => ?_, h.low2, ?_⟩, t⟩
  · rcases h2 q hq with e | e
    · exact h.apart q e hm
    · have := K.lt h.two q hm; omega
  · rcases h2 q hq with e | e
    · exact h.low1 q e
    · exact Nat.le_trans h.grow.size e
  · exact tg9 ((tb9 h.grow).trans' t fun q hq => .inr (h.low1 q hq))

def Alike (C : World → Nat → List Prm → List Nat → Prop) (w0 wl : World) (x y k : Nat) : Prop := ∃ L F G, Two9 C w0 wl x y L L F G ∧ Fine L ∧ L.length ≤ k

set_option maxHeartbeats 8000000 in
theorem alike_index {C : World → Nat → List Prm → List Nat → Prop} (K : IxK C) (a0 b0 : Int) (v : Value) (n : Nat) (L : List Iam) (w : World) (hr : Iar w v n L) :
    Calls Try.prog 4 #[.int .u16 a0, .int .u16 b0, v] w fun e w' => e = .returned (.bool true) ∧ Below w.heap.size w w' := by
  obtain ⟨ao, c, rfl⟩ := hr.shape
  have HK := Lib.hid K
  have HV := heavy_index _ n L w hr
  have HR := Lib.hid hr
  clear K hr
  go_enter Try.func4, Try.ntmps4
  go_wp2_with fail
  refine HV.mono ?_
  rintro e w1 ⟨g, rfl, hw, hl⟩
  obtain rfl := hw.symm
  clear HV
  cases g with
  | true =>
    clear hl
    go_wp2_with (go_at_call 7; refine (awake_index HK.out _).mono ?_; rintro e w' ⟨rfl, hb9⟩)
    go_ret
    exact ⟨rfl, hb9⟩
  | false =>
  have HL := Lib.hid (hl rfl)
  clear hl
  go_wp2_with fail
  refine (HK.out.new _ w).mono ?_
  rintro e w2 ⟨x, F, rfl, h1, hF, t1⟩
  have H1 := Lib.hid (And.intro h1 (And.intro hF t1))
  unfold theIx
  clear h1 hF t1
  go_wp2_with fail
  refine (HK.out.new _ w2).mono ?_
  rintro e w3 ⟨y, G, rfl, h1, hF, t1⟩
  have HR0 : Hid (Alike C w w3 x y 0) := Lib.hid ⟨[], F, G, ⟨HK.out.keep H1.out.1 t1 (by simp), h1, fun q hq hm => by have := HK.out.lt H1.out.1 q hq; have := hF q hm; omega, H1.out.2.1, fun q hq => Nat.le_trans H1.out.2.2.size (hF q hq), tg9 (H1.out.2.2.trans t1)⟩, Fine.nil, Nat.le_refl _⟩
  have hn3 : n ≤ 300 := by have := HL.out.1; have := HR.out.1; omega
  unfold theIx
  clear h1 hF t1 H1
  go_wp2_with fail
  go_loopw [9] (fun i wr => ∃ k : Nat, k ≤ n ∧ i = .int .i64 k ∧ Hid (Alike C w wr x y k)) (fun i _ => n - (RowKit.intOf i).toNat)
  case atStart => exact ⟨0, Nat.zero_le _, rfl, HR0⟩
  case round =>
    obtain ⟨k, hk, rfl, hrel⟩ := hrel
    clear HR0
    by_cases h1 : k < n
    · have h3 : (k : Int) < (n : Int) := by omega
      obtain ⟨M, F, G, g1, g2, g3⟩ := hrel.out
      obtain ⟨a, o, rfl, ho, c0, c1, c2, s1, s2⟩ := (HR.out.later g1.grow).at h1
      have hsm := HL.out.2 o (List.mem_of_getElem? ho)
      obtain ⟨d, ky, vl⟩ := o
      simp only at c0 c1 c2 hsm
      obtain ⟨W, hW⟩ : ∃ W, W = wr.alloc (.cells #[.int .i64 d, .string ky, .string vl] 29) := ⟨_, rfl⟩
      obtain ⟨B, hB⟩ : ∃ B, B = wr.heap.size := ⟨_, rfl⟩
      have hBW : W.heap[B]? = some (.cells #[.int .i64 d, .string ky, .string vl] 29) := by rw [hW, hB]; exact heap_alloc_new _ _
      have tW : Turn [] wr W := by rw [hW]; exact (Turn.refl [] wr).alloc _
      have HG := Lib.hid (And.intro (g1.new HK.out tW) (And.intro g2 g3))
      have hBF : B ∉ F := fun hm => by have := HK.out.lt g1.one B hm; omega
      have hBG : B ∉ G := fun hm => by have := HK.out.lt g1.two B hm; omega
      have HB := Lib.hid (And.intro hBW (And.intro hBF (And.intro hBG hsm)))
      have b0' := cells_of hBW 0 _ rfl
      have b1' := cells_of hBW 1 _ rfl
      have b2' := cells_of hBW 2 _ rfl
      have eW : wr.alloc (Obj.cells #[.int .i64 d, .string ky, .string vl] 29) = W := hW.symm
      have eB : wr.heap.size = B := hB.symm
      have hk9 : k < 9223372036854775807 := by omega
      clear g1 g2 g3 ho hsm s1 s2 hBW tW hW hB hrel hBF hBG
      have hcase : (d = 0 ∨ d = 1) ∨ d = 2 ∨ d = 3 ∨ (¬ d = 0 ∧ ¬ d = 1 ∧ ¬ d = 2 ∧ ¬ d = 3) := by omega
      rcases hcase with hd | rfl | rfl | ⟨d0, d1, d2, d3⟩
      · rcases hd with rfl | rfl
        all_goals
          have P1 := HK.out.put HG.out.1.one HG.out.2.1 ky vl HB.out.2.2.2.1 HB.out.2.2.2.2
          unfold theIx at P1
          go_wp2_with fail
          refine P1.mono ?_
          rintro e w3 ⟨rfl, hn⟩
          obtain ⟨F3, h3t, t3⟩ := HG.out.1.step HK.out hn
          have hB3 := t3.heap HB.out.1 HB.out.2.1
          have P2 := HK.out.put h3t.two HG.out.2.1 ky vl HB.out.2.2.2.1 HB.out.2.2.2.2
          have H3 := Lib.hid h3t
          unfold theIx at P2
          clear b0' b1' b2'
          have b0' := cells_of hB3 0 _ rfl
          have b1' := cells_of hB3 1 _ rfl
          have b2' := cells_of hB3 2 _ rfl
          clear hn h3t t3 hB3 P1 eW eB
          go_wp2_with fail
          refine P2.mono ?_
          rintro e w4 ⟨rfl, hn⟩
          obtain ⟨G4, h4t, t4⟩ := H3.out.flip.step HK.out hn
          have HN : Hid (Alike C w w4 x y (k + 1)) := Lib.hid ⟨_, _, _, h4t.flip, HG.out.2.1.put (by have := HG.out.2.2; omega) HB.out.2.2.2.1 HB.out.2.2.2.2, by have := putP_length ⟨ky, vl⟩ M; have := HG.out.2.2; omega⟩
          clear hn h4t t4 P2 b0' b1' b2'
          go_wp2_with fail
          exact ⟨⟨k + 1, by omega, by rw [Int.natCast_succ], HN⟩, by simp [RowKit.intOf]; omega⟩
      · as_aux_lemma =>
          have G1 := HK.out.get HG.out.1.one HG.out.2.1 ky HB.out.2.2.2.1
          obtain ⟨fv, hfv⟩ : ∃ fv, fv = (findP M ky).1 := ⟨_, rfl⟩
          obtain ⟨fo, hfo⟩ : ∃ fo, fo = (findP M ky).2 := ⟨_, rfl⟩
          rw [← hfv, ← hfo] at G1
          have HFV := Lib.hid (And.intro hfv hfo)
          unfold theIx at G1
          have n1 : (fv.toList != fv.toList) = false := by simp
          have n2 : (fo != fo) = false := by simp
          clear hfv hfo
          go_wp2_with fail
          refine G1.mono ?_
          rintro e w3 ⟨rfl, t3⟩
          have hB3 := t3.heap HB.out.1 (by simp)
          have HG3 := Lib.hid (HG.out.1.new HK.out t3)
          have G2 := HK.out.get HG3.out.two HG.out.2.1 ky HB.out.2.2.2.1
          rw [← HFV.out.1, ← HFV.out.2] at G2
          unfold theIx at G2
          clear b0' b1' b2'
          have b0' := cells_of hB3 0 _ rfl
          have b1' := cells_of hB3 1 _ rfl
          have b2' := cells_of hB3 2 _ rfl
          clear t3 hB3 G1 eW eB
          go_wp2_with fail
          refine G2.mono ?_
          rintro e w4 ⟨rfl, t4⟩
          have HN : Hid (Alike C w w4 x y (k + 1)) := Lib.hid ⟨M, F, G, HG3.out.new HK.out t4, HG.out.2.1, by have := HG.out.2.2; omega⟩
          clear t4 G2 b0' b1' b2'
          go_wp2_with fail
          exact ⟨⟨k + 1, by omega, by rw [Int.natCast_succ], HN⟩, by simp [RowKit.intOf]; omega⟩
      · as_aux_lemma =>
          obtain ⟨fo, hfo⟩ : ∃ fo, fo = (findP M ky).2 := ⟨_, rfl⟩
          have P1 := HK.out.del (HG.out.1.new HK.out ((Turn.refl [] W).drew)).one HG.out.2.1 ky HB.out.2.2.2.1
          rw [← hfo] at P1
          have HFO := Lib.hid hfo
          have n2 : (fo != fo) = false := by simp
          have hlt : B < W.heap.size := lt_of HB.out.1
          have u1 : ∀ w' : World, (B < W.drew.heap.size → w'.heap[B]? = W.drew.heap[B]? ∧ W.drew.heap.size ≤ w'.heap.size) → w'.cell? ⟨B, 1, none⟩ = some (.string ky) := fun w' hg => by
            rw [World.cell?_of_block (w := W) (w' := w') (hg hlt).1]
            exact b1'
          unfold theIx at P1
          clear hfo
          go_wp2_with fail
          clear b0' b1' b2' eW eB
          refine wp_region_mvg (fun a c : World => B < a.heap.size → c.heap[B]? = a.heap[B]? ∧ a.heap.size ≤ c.heap.size) (fun _ _ => ⟨rfl, Nat.le_refl _⟩) (fun h k hB => ⟨((k (Nat.lt_of_lt_of_le hB (h hB).2)).1).trans (h hB).1, Nat.le_trans (h hB).2 (k (Nat.lt_of_lt_of_le hB (h hB).2)).2⟩) [(0, 3, true), (4, 3, true), (3, 1, false), (7, 1, false), (8, 1, true)] (by kernel_rfl) (by kernel_rfl) ?_
          simp only [mvAll, mvSeg, List.drop_succ_cons, List.drop_zero, List.cons_append, List.nil_append, Nat.reduceAdd]
          iterate 6
            refine wpLing_still ?_ (fun w' hG K hK => ?_) (fun K hK => ?_)
            rotate_left
            · have d1 := u1 w' hG
              clear hG
              unfold mvVal
              go_simp
              try exact hK
            go_simp
            refine hK _ ?_
            clear hK K
          clear u1
          refine wpLing_call (fun K hK => ?_)
          unfold mvRun
          go_simp
          simp only [mvUpon]
          refine P1.mono ?_
          rintro e w3 ⟨rfl, hn⟩
          refine ⟨_, rfl, ?_⟩
          go_simp
          obtain ⟨F3, h3t, t3⟩ := (HG.out.1.new HK.out ((Turn.refl [] W).drew)).step HK.out hn
          have H3 := Lib.hid h3t
          refine hK _ _ (fun hb => ⟨t3.block B hb HB.out.2.1, t3.size⟩) ?_
          clear hK K hn h3t t3 P1
          have P2 := HK.out.del H3.out.two HG.out.2.1 ky HB.out.2.2.2.1
          rw [← HFO.out] at P2
          unfold theIx at P2
          have hBG : B ∉ G := HB.out.2.2.1
          refine wpLing_call (fun K hK => ?_)
          unfold mvRun
          go_simp
          simp only [mvUpon]
          refine P2.mono ?_
          rintro e w4 ⟨rfl, hn⟩
          refine ⟨_, rfl, ?_⟩
          go_simp
          obtain ⟨G4, h4t, t4⟩ := H3.out.flip.step HK.out hn
          have HN : Hid (Alike C w w4 x y (k + 1)) := Lib.hid ⟨_, _, _, h4t.flip, HG.out.2.1.del ky, by have := List.length_filter_le (fun y => !decide (y.key = ky)) M; have := HG.out.2.2; unfold delP; omega⟩
          refine hK _ _ (fun hb => ⟨t4.block B hb hBG, t4.size⟩) ?_
          clear hK K hn h4t t4 P2
          iterate 1
            refine wpLing_still ?_ (fun w' hG K hK => ?_) (fun K hK => ?_)
            rotate_left
            · clear hG
              unfold mvVal
              go_simp
              try exact hK
            go_simp
            refine hK _ ?_
            clear hK K
          refine wpLing_nil ?_
          go_wp2_with fail
          exact ⟨⟨k + 1, by omega, by rw [Int.natCast_succ], HN⟩, by simp [RowKit.intOf]; omega⟩
      · as_aux_lemma =>
          have e0 : (d == 0) = false := by simpa using d0
          have e1 : (d == 1) = false := by simpa using d1
          have e2 : (d == 2) = false := by simpa using d2
          have e3 : (d == 3) = false := by simpa using d3
          have HN : Hid (Alike C w W x y (k + 1)) := Lib.hid ⟨M, F, G, HG.out.1, HG.out.2.1, by have := HG.out.2.2; omega⟩
          clear d0 d1 d2 d3
          go_wp2_with fail
          exact ⟨⟨k + 1, by omega, by rw [Int.natCast_succ], HN⟩, by simp [RowKit.intOf]; omega⟩
    · have h3 : ¬ (k : Int) < (n : Int) := by omega
      obtain rfl : k = n := by omega
      obtain ⟨M, F, G, g1, g2, g3⟩ := hrel.out
      have A1 := HK.out.all g1.one g2
      have HG := Lib.hid (And.intro g1 g2)
      unfold theIx at A1
      clear g1 g2 g3 hrel
      go_wp2_with fail
      refine A1.mono ?_
      rintro e w4 ⟨am, qm, cm, rfl, hpm, t4⟩
      have HG4 := Lib.hid (HG.out.1.new HK.out t4)
      have A2 := HK.out.all HG4.out.two HG.out.2
      have HM := Lib.hid hpm
      unfold theIx at A2
      clear hpm t4 A1
      go_wp2_with fail
      refine A2.mono ?_
      rintro e w5 ⟨an, qn, cn, rfl, hpn, t5⟩
      have PT := same_pairs _ _ qm qn M M w5 (HM.out.turn t5 (by simp)) hpn
      have HG5 := Lib.hid (HG4.out.new HK.out t5)
      clear hpn t5 A2
      go_wp2_with fail
      refine PT.mono ?_
      rintro e w6 ⟨k6, rfl, hw6⟩
      have HG6 := Lib.hid (HG5.out.new HK.out (w' := w6) (by rw [hw6]; exact (Turn.refl [] w5).drewN k6))
      have L1 := HK.out.len HG6.out.one HG.out.2
      rw [decide_eq_true rfl]
      unfold theIx at L1
      clear PT hw6
      go_wp2_with fail
      refine L1.mono ?_
      rintro e w7 ⟨rfl, t7⟩
      have HG7 := Lib.hid (HG6.out.new HK.out t7)
      have L2 := HK.out.len HG7.out.two HG.out.2
      unfold theIx at L2
      clear t7 L1
      go_wp2_with fail
      refine L2.mono ?_
      rintro e w8 ⟨rfl, t8⟩
      have HG8 := Lib.hid (HG7.out.new HK.out t8)
      clear t8 L2
      go_wp2_with (go_at_call 7; refine (awake_index HK.out _).mono ?_; rintro e w' ⟨rfl, hb9⟩)
      go_ret
      exact ⟨rfl, HG8.out.grow.trans hb9⟩

end Go.Proofs.Ytkeahapgliljoaa
