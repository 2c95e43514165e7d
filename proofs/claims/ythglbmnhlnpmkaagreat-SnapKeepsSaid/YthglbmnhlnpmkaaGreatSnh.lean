/- SnapKeeps, walked. Numbers and types by name. -/
import Derived.Test.YthglbmnhlnpmkaaGreatSng
import Derived.Test.YthglbmnhlnpmkaaGreatMag
import Derived.OwnWalk
namespace Go.Proofs.YthglbmnhlnpmkaaGreat
open Go.RowKit Go.Lib
set_option maxRecDepth 100000

theorem row_turn8 {w w' : World} {row : Option Nat} (h : w.grownBy w' row) : Turn row.toList w w' := Turn.of_grown h fun k hk => by rw [hk]; simp
theorem reads_cell8 {w : World} {ao : Option Addr} {n c k : Nat} {xs : List Value} {u : Value} (h : Reads w (.slice ao n c) xs) (hu : xs[k]? = some u) : ∃ a, ao = some a ∧ w.cell? (a.add k) = some u := by
  obtain ⟨ao', c', e, _, hn, hc⟩ := h
  cases e
  cases ao with
  | none => rw [(hn rfl).1] at hu; cases hu
  | some a => exact ⟨a, rfl, hc a rfl k u hu⟩

set_option maxHeartbeats 8000000 in
theorem keeps_snap (v1 : Value) (n1 : Nat) (A0 : List Prm) (v2 : Value) (n2 : Nat) (B0 : List Prm) (cr : Nat) (dn : Bool) (v5 : Value) (kl : List UInt8) (fl : Nat) (w : World) (h1 : Prr w v1 n1 A0) (h2 : Prr w v2 n2 B0) (hcr : cr < 256) (hfl : fl < 256) (h5 : Reads w v5 (bv kl)) (h5l : kl.length ≤ maxLen) :
    Calls Tryz.prog 4 #[v1, v2, .int .u8 cr, .bool dn, v5, .int .u8 fl] w fun e w' => e = .returned (.bool true) ∧ Below w.heap.size w w' := by
  obtain ⟨a1, c1, rfl⟩ := h1.shape
  obtain ⟨a2, c2, rfl⟩ := h2.shape
  obtain ⟨nA, hnA⟩ : ∃ nA, nA = kl.length := ⟨_, rfl⟩
  obtain ⟨a5, c5, rfl⟩ : ∃ ao c, v5 = .slice ao nA c := by obtain ⟨ao, c, rfl, _⟩ := h5; exact ⟨ao, c, by rw [bv_length, hnA]⟩
  rw [← hnA] at h5l
  have hm5 : nA ≤ 9223372036854775807 := by unfold maxLen at h5l; omega
  have H5 := Lib.hid (And.intro h5 hnA)
  have HCF := Lib.hid (And.intro hcr hfl)
  have G1 := great_pairs _ n1 A0 w h1
  have H1 := Lib.hid (And.intro h1 h2)
  clear h1 h2 h5 hnA h5l hcr hfl
  go_enter Tryz.func4, Tryz.ntmps4
  go_wp2_with fail
  refine G1.mono ?_
  rintro e w1 ⟨g, q, rfl, hw1, hb1⟩
  have B1 : Hid (Grow w w1) := Lib.hid (show Grow w w1 by rw [hw1]; exact below_drewN (Below.refl _ w) q)
  clear G1 hw1
  cases g with
  | true =>
    clear hb1
    go_wp2_with (go_at_call 7; refine (awake_snap _).mono ?_; rintro e w' ⟨rfl, hb9⟩)
    go_ret
    exact ⟨rfl, B1.out.trans hb9⟩
  | false =>
  have G2 := great_pairs _ n2 B0 w1 (H1.out.2.later B1.out)
  have HBA := Lib.hid (hb1 rfl)
  clear hb1
  go_wp2_with fail
  refine G2.mono ?_
  rintro e w2 ⟨g, q2, rfl, hw2, hb2⟩
  have B2 : Hid (Grow w w2) := Lib.hid (show Grow w w2 by rw [hw2]; exact below_drewN B1.out q2)
  clear G2 hw2
  cases g with
  | true =>
    clear hb2
    go_wp2_with (go_at_call 7; refine (awake_snap _).mono ?_; rintro e w' ⟨rfl, hb9⟩)
    go_ret
    exact ⟨rfl, B2.out.trans hb9⟩
  | false =>
  have HBB := Lib.hid (hb2 rfl)
  clear hb2
  by_cases x1 : 20 < nA
  · have y1 : (20 : Int) < (nA : Int) := by omega
    go_wp2_with (go_at_call 7; refine (awake_snap _).mono ?_; rintro e w' ⟨rfl, hb9⟩)
    go_ret
    exact ⟨rfl, B2.out.trans hb9⟩
  have y1 : ¬ (20 : Int) < (nA : Int) := by omega
  have H20 := Lib.hid x1
  clear x1
  have P1 := apply_nil _ n1 A0 w2 (H1.out.1.later B2.out) HBA.out
  go_wp2_with fail
  refine P1.mono ?_
  rintro e w3 ⟨aa, na, ca, rfl, hA, hg3⟩
  have HA3 := Lib.hid (And.intro hA (B2.out.trans hg3))
  clear hA hg3 P1
  have P2 := apply_nil _ n2 B0 w3 (H1.out.2.later HA3.out.2) HBB.out
  go_wp2_with fail
  refine P2.mono ?_
  rintro e w4 ⟨ab, nb, cb, rfl, hB, hg4⟩
  have HB4 := Lib.hid (And.intro (HA3.out.1.later hg4) (And.intro hB (HA3.out.2.trans hg4)))
  clear hB hg4 P2
  obtain ⟨A, hA⟩ : ∃ A, A = baseP A0 := ⟨_, rfl⟩
  obtain ⟨B, hB⟩ : ∃ B, B = baseP B0 := ⟨_, rfl⟩
  have hRA : Rise A := by rw [hA]; exact rise_base A0
  have hRB : Rise B := by rw [hB]; exact rise_base B0
  have hbA : bulkP A ≤ 3000 := by rw [hA]; exact Nat.le_trans (bulkP_base A0) HBA.out
  have hbB : bulkP B ≤ 3000 := by rw [hB]; exact Nat.le_trans (bulkP_base B0) HBB.out
  have HR4 : Hid (Prr w4 (.slice aa na ca) na A ∧ Prr w4 (.slice ab nb cb) nb B ∧ Grow w w4) := Lib.hid (by rw [hA, hB]; exact HB4.out)
  have HAB := Lib.hid (And.intro hRA (And.intro hRB (And.intro hbA hbB)))
  clear hA hB hRA hRB hbA hbB HB4 HA3 HBA HBB
  obtain ⟨cc, hcc⟩ : ∃ cc, cc = 5 + cr % 9 := ⟨_, rfl⟩
  obtain ⟨ff, hff⟩ : ∃ ff, ff = 5 + fl % 9 := ⟨_, rfl⟩
  have Z1 := Lib.hid (show 5 + (cr : Int) % 9 = (cc : Int) by omega)
  have Z2 := Lib.hid (show 5 + (fl : Int) % 9 = (ff : Int) by omega)
  have HC5 := Lib.hid (show 5 ≤ cc ∧ 5 ≤ ff by omega)
  have b1 : 0 ≤ (cr : Int) ∧ (cr : Int) ≤ 100000 := by have := HCF.out; omega
  have b2 : 0 ≤ (fl : Int) ∧ (fl : Int) ≤ 100000 := by have := HCF.out; omega
  have b3 : 0 ≤ 5 + (cr : Int) % 9 ∧ 5 + (cr : Int) % 9 ≤ 100000 := by omega
  have b4 : 0 ≤ 5 + (fl : Int) % 9 ∧ 5 + (fl : Int) % 9 ≤ 100000 := by omega
  have z3 : wrap64 ((cr : Nat) : Int) = (cr : Int) := wrap_small8 b1.1 b1.2
  have z4 : wrap64 ((fl : Nat) : Int) = (fl : Int) := wrap_small8 b2.1 b2.2
  have z5 : wrap64 (5 + (cr : Int) % 9) = 5 + (cr : Int) % 9 := wrap_small8 b3.1 b3.2
  have z6 : wrap64 (5 + (fl : Int) % 9) = 5 + (fl : Int) % 9 := wrap_small8 b4.1 b4.2
  have z1 := Z1.out
  have z2 := Z2.out
  clear b1 b2 b3 b4 Z1 Z2
  clear hcc hff
  go_wp2_with fail
  obtain ⟨W, hW⟩ : ∃ W, W = (w4.alloc (.cells #[.int .i64 (ff : Int)] 3)).alloc (.cells #[.int .i64 100000, .slice (some ⟨w4.heap.size, 0, none⟩) 1 1, .int .i64 (cc : Int), .bool dn, .slice none 0 0] 29) := ⟨_, rfl⟩
  rw [← hW]
  have hs : W.heap.size = w4.heap.size + 2 := by rw [hW]; simp
  obtain ⟨pb, hpb⟩ : ∃ pb, pb = w4.heap.size + 1 := ⟨_, rfl⟩
  obtain ⟨kb, hkb⟩ : ∃ kb, kb = w4.heap.size := ⟨_, rfl⟩
  rw [← hpb, ← hkb]
  have hW1 : W.heap[pb]? = some (.cells #[.int .i64 100000, .slice (some ⟨kb, 0, none⟩) 1 1, .int .i64 (cc : Int), .bool dn, .slice none 0 0] 29) := by
    rw [hW, hpb, hkb]
    have e : w4.heap.size + 1 = (w4.alloc (.cells #[.int .i64 (ff : Int)] 3)).heap.size := by simp
    rw [e]
    exact heap_alloc_new _ _
  have hWk : Reads W (.slice (some ⟨kb, 0, none⟩) 1 1) (iv [(ff : Int)]) := by
    have r1 : Reads (w4.alloc (.cells (iv [(ff : Int)]).toArray 3)) (.slice (some ⟨w4.heap.size, 0, none⟩) 1 1) (iv [(ff : Int)]) := Reads.lit w4 (iv [(ff : Int)]) 3 (0, 0) 1 rfl
    rw [hW, hkb]
    exact r1.later ((Below.refl _ _).alloc (Nat.le_refl _) _)
  have tW : Turn [] w4 W := by rw [hW]; exact ((Turn.refl [] w4).alloc _).alloc _
  have HW := Lib.hid (And.intro hW1 (And.intro hWk (And.intro tW (And.intro hs (And.intro hpb hkb)))))
  clear hW hW1 hWk tW hs hpb hkb z1 z2 z3 z4 z5 z6
  go_loopw [14] (fun i wr => ∃ k : Nat, k ≤ nA ∧ i = .int .i64 k ∧ Hid (∃ (ao : Option Addr) (c : Nat) (zs : List Int), zs.length = k ∧ wr.heap[pb]? = some (.cells #[.int .i64 100000, .slice (some ⟨kb, 0, none⟩) 1 1, .int .i64 (cc : Int), .bool dn, .slice ao k c] 29) ∧ wr.ownsRow W.heap.size 3 1 (.slice ao k c) k (iv zs) ∧ Stays (fun q => q < W.heap.size ∧ q ≠ pb) W wr)) (fun i _ => nA - (RowKit.intOf i).toNat)
  case atStart => exact ⟨0, Nat.zero_le _, rfl, Lib.hid ⟨none, 0, [], rfl, HW.out.1, World.ownsRow_nil _ _ _ _, Stays.refl _ _⟩⟩
  case round =>
    obtain ⟨k, hk, rfl, hrel⟩ := hrel
    obtain ⟨ao, c, zs, hzl, hpl, hown, hst⟩ := hrel.out
    clear hrel
    by_cases h1 : k < nA
    · have h3 : (k : Int) < (nA : Int) := by omega
      have HZ := Lib.hid (And.intro hzl (And.intro hpl (And.intro hown hst)))
      obtain ⟨x, hx⟩ : ∃ x : UInt8, kl[k]? = some x := ⟨_, List.getElem?_eq_getElem (by have := H5.out.2; omega)⟩
      have hbA : (bv kl)[k]? = some (.int .u8 (x.toNat : Int)) := by simp [bv, hx]
      obtain ⟨aA, ha5, hA1⟩ := reads_cell8 (H5.out.1.later HR4.out.2.2) hbA
      subst ha5
      have hAb : (aA.add k).block < w4.heap.size := World.block_lt_of_cell? w4 _ hA1
      have hAc : W.cell? (aA.add k) = some (.int .u8 (x.toNat : Int)) := (World.cell?_of_block (HW.out.2.2.1.block _ hAb (by simp))).trans hA1
      obtain ⟨X, hX⟩ : ∃ X : Nat → Prop, X = fun q => q < W.heap.size := ⟨_, rfl⟩
      have u0 : ∀ w' : World, Stays X wr.drew w' → w'.cell? ⟨pb, 4, none⟩ = some (.slice ao k c) := fun w' hg => hg.cell (by rw [hX]; show pb < _; have := HW.out.2.2.2.1; have := HW.out.2.2.2.2.1; omega) (cells_of hpl 4 _ rfl)
      have u1 : ∀ w' : World, Stays X wr.drew w' → w'.cell? (aA.add k) = some (.int .u8 (x.toNat : Int)) := fun w' hg => hg.cell (by rw [hX]; show (aA.add k).block < _; have := HW.out.2.2.2.1; omega) ((hst.cell (X := fun q => q < W.heap.size ∧ q ≠ pb) (by show _ ∧ _; have := HW.out.2.2.2.1; have := HW.out.2.2.2.2.1; omega) hAc))
      have zx : IntKind.i64.wrap (x.toNat : Int) = (x.toNat : Int) := by rw [IntKind.wrap_i64]; have := x.toNat_lt; omega
      have HX := Lib.hid hX
      clear hzl hpl hown hst hbA hA1 hAc hAb hX hx
      go_wp2_with fail
      refine wp_region_mgs (Stays X) (Stays.refl X) (fun h k => h.trans k) 10 [(0, 7, true), (7, 1, false), (8, 1, false), (9, 1, false), (10, 1, false)] (by kernel_rfl) (by kernel_rfl) ?_
      simp only [mvAll, mvSeg, List.drop_succ_cons, List.drop_zero, List.cons_append, List.nil_append, Nat.reduceAdd]
      iterate 7
        refine wpLgs_still ?_ (fun w' hG K hK => ?_) (fun K hK => ?_)
        rotate_left
        · have d0 := u0 w' hG
          have d1 := u1 w' hG
          clear hG
          unfold mvVal
          go_simp
          try exact hK
        go_simp
        refine hK _ ?_
        clear hK K
      have hsz : W.heap.size ≤ wr.heap.size := HZ.out.2.2.2.1.size
      have stay : ∀ (a : World) (o : Obj), wr.heap.size ≤ a.heap.size → Stays X a (a.alloc o) := fun a o ha => Stays.of_turn ((Turn.refl [] a).alloc o) fun q hq => ⟨by rw [HX.out] at hq; have hq' : q < W.heap.size := hq; omega, by simp⟩
      refine wpLgs_call (fun K hK => ?_)
      unfold mvRun
      go_simp
      simp only [mvUpon]
      refine hK _ _ (stay _ _ (Nat.le_refl _)) ?_
      clear hK K
      have F1 : Hid (k + 1 ≤ 1000000) := Lib.hid (by have := H20.out; omega)
      have HCL : Hid (Cells (wr.drew.alloc (.cells [Value.int .i64 (x.toNat : Int)].toArray 3 (0, 0))) (.slice (some ⟨wr.drew.heap.size, 0, none⟩) 1 1) 1 1 [Value.int .i64 (x.toNat : Int)]) := Lib.hid (Cells.lit wr.drew [Value.int .i64 (x.toNat : Int)] 3 (0, 0) 1 1 rfl)
      refine wpLgs_call (fun K hK => ?_)
      refine mvRun_append_gen elemInts rfl (.tmp 54) (.tmp 60) rfl W.heap.size (.slice ao k c) k (iv zs) (by simp [Act.eval]; rfl) ((own_drew HZ.out.2.2.1 1).alloc _) (.slice (some ⟨wr.drew.heap.size, 0, none⟩) 1 1) 1 [Value.int .i64 (x.toNat : Int)] (by simp [Act.eval]; rfl) HCL.out (fun u hu => by rw [List.mem_singleton.1 hu]; rfl) (k + 1) rfl F1 (by decide) (by simp; omega) ?_
      intro ao5 c5' w5 hown5 hg5 ho5
      have t5 := row_turn8 hg5
      have hrow : ∀ q, (Value.slice ao k c).ownBlock = some q → ¬ X q := fun q hq => by
        have := (HZ.out.2.2.1.lt q hq).1
        rw [HX.out]
        show ¬ q < W.heap.size
        omega
      have st5 : Stays X (wr.drew.alloc (.cells #[Value.int .i64 (x.toNat : Int)] 3)) w5 := Stays.of_turn t5 fun q hq => ⟨by rw [HX.out] at hq; have hq' : q < W.heap.size := hq; simp; omega, fun hm => hrow q (by simpa using hm) hq⟩
      refine hK _ _ st5 ?_
      clear hK K
      have stA : Stays X wr.drew w5 := (stay wr.drew _ (Nat.le_refl _)).trans st5
      have hpX : X pb := by rw [HX.out]; show pb < W.heap.size; have := HW.out.2.2.2.1; have := HW.out.2.2.2.2.1; omega
      have hp5 : w5.heap[pb]? = some (.cells #[.int .i64 100000, .slice (some ⟨kb, 0, none⟩) 1 1, .int .i64 (cc : Int), .bool dn, .slice ao k c] 29) := (stA.2 pb hpX).trans HZ.out.2.1
      have q1 := cells_of hp5 4 _ rfl
      have f1 := free_of hp5 4
      have HF := Lib.hid (And.intro hown5 (And.intro ho5 (And.intro stA (And.intro hp5 hg5))))
      clear hown5 ho5 stA st5 hp5 hg5 t5 hrow u0 u1 stay
      iterate 1
        refine wpLgs_call (fun K hK => ?_)
        unfold mvRun
        go_simp
        simp only [mvUpon]
        refine hK _ _ (Stays.refl _ _) ?_
        clear hK K
      refine wpLgs_last (fun K hK => ?_)
      unfold mvRun
      go_simp
      simp only [mvUpon]
      refine hK _ _ ?_
      clear hK K
      refine wpLgs_nil ?_
      go_wp2_with fail
      obtain ⟨hown5, ho5, stA, hp5, hg5⟩ := HF.out
      refine ⟨⟨k + 1, by omega, by rw [Int.natCast_succ], Lib.hid ⟨ao5, c5', zs ++ [(x.toNat : Int)], by rw [List.length_append, HZ.out.1]; rfl, heap_set hp5 4 _, ?_, ?_⟩⟩, by simp [RowKit.intOf]; omega⟩
      · have hne : ∀ g, (Value.slice ao5 (k + 1) c5').ownBlock = some g → g ≠ pb := fun g hg => by
          have := (hown5.lt g hg).1
          have := HW.out.2.2.2.1
          have := HW.out.2.2.2.2.1
          omega
        have := owns_turn hown5 ((Turn.refl [pb] w5).set (c := pb) (.inl (by simp)) 4 (.slice ao5 (k + 1) c5')) (fun g hg => by simp only [List.mem_singleton]; exact hne g hg)
        simpa [iv] using this
      · refine ((HZ.out.2.2.2.trans (Stays.drew wr)).trans ((stA.less (Y := fun q => q < W.heap.size ∧ q ≠ pb) fun q hq => by rw [HX.out]; exact hq.1))).trans ?_
        exact Stays.of_turn ((Turn.refl [pb] w5).set (c := pb) (.inl (by simp)) 4 _) fun q hq => ⟨by have := stA.1.size; have := HZ.out.2.2.2.1.size; have h := hq.1; have : wr.drew.heap.size = wr.heap.size := rfl; omega, by simp only [List.mem_singleton]; exact hq.2⟩
    · obtain rfl : k = nA := by omega
      have h3 : ¬ (k : Int) < (k : Int) := by omega
      have p0 := cells_of hpl 0 _ rfl
      have p1 := cells_of hpl 1 _ rfl
      have p2 := cells_of hpl 2 _ rfl
      have p3 := cells_of hpl 3 _ rfl
      have p4 := cells_of hpl 4 _ rfl
      have HZ := Lib.hid (And.intro hzl (And.intro hown hst))
      clear hzl hown hst hpl
      go_wp2_with fail
      obtain ⟨hzl, hown, hst⟩ := HZ.out
      have st1 : Stays (fun q => q < w4.heap.size) W wr := hst.less fun q hq => ⟨by have := HW.out.2.2.2.1; omega, by have := HW.out.2.2.2.2.1; omega⟩
      have hg4 : Grow w4 wr := Below.trans (turn_grow8 HW.out.2.2.1) st1.below
      have hrk : Reads wr (.slice (some ⟨kb, 0, none⟩) 1 1) (iv [(ff : Int)]) := hst.reads HW.out.2.1 fun _ a n c e => by
        cases e
        have h1 := HW.out.2.2.2.1
        have h2 := HW.out.2.2.2.2.1
        have h3 := HW.out.2.2.2.2.2
        exact ⟨by show kb < _; omega, by show kb ≠ _; omega⟩
      have hrz : Reads wr (.slice ao k c) (iv zs) := Reads.own (by rw [iv_length, hzl]; exact hown)
      have hk20 : k ≤ 20 := by have := H20.out; omega
      obtain ⟨M0, e0⟩ : ∃ M, M = MD.new 100000 cc dn [(ff : Int)] zs := ⟨_, rfl⟩
      obtain ⟨k1, M1, e1⟩ : ∃ k M, saveT M0 A = (k, M) := ⟨_, _, rfl⟩
      obtain ⟨k2, M2, e2⟩ : ∃ k M, saveT M1 B = (k, M) := ⟨_, _, rfl⟩
      obtain ⟨M3, e3⟩ : ∃ M, M = M2.restart 100000 0 false [] [] := ⟨_, rfl⟩
      have P := keeps_plain HAB.out.1 HAB.out.2.1 HAB.out.2.2.1 HAB.out.2.2.2 (cc : Int) dn (ff : Int) zs (by have := HC5.out; omega) (by have := HC5.out; omega)
      rw [← e0, e1] at P
      simp only [e2, ← e3] at P
      obtain ⟨rfl, P2, P3, P4⟩ := P
      have lA := bytesT_length HAB.out.2.2.1
      have lB := bytesT_length HAB.out.2.2.2
      have hw0 : Well 24100 M0 0 := by rw [e0]; exact well_new _ _ _ _ _ _ (by decide) (by simp) (by omega)
      have hw1 : Well 24100 M1 5 := by have := well_saveT hw0 lA; rw [e1] at this; exact this
      have hw2 : Well 24100 M2 10 := by have := well_saveT hw1 lB; rw [e2] at this; exact this
      have hw3 : Well 24100 M3 11 := by rw [e3]; exact well_restart8 hw2 (by decide)
      have N0 := sol_new 100000 cc dn (.slice (some ⟨kb, 0, none⟩) 1 1) (.slice ao k c) [(ff : Int)] zs wr hrk hrz (by simp) (by omega)
      rw [← e0] at N0
      have HP := Lib.hid (And.intro e1 (And.intro e2 e3))
      have HPL := Lib.hid (And.intro P2 (And.intro P3 P4))
      have HWL := Lib.hid (And.intro hw0 (And.intro hw1 (And.intro hw2 hw3)))
      have HLN := Lib.hid (And.intro lA lB)
      have HG4 := Lib.hid hg4
      clear hzl hown hst st1 hg4 hrk hrz hk20 e0 e1 e2 e3 P2 P3 P4 lA lB hw0 hw1 hw2 hw3 HZ HW p0 p1 p2 p3 p4
      refine N0.mono ?_
      rintro e w7 ⟨b, rfl, hs, t⟩
      have HS7 := Lib.hid (And.intro hs (turn_grow8 t))
      have S1 := sol_save hs (HR4.out.1.later (HG4.out.trans (turn_grow8 t))) HAB.out.2.2.1 HWL.out.1 (J := 125) (by omega) room8 HLN.out.1
      rw [HP.out.1] at S1
      unfold theDisk at S1
      unfold theDisk
      clear hs t N0
      go_wp2_with fail
      refine S1.mono ?_
      rintro e w8 ⟨rfl, hs, hst⟩
      have hg8 : Grow wr w8 := Below.trans HS7.out.2 hst.below
      have HS8 := Lib.hid (And.intro hs hg8)
      have S2 := sol_save hs (HR4.out.2.1.later (HG4.out.trans hg8)) HAB.out.2.2.2 HWL.out.2.1 (J := 125) (by omega) room8 HLN.out.2
      rw [HP.out.2.1] at S2
      unfold theDisk at S2
      clear hs hst hg8 S1 HS7
      go_wp2_with fail
      refine S2.mono ?_
      rintro e w9 ⟨rfl, hs, hst⟩
      have hg9 : Grow wr w9 := Below.trans HS8.out.2 hst.below
      have HS9 := Lib.hid (And.intro hs hg9)
      have R1 := sol_restart hs (well_lim room8 HWL.out.2.2.1 (by omega)) 100000 0 false
      rw [← HP.out.2.2] at R1
      unfold theDisk at R1
      clear hs hst hg9 S2 HS8
      go_wp2_with fail
      refine R1.mono ?_
      rintro e w11 ⟨rfl, hs, hst⟩
      have hg11 : Grow wr w11 := Below.trans HS9.out.2 hst.below
      have L2 := sol_load hs (lim_small room8 HWL.out.2.2.2 (by omega)) (load_fits HWL.out.2.2.2 (by omega))
      rw [HPL.out.1] at L2
      unfold theDisk at L2
      have HG11 := Lib.hid hg11
      clear hs hst hg11 R1 HS9
      go_wp2_with fail
      refine L2.mono ?_
      rintro e w13 ⟨an, qn, cn, rfl, hpn, t13, _, _⟩
      have hg13 : Grow w4 w13 := HG4.out.trans (HG11.out.trans (turn_grow8 t13))
      have H13 := Lib.hid (And.intro hpn hg13)
      have C1 := fun (w' : World) (hg : Grow w13 w') => same_pairs_at _ _ qn nb (loadL M3) B _ rfl w13 w' hpn (HR4.out.2.1.later hg13) hg
      have C2 := fun (w' : World) (hg : Grow w13 w') => same_pairs_at _ _ qn na (loadL M3) A _ rfl w13 w' hpn (HR4.out.1.later hg13) hg
      have HC1 := Lib.hid C1
      have HC2 := Lib.hid C2
      clear hpn t13 hg13 L2 C1 C2 HG11
      by_cases h0 : k2 = 0
      · subst h0
        have hL := HPL.out.2.1 rfl
        have PT := HC1.out w13 (Grow.refl _)
        rw [hL, decide_eq_true rfl] at PT
        clear hL
        go_wp2_with (go_at_call 13; refine (num_at _ _).mono ?_; rintro e w' ⟨rfl, rfl⟩)
        refine PT.mono ?_
        rintro e w14 ⟨rfl, hg14⟩
        have HB14 := Lib.hid hg14
        clear hg14 PT
        go_wp2_with (go_at_call 7; refine (awake_snap _).mono ?_; rintro e w' ⟨rfl, hb9⟩)
        go_ret
        exact ⟨rfl, HR4.out.2.2.trans (H13.out.2.trans (HB14.out.trans hb9))⟩
      · have PT := HC2.out w13 (Grow.refl _)
        have HH0 := Lib.hid h0
        by_cases hma : loadL M3 = A
        · rw [decide_eq_true hma] at PT
          clear hma
          go_wp2_with (go_at_call 13; refine (num_at _ _).mono ?_; rintro e w' ⟨rfl, rfl⟩)
          refine PT.mono ?_
          rintro e w14 ⟨rfl, hg14⟩
          have HB14 := Lib.hid hg14
          clear hg14 PT
          go_wp2_with (go_at_call 7; refine (awake_snap _).mono ?_; rintro e w' ⟨rfl, hb9⟩)
          go_ret
          exact ⟨rfl, HR4.out.2.2.trans (H13.out.2.trans (HB14.out.trans hb9))⟩
        · rw [decide_eq_false hma] at PT
          have hmb : loadL M3 = B := HPL.out.2.2.elim (fun e => absurd e hma) id
          have HMB := Lib.hid hmb
          clear hma hmb
          go_wp2_with (go_at_call 13; refine (num_at _ _).mono ?_; rintro e w' ⟨rfl, rfl⟩)
          refine PT.mono ?_
          rintro e w14 ⟨rfl, hg14⟩
          have PT2 := HC1.out w14 hg14
          rw [HMB.out, decide_eq_true rfl] at PT2
          have HB14 := Lib.hid hg14
          clear hg14 PT
          go_wp2_with fail
          refine PT2.mono ?_
          rintro e w15 ⟨rfl, hg15⟩
          have HB15 := Lib.hid hg15
          clear hg15 PT2
          go_wp2_with (go_at_call 7; refine (awake_snap _).mono ?_; rintro e w' ⟨rfl, hb9⟩)
          go_ret
          exact ⟨rfl, HR4.out.2.2.trans (H13.out.2.trans (HB14.out.trans (HB15.out.trans hb9)))⟩

theorem keeps_snap_int (v1 : Value) (n1 : Nat) (A0 : List Prm) (v2 : Value) (n2 : Nat) (B0 : List Prm) (cr : Int) (dn : Bool) (v5 : Value) (kl : List UInt8) (fl : Int) (w : World) (h1 : Prr w v1 n1 A0) (h2 : Prr w v2 n2 B0) (hcr : 0 ≤ cr ∧ cr ≤ 255) (hfl : 0 ≤ fl ∧ fl ≤ 255) (h5 : Reads w v5 (bv kl)) (h5l : kl.length ≤ maxLen) :
    Calls Tryz.prog 4 #[v1, v2, .int .u8 cr, .bool dn, v5, .int .u8 fl] w fun e w' => e = .returned (.bool true) ∧ Below w.heap.size w w' := by
  obtain ⟨c, rfl⟩ := Int.eq_ofNat_of_zero_le hcr.1
  obtain ⟨f, rfl⟩ := Int.eq_ofNat_of_zero_le hfl.1
  exact keeps_snap v1 n1 A0 v2 n2 B0 c dn v5 kl f w h1 h2 (by have := hcr.2; omega) (by have := hfl.2; omega) h5 h5l

end Go.Proofs.YthglbmnhlnpmkaaGreat
