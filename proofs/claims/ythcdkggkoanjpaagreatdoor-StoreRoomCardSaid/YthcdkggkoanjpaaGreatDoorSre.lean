/- StoreKeeps, walked over what is asked of the code's store. Numbers and types by name. -/
import Derived.Test.YthcdkggkoanjpaaGreatDoorDnu
import Derived.Test.YthcdkggkoanjpaaGreatDoorMgs
import Derived.Test.YthcdkggkoanjpaaGreatDoorMag
namespace Go.Proofs.YthcdkggkoanjpaaGreatDoor
open Go.RowKit Go.Lib
set_option maxRecDepth 100000
theorem row_turn10 {w w' : World} {row : Option Nat} (h : w.grownBy w' row) : Turn row.toList w w' := Turn.of_grown h fun k hk => by rw [hk]; simp
theorem reads_cellk {w : World} {ao : Option Addr} {n c k : Nat} {xs : List Value} {u : Value} (h : Reads w (.slice ao n c) xs) (hu : xs[k]? = some u) : ∃ a, ao = some a ∧ w.cell? (a.add k) = some u := by
  obtain ⟨ao', c', e, _, hn, hc⟩ := h
  cases e
  cases ao with
  | none => rw [(hn rfl).1] at hu; cases hu
  | some a => exact ⟨a, rfl, hc a rfl k u hu⟩
set_option maxHeartbeats 16000000 in
theorem keeps_store {C : SP} {I : SI} (K : StK C I) (v1 : Value) (n1 : Nat) (LL : List (List Opm)) (zm cr : Nat) (dn : Bool) (v5 : Value) (A : List UInt8) (v6 : Value) (A6 : List UInt8) (w : World) (h1 : Obs w v1 n1 LL) (hzm : zm < 65536) (hcr : cr < 256) (h5 : Reads w v5 (bv A)) (h5l : A.length ≤ maxLen) (h6 : Reads w v6 (bv A6)) (h6l : A6.length ≤ maxLen) (ht : Tab w) :
    Calls Tryz.prog 4 #[v1, .int .u16 zm, .int .u8 cr, .bool dn, v5, v6] w fun e w' => e = .returned (.bool true) ∧ Below w.heap.size w w' := by
  obtain ⟨a1, c1, rfl⟩ := h1.shape
  obtain ⟨nA, hnA⟩ : ∃ nA, nA = A.length := ⟨_, rfl⟩
  obtain ⟨a5, c5, rfl⟩ : ∃ ao c, v5 = .slice ao nA c := by obtain ⟨ao, c, rfl, _⟩ := h5; exact ⟨ao, c, by rw [bv_length, hnA]⟩
  obtain ⟨nB, hnB⟩ : ∃ nB, nB = A6.length := ⟨_, rfl⟩
  obtain ⟨a6, c6, rfl⟩ : ∃ ao c, v6 = .slice ao nB c := by obtain ⟨ao, c, rfl, _⟩ := h6; exact ⟨ao, c, by rw [bv_length, hnB]⟩
  rw [← hnA] at h5l
  rw [← hnB] at h6l
  have hm5 : nA ≤ 9223372036854775807 := by unfold maxLen at h5l; omega
  have hm6 : nB ≤ 9223372036854775807 := by unfold maxLen at h6l; omega
  have H5 := Lib.hid (And.intro h5 hnA)
  have H6 := Lib.hid (And.intro h6 hnB)
  have hn1 := h1.2.1
  unfold maxLen at hn1
  have H1 := Lib.hid h1
  have HT := Lib.hid ht
  have HK := Lib.hid K
  have hC := heavy_wal (.slice a1 n1 c1) n1 LL none ⟨0, 0, none⟩ 0 0 (fun _ => ⟨0, none, 0, [], 0, false, none, 0, []⟩) w h1 ⟨.inr ⟨rfl, rfl⟩, Nat.zero_le _, fun i hi => absurd hi (Nat.not_lt_zero _)⟩
  obtain ⟨km, hkm⟩ : ∃ km, km = zm % 400 := ⟨_, rfl⟩
  have r3 : Int.tmod (zm : Int) 400 = (km : Int) := by rw [hkm]; exact Int.ofNat_tmod zm 400
  have r4 : (zm : Int) % 400 = (km : Int) := by rw [hkm]; omega
  clear h1 ht K hkm h5 h5l hnA h6 h6l hnB
  go_enter Tryz.func4, Tryz.ntmps4
  go_wp2_with fail
  refine hC.mono ?_
  rintro e w1 ⟨g, q, rfl, hw1, hb⟩
  have B1 : Hid (Grow w w1) := Lib.hid (show Grow w w1 by rw [hw1]; exact below_drewN (Below.refl _ w) q)
  clear hC hw1
  cases g with
  | true =>
    clear hb
    go_wp2_with (go_at_call 12; refine (awake_store HK.out _ (HT.out.later B1.out)).mono ?_; rintro e w' ⟨rfl, hb9⟩)
    go_ret
    exact ⟨rfl, B1.out.trans hb9⟩
  | false =>
  have HL := Lib.hid (hb rfl)
  clear hb
  by_cases x1 : 20 < nA
  · have y1 : (20 : Int) < (nA : Int) := by omega
    go_wp2_with (go_at_call 12; refine (awake_store HK.out _ (HT.out.later B1.out)).mono ?_; rintro e w' ⟨rfl, hb9⟩)
    go_ret
    exact ⟨rfl, B1.out.trans hb9⟩
  have y1 : ¬ (20 : Int) < (nA : Int) := by omega
  by_cases x2 : 20 < nB
  · have y2 : (20 : Int) < (nB : Int) := by omega
    go_wp2_with (go_at_call 12; refine (awake_store HK.out _ (HT.out.later B1.out)).mono ?_; rintro e w' ⟨rfl, hb9⟩)
    go_ret
    exact ⟨rfl, B1.out.trans hb9⟩
  have y2 : ¬ (20 : Int) < (nB : Int) := by omega
  obtain ⟨cc, hcc⟩ : ∃ cc, cc = 3 + cr := ⟨_, rfl⟩
  have z4 : wrap64 ((cr : Nat) : Int) = (cr : Int) := wrap64_id _ (by omega)
  have z5 : wrap64 (3 + (cr : Int)) = 3 + (cr : Int) := wrap64_id _ (by omega)
  have z1 : 3 + (cr : Int) = (cc : Int) := by omega
  have HC3 := Lib.hid (And.intro (show 3 ≤ cc by rw [hcc]; exact Nat.le_add_right 3 cr) (And.intro (Nat.le_of_not_lt x1) (Nat.le_of_not_lt x2)))
  clear x1 x2 hcc
  go_wp2_with fail
  obtain ⟨W, hW⟩ : ∃ W, W = w1.alloc (.cells #[.int .i64 100000, .slice none 0 0, .int .i64 (cc : Int), .bool dn, .slice none 0 0] 31) := ⟨_, rfl⟩
  rw [← hW]
  have hs : W.heap.size = w1.heap.size + 1 := by rw [hW]; simp
  obtain ⟨pb, hpb⟩ : ∃ pb, pb = w1.heap.size := ⟨_, rfl⟩
  rw [← hpb]
  have hW1 : W.heap[pb]? = some (.cells #[.int .i64 100000, .slice none 0 0, .int .i64 (cc : Int), .bool dn, .slice none 0 0] 31) := by
    rw [hW, hpb]
    exact heap_alloc_new _ _
  have tW : Turn [] w1 W := by rw [hW]; exact (Turn.refl [] w1).alloc _
  have HW := Lib.hid (And.intro hW1 (And.intro tW (And.intro hs hpb)))
  clear hW hW1 tW hs hpb z1 z4 z5 hcr
  go_loopw [14] (fun i wr => ∃ k : Nat, k ≤ nA ∧ i = .int .i64 k ∧ Hid (∃ (ao : Option Addr) (c : Nat) (zs : List Int), zs.length = k ∧ wr.heap[pb]? = some (.cells #[.int .i64 100000, .slice none 0 0, .int .i64 (cc : Int), .bool dn, .slice ao k c] 31) ∧ wr.ownsRow W.heap.size 3 1 (.slice ao k c) k (iv zs) ∧ Stays (fun q => q < W.heap.size ∧ q ≠ pb) W wr)) (fun i _ => nA - (RowKit.intOf i).toNat)
  case atStart => exact ⟨0, Nat.zero_le _, rfl, Lib.hid ⟨none, 0, [], rfl, HW.out.1, World.ownsRow_nil _ _ _ _, Stays.refl _ _⟩⟩
  case round =>
    obtain ⟨k, hk, rfl, hrel⟩ := hrel
    obtain ⟨ao, c, zs, hzl, hpl, hown, hst⟩ := hrel.out
    clear hrel
    by_cases h1 : k < nA
    · have h3 : (k : Int) < (nA : Int) := by omega
      have HZ := Lib.hid (And.intro hzl (And.intro hpl (And.intro hown hst)))
      obtain ⟨x, hx⟩ : ∃ x : UInt8, A[k]? = some x := ⟨_, List.getElem?_eq_getElem (by have := H5.out.2; omega)⟩
      have hbA : (bv A)[k]? = some (.int .u8 (x.toNat : Int)) := by simp [bv, hx]
      obtain ⟨aA, ha5, hA1⟩ := reads_cellk (H5.out.1.later B1.out) hbA
      subst ha5
      have hAb : (aA.add k).block < w1.heap.size := World.block_lt_of_cell? w1 _ hA1
      have hAc : W.cell? (aA.add k) = some (.int .u8 (x.toNat : Int)) := (World.cell?_of_block (HW.out.2.1.block _ hAb (by simp))).trans hA1
      obtain ⟨X, hX⟩ : ∃ X : Nat → Prop, X = fun q => q < W.heap.size := ⟨_, rfl⟩
      have u0 : ∀ w' : World, Stays X wr.drew w' → w'.cell? ⟨pb, 4, none⟩ = some (.slice ao k c) := fun w' hg => hg.cell (by rw [hX]; show pb < _; have := HW.out.2.2.1; have := HW.out.2.2.2; omega) (cells_of hpl 4 _ rfl)
      have u1 : ∀ w' : World, Stays X wr.drew w' → w'.cell? (aA.add k) = some (.int .u8 (x.toNat : Int)) := fun w' hg => hg.cell (by rw [hX]; show (aA.add k).block < _; have := HW.out.2.2.1; omega) ((hst.cell (X := fun q => q < W.heap.size ∧ q ≠ pb) (by show _ ∧ _; have := HW.out.2.2.1; have := HW.out.2.2.2; omega) hAc))
      have zx : IntKind.i64.wrap (x.toNat : Int) = (x.toNat : Int) := by rw [IntKind.wrap_i64]; have := x.toNat_lt; omega
      have HX := Lib.hid hX
      clear hzl hpl hown hst hbA hA1 hAc hAb hX hx
      go_wp2_with fail
      refine wp_region_mgs (Stays X) (Stays.refl X) (fun h k => h.trans k) 10 [(0, 7, true), (7, 1, false), (8, 1, false), (9, 1, false), (10, 1, false)] (by kernel_rfl) (by kernel_rfl) ?_
      simp only [mvAll, mvSeg, List.drop_succ_cons, List.drop_zero, List.cons_append, List.nil_append, Nat.reduceAdd]
      iterate 7
        refine wpLgs_still ?_ (fun w' hG K hK => ?_) (fun K hK => ?_)
        rotate_left
        · have d0 := u0 w' hG
          have d1 := u1 w' hG
          clear hG
          unfold mvVal
          go_simp
          try exact hK
        go_simp
        refine hK _ ?_
        clear hK K
      have hsz : W.heap.size ≤ wr.heap.size := HZ.out.2.2.2.1.size
      have stay : ∀ (a : World) (o : Obj), wr.heap.size ≤ a.heap.size → Stays X a (a.alloc o) := fun a o ha => Stays.of_turn ((Turn.refl [] a).alloc o) fun q hq => ⟨by rw [HX.out] at hq; have hq' : q < W.heap.size := hq; omega, by simp⟩
      refine wpLgs_call (fun K hK => ?_)
      unfold mvRun
      go_simp
      simp only [mvUpon]
      refine hK _ _ (stay _ _ (Nat.le_refl _)) ?_
      clear hK K
      have F1 : Hid (k + 1 ≤ 1000000) := Lib.hid (by have := HC3.out; omega)
      have HCL : Hid (Cells (wr.drew.alloc (.cells [Value.int .i64 (x.toNat : Int)].toArray 3 (0, 0))) (.slice (some ⟨wr.drew.heap.size, 0, none⟩) 1 1) 1 1 [Value.int .i64 (x.toNat : Int)]) := Lib.hid (Cells.lit wr.drew [Value.int .i64 (x.toNat : Int)] 3 (0, 0) 1 1 rfl)
      refine wpLgs_call (fun K hK => ?_)
      refine mvRun_append_gen elemInts rfl (.tmp 53) (.tmp 59) rfl W.heap.size (.slice ao k c) k (iv zs) (by simp [Act.eval]; rfl) ((own_drew HZ.out.2.2.1 1).alloc _) (.slice (some ⟨wr.drew.heap.size, 0, none⟩) 1 1) 1 [Value.int .i64 (x.toNat : Int)] (by simp [Act.eval]; rfl) HCL.out (fun u hu => by rw [List.mem_singleton.1 hu]; rfl) (k + 1) rfl F1 (by decide) (by simp; omega) ?_
      intro ao5 c5' w5 hown5 hg5 ho5
      have t5 := row_turn10 hg5
      have hrow : ∀ q, (Value.slice ao k c).ownBlock = some q → ¬ X q := fun q hq => by
        have := (HZ.out.2.2.1.lt q hq).1
        rw [HX.out]
        show ¬ q < W.heap.size
        omega
      have st5 : Stays X (wr.drew.alloc (.cells #[Value.int .i64 (x.toNat : Int)] 3)) w5 := Stays.of_turn t5 fun q hq => ⟨by rw [HX.out] at hq; have hq' : q < W.heap.size := hq; simp; omega, fun hm => hrow q (by simpa using hm) hq⟩
      refine hK _ _ st5 ?_
      clear hK K
      have stA : Stays X wr.drew w5 := (stay wr.drew _ (Nat.le_refl _)).trans st5
      have hpX : X pb := by rw [HX.out]; show pb < W.heap.size; have := HW.out.2.2.1; have := HW.out.2.2.2; omega
      have hp5 : w5.heap[pb]? = some (.cells #[.int .i64 100000, .slice none 0 0, .int .i64 (cc : Int), .bool dn, .slice ao k c] 31) := (stA.2 pb hpX).trans HZ.out.2.1
      have q1 := cells_of hp5 4 _ rfl
      have f1 := free_of hp5 4
      have HF := Lib.hid (And.intro hown5 (And.intro ho5 (And.intro stA (And.intro hp5 hg5))))
      clear hown5 ho5 stA st5 hp5 hg5 t5 hrow u0 u1 stay
      iterate 1
        refine wpLgs_call (fun K hK => ?_)
        unfold mvRun
        go_simp
        simp only [mvUpon]
        refine hK _ _ (Stays.refl _ _) ?_
        clear hK K
      refine wpLgs_last (fun K hK => ?_)
      unfold mvRun
      go_simp
      simp only [mvUpon]
      refine hK _ _ ?_
      clear hK K
      refine wpLgs_nil ?_
      go_wp2_with fail
      obtain ⟨hown5, ho5, stA, hp5, hg5⟩ := HF.out
      refine ⟨⟨k + 1, by omega, by rw [Int.natCast_succ], Lib.hid ⟨ao5, c5', zs ++ [(x.toNat : Int)], by rw [List.length_append, HZ.out.1]; rfl, heap_set hp5 4 _, ?_, ?_⟩⟩, by simp [RowKit.intOf]; omega⟩
      · have hne : ∀ g, (Value.slice ao5 (k + 1) c5').ownBlock = some g → g ≠ pb := fun g hg => by
          have := (hown5.lt g hg).1
          have := HW.out.2.2.1
          have := HW.out.2.2.2
          omega
        have := owns_turn hown5 ((Turn.refl [pb] w5).set (c := pb) (.inl (by simp)) 4 (.slice ao5 (k + 1) c5')) (fun g hg => by simp only [List.mem_singleton]; exact hne g hg)
        simpa [iv] using this
      · refine ((HZ.out.2.2.2.trans (Stays.drew wr)).trans ((stA.less (Y := fun q => q < W.heap.size ∧ q ≠ pb) fun q hq => by rw [HX.out]; exact hq.1))).trans ?_
        exact Stays.of_turn ((Turn.refl [pb] w5).set (c := pb) (.inl (by simp)) 4 _) fun q hq => ⟨by have := stA.1.size; have := HZ.out.2.2.2.1.size; have h := hq.1; have : wr.drew.heap.size = wr.heap.size := rfl; omega, by simp only [List.mem_singleton]; exact hq.2⟩
    · obtain rfl : k = nA := by omega
      have h3 : ¬ (k : Int) < (k : Int) := by omega
      have HV := Lib.hid (And.intro hzl (And.intro hpl (And.intro hown (And.intro hst (Nat.lt_of_lt_of_le (show pb < W.heap.size by have := HW.out.2.2.1; have := HW.out.2.2.2; omega) hst.1.size)))))
      clear hzl hpl hown hst
      go_wp2_with fail
      obtain ⟨aK, haK⟩ : ∃ a, a = ao := ⟨_, rfl⟩
      obtain ⟨cK, hcK⟩ : ∃ a, a = c := ⟨_, rfl⟩
      obtain ⟨ks, hks⟩ : ∃ a, a = zs := ⟨_, rfl⟩
      obtain ⟨nK, hnK⟩ : ∃ a, a = k := ⟨_, rfl⟩
      obtain ⟨V, hV⟩ : ∃ a, a = wr := ⟨_, rfl⟩
      have HVR : Hid (V = wr) := Lib.hid hV
      rw [← haK, ← hcK, ← hks, ← hnK, ← hV] at HV
      have HKN : Hid (nK ≤ 20) := Lib.hid (by rw [hnK]; exact HC3.out.2.1)
      clear haK hcK hks hnK
      subst hV
      clear HVR
      go_loopw [15] (fun i wr => ∃ k : Nat, k ≤ nB ∧ i = .int .i64 k ∧ Hid (∃ (ao : Option Addr) (c : Nat) (zs : List Int), (∀ z ∈ zs, 3 ≤ z) ∧ zs.length = k ∧ wr.heap[pb]? = some (.cells #[.int .i64 100000, .slice ao k c, .int .i64 (cc : Int), .bool dn, .slice aK nK cK] 31) ∧ wr.ownsRow V.heap.size 3 1 (.slice ao k c) k (iv zs) ∧ Stays (fun q => q < V.heap.size ∧ q ≠ pb) V wr)) (fun i _ => nB - (RowKit.intOf i).toNat)
      case atStart => exact ⟨0, Nat.zero_le _, rfl, Lib.hid ⟨none, 0, [], (fun z h => by cases h), rfl, HV.out.2.1, World.ownsRow_nil _ _ _ _, Stays.refl _ _⟩⟩
      case round =>
        obtain ⟨k, hk, rfl, hrel⟩ := hrel
        obtain ⟨ao, c, zs, hz3, hzl, hpl, hown, hst⟩ := hrel.out
        clear hrel
        by_cases h1 : k < nB
        · have h3 : (k : Int) < (nB : Int) := by omega
          have HZ := Lib.hid (And.intro hz3 (And.intro hzl (And.intro hpl (And.intro hown hst))))
          obtain ⟨x, hx⟩ : ∃ x : UInt8, A6[k]? = some x := ⟨_, List.getElem?_eq_getElem (by have := H6.out.2; omega)⟩
          have hbA : (bv A6)[k]? = some (.int .u8 (x.toNat : Int)) := by simp [bv, hx]
          obtain ⟨aA, ha6, hA1⟩ := reads_cellk (H6.out.1.later B1.out) hbA
          subst ha6
          have hAb : (aA.add k).block < w1.heap.size := World.block_lt_of_cell? w1 _ hA1
          have hAc0 : W.cell? (aA.add k) = some (.int .u8 (x.toNat : Int)) := (World.cell?_of_block (HW.out.2.1.block _ hAb (by simp))).trans hA1
          have hAc : V.cell? (aA.add k) = some (.int .u8 (x.toNat : Int)) := HV.out.2.2.2.1.cell (X := fun q => q < W.heap.size ∧ q ≠ pb) (by show _ ∧ _; have := HW.out.2.2.1; have := HW.out.2.2.2; omega) hAc0
          obtain ⟨X, hX⟩ : ∃ X : Nat → Prop, X = fun q => q < V.heap.size := ⟨_, rfl⟩
          have u0 : ∀ w' : World, Stays X wr.drew w' → w'.cell? ⟨pb, 1, none⟩ = some (.slice ao k c) := fun w' hg => hg.cell (by rw [hX]; show pb < _; exact HV.out.2.2.2.2) (cells_of hpl 1 _ rfl)
          have u1 : ∀ w' : World, Stays X wr.drew w' → w'.cell? (aA.add k) = some (.int .u8 (x.toNat : Int)) := fun w' hg => hg.cell (by rw [hX]; show (aA.add k).block < _; have := HW.out.2.2.2; have := HV.out.2.2.2.2; omega) ((hst.cell (X := fun q => q < V.heap.size ∧ q ≠ pb) (by show _ ∧ _; have := HW.out.2.2.2; have := HV.out.2.2.2.2; omega) hAc))
          have zx : IntKind.i64.wrap (x.toNat : Int) = (x.toNat : Int) := by rw [IntKind.wrap_i64]; have := x.toNat_lt; omega
          have zy : IntKind.i64.wrap (3 + (x.toNat : Int)) = ((3 + x.toNat : Nat) : Int) := by rw [IntKind.wrap_i64]; have := x.toNat_lt; omega
          have HX := Lib.hid hX
          clear hz3 hzl hpl hown hst hbA hA1 hAc hAc0 hAb hX hx
          go_wp2_with fail
          refine wp_region_mgs (Stays X) (Stays.refl X) (fun h k => h.trans k) 11 [(0, 8, true), (8, 1, false), (9, 1, false), (10, 1, false), (11, 1, false)] (by kernel_rfl) (by kernel_rfl) ?_
          simp only [mvAll, mvSeg, List.drop_succ_cons, List.drop_zero, List.cons_append, List.nil_append, Nat.reduceAdd]
          iterate 8
            refine wpLgs_still ?_ (fun w' hG K hK => ?_) (fun K hK => ?_)
            rotate_left
            · have d0 := u0 w' hG
              have d1 := u1 w' hG
              clear hG
              unfold mvVal
              go_simp
              try exact hK
            go_simp
            refine hK _ ?_
            clear hK K
          have hsz : V.heap.size ≤ wr.heap.size := HZ.out.2.2.2.2.1.size
          have stay : ∀ (a : World) (o : Obj), wr.heap.size ≤ a.heap.size → Stays X a (a.alloc o) := fun a o ha => Stays.of_turn ((Turn.refl [] a).alloc o) fun q hq => ⟨by rw [HX.out] at hq; have hq' : q < V.heap.size := hq; omega, by simp⟩
          refine wpLgs_call (fun K hK => ?_)
          unfold mvRun
          go_simp
          simp only [mvUpon]
          refine hK _ _ (stay _ _ (Nat.le_refl _)) ?_
          clear hK K
          have F1 : Hid (k + 1 ≤ 1000000) := Lib.hid (by have := HC3.out; omega)
          have HCL : Hid (Cells (wr.drew.alloc (.cells [Value.int .i64 ((3 + x.toNat : Nat) : Int)].toArray 3 (0, 0))) (.slice (some ⟨wr.drew.heap.size, 0, none⟩) 1 1) 1 1 [Value.int .i64 ((3 + x.toNat : Nat) : Int)]) := Lib.hid (Cells.lit wr.drew [Value.int .i64 ((3 + x.toNat : Nat) : Int)] 3 (0, 0) 1 1 rfl)
          refine wpLgs_call (fun K hK => ?_)
          refine mvRun_append_gen elemInts rfl (.tmp 69) (.tmp 76) rfl V.heap.size (.slice ao k c) k (iv zs) (by simp [Act.eval]; rfl) ((own_drew HZ.out.2.2.2.1 1).alloc _) (.slice (some ⟨wr.drew.heap.size, 0, none⟩) 1 1) 1 [Value.int .i64 ((3 + x.toNat : Nat) : Int)] (by simp [Act.eval]; rfl) HCL.out (fun u hu => by rw [List.mem_singleton.1 hu]; rfl) (k + 1) rfl F1 (by decide) (by simp; omega) ?_
          intro ao5 c5' w5 hown5 hg5 ho5
          have t5 := row_turn10 hg5
          have hrow : ∀ q, (Value.slice ao k c).ownBlock = some q → ¬ X q := fun q hq => by
            have := (HZ.out.2.2.2.1.lt q hq).1
            rw [HX.out]
            show ¬ q < V.heap.size
            omega
          have st5 : Stays X (wr.drew.alloc (.cells #[Value.int .i64 ((3 + x.toNat : Nat) : Int)] 3)) w5 := Stays.of_turn t5 fun q hq => ⟨by rw [HX.out] at hq; have hq' : q < V.heap.size := hq; simp; omega, fun hm => hrow q (by simpa using hm) hq⟩
          refine hK _ _ st5 ?_
          clear hK K
          have stA : Stays X wr.drew w5 := (stay wr.drew _ (Nat.le_refl _)).trans st5
          have hpX : X pb := by rw [HX.out]; exact HV.out.2.2.2.2
          have hp5 : w5.heap[pb]? = some (.cells #[.int .i64 100000, .slice ao k c, .int .i64 (cc : Int), .bool dn, .slice aK nK cK] 31) := (stA.2 pb hpX).trans HZ.out.2.2.1
          have q1 := cells_of hp5 1 _ rfl
          have f1 := free_of hp5 1
          have HF := Lib.hid (And.intro hown5 (And.intro ho5 (And.intro stA (And.intro hp5 hg5))))
          clear hown5 ho5 stA st5 hp5 hg5 t5 hrow u0 u1 stay
          iterate 1
            refine wpLgs_call (fun K hK => ?_)
            unfold mvRun
            go_simp
            simp only [mvUpon]
            refine hK _ _ (Stays.refl _ _) ?_
            clear hK K
          refine wpLgs_last (fun K hK => ?_)
          unfold mvRun
          go_simp
          simp only [mvUpon]
          refine hK _ _ ?_
          clear hK K
          refine wpLgs_nil ?_
          go_wp2_with fail
          obtain ⟨hown5, ho5, stA, hp5, hg5⟩ := HF.out
          refine ⟨⟨k + 1, by omega, by rw [Int.natCast_succ], Lib.hid ⟨ao5, c5', zs ++ [3 + (x.toNat : Int)], (fun z hz => by
            rcases List.mem_append.1 hz with h | h
            · exact HZ.out.1 z h
            · rw [List.mem_singleton.1 h]; omega), by rw [List.length_append, HZ.out.2.1]; rfl, heap_set hp5 1 _, ?_, ?_⟩⟩, by simp [RowKit.intOf]; omega⟩
          · have hne : ∀ g, (Value.slice ao5 (k + 1) c5').ownBlock = some g → g ≠ pb := fun g hg => by
              have := (hown5.lt g hg).1
              have := HV.out.2.2.2.2
              omega
            have := owns_turn hown5 ((Turn.refl [pb] w5).set (c := pb) (.inl (by simp)) 1 (.slice ao5 (k + 1) c5')) (fun g hg => by simp only [List.mem_singleton]; exact hne g hg)
            simpa [iv] using this
          · refine ((HZ.out.2.2.2.2.trans (Stays.drew wr)).trans ((stA.less (Y := fun q => q < V.heap.size ∧ q ≠ pb) fun q hq => by rw [HX.out]; exact hq.1))).trans ?_
            exact Stays.of_turn ((Turn.refl [pb] w5).set (c := pb) (.inl (by simp)) 1 _) fun q hq => ⟨by have := stA.1.size; have := HZ.out.2.2.2.2.1.size; have h := hq.1; have : wr.drew.heap.size = wr.heap.size := rfl; omega, by simp only [List.mem_singleton]; exact hq.2⟩
        · obtain rfl : k = nB := by omega
          have h3 : ¬ (k : Int) < (k : Int) := by omega
          have p0 := cells_of hpl 0 _ rfl
          have p1 := cells_of hpl 1 _ rfl
          have p2 := cells_of hpl 2 _ rfl
          have p3 := cells_of hpl 3 _ rfl
          have p4 := cells_of hpl 4 _ rfl
          have HZ := Lib.hid (And.intro hz3 (And.intro hzl (And.intro hown hst)))
          clear hz3 hzl hpl hown hst
          go_wp2_with fail
          obtain ⟨hz3, hzl, hown, hst⟩ := HZ.out
          have hk20 : k ≤ 20 := HC3.out.2.2
          have st0 : Stays (fun q => q < w1.heap.size) W V := HV.out.2.2.2.1.less fun q hq => ⟨by have := HW.out.2.2.1; omega, by have := HW.out.2.2.2; omega⟩
          have st1 : Stays (fun q => q < w1.heap.size) V wr := hst.less fun q hq => ⟨by have := HW.out.2.2.2; have := HV.out.2.2.2.2; omega, by have := HW.out.2.2.2; omega⟩
          have HGr : Hid (Grow w wr) := Lib.hid (B1.out.trans (show Grow w1 wr from Below.trans (turn_grow HW.out.2.1) (st0.below.trans st1.below)))
          have hrkV : Reads V (.slice aK nK cK) (iv ks) := Reads.own (by rw [iv_length, HV.out.1]; exact HV.out.2.2.1)
          have hrk : Reads wr (.slice aK nK cK) (iv ks) := hst.reads hrkV fun _ a n c e => by
            have hl := HV.out.2.2.1.lt a.block (by
              have e1 : (Value.slice aK nK cK).ownBlock = some a.block := by rw [e]; rfl
              exact e1)
            have h2 := HW.out.2.2.1
            have h3 := HW.out.2.2.2
            exact ⟨hl.2, by omega⟩
          have hrz : Reads wr (.slice ao k c) (iv zs) := Reads.own (by rw [iv_length, hzl]; exact hown)
          obtain ⟨M, hM⟩ : ∃ M, M = MD.new 100000 cc dn zs ks := ⟨_, rfl⟩
          have FI := keeps_first 100000 (cc : Int) dn zs ks hM (by decide) (by have := HC3.out.1; omega) hz3 (by omega) (by have := HV.out.1; have := HKN.out; omega)
          have C1 := new_cd 100000 cc dn (.slice ao k c) (.slice aK nK cK) zs ks wr hrz hrk (by omega) (by have := HV.out.1; have := HKN.out; omega)
          rw [← hM] at C1
          have HFI := Lib.hid FI
          clear FI hM hrz hrk hrkV hz3 hzl hown hst hk20 st0 st1 HZ p0 p1 p2 p3 p4 HV HW HKN HC3
          refine C1.mono ?_
          rintro e w2 ⟨b, F2, rfl, hc2, t2⟩
          have hs2 : SesD w w2 wr.heap.size b M F2 := ⟨hc2, HGr.out.trans (tg9 t2), HGr.out.size⟩
          have O2 := sess_open HK.out (km : Int) hs2 HT.out HFI.out.1 HFI.out.2.1
          unfold theDisk theSt at O2
          unfold theDisk
          clear hc2 t2 C1 hs2
          go_wp2_with fail
          refine O2.mono ?_
          rintro e w3 ⟨x, rfl, F3, hs3, k3, t3⟩
          have H3 : Hid (KeepsAt C w w3 wr.heap.size b x (max (km : Int) 0) 0 (.slice none 0 0) 0 false (.slice none 0 0) 0) := Lib.hid (by
            obtain ⟨_, _, e3, S, B, O, hp⟩ := HFI.out
            rw [e3] at hs3
            exact ⟨_, _, _, _, S, B, O, [], F3, hp, hs3, PRow.nil _ _, fun h => absurd rfl h, fun h => by cases h⟩)
          clear hs3 k3 t3 O2 HFI
          go_wp2_with (go_at_call 17; refine (num_at _ _).mono ?_; rintro e w' ⟨rfl, rfl⟩)
          clear r3 r4
          obtain ⟨base, hbase⟩ : ∃ n, n = wr.heap.size := ⟨_, rfl⟩
          rw [← hbase] at H3
          clear hbase
          go_loopw [19, 20, 21, 22] (fun sv mv uv iv wr => ∃ (k sq c mq mc : Nat) (ao am : Option Addr) (un : Bool), k ≤ n1 ∧ iv = .int .i64 k ∧ sv = .slice ao sq c ∧ mv = .slice am mq mc ∧ uv = .bool un ∧ Hid (KeepsAt C w wr base b x (max (km : Int) 0) k (.slice ao sq c) sq un (.slice am mq mc) mq))
            (fun _ _ _ i _ => n1 - (RowKit.intOf i).toNat)
          case atStart => exact ⟨0, 0, 0, 0, 0, none, none, false, Nat.zero_le _, rfl, rfl, rfl, rfl, H3⟩
          case round =>
            clear H3
            obtain ⟨k, sq, cs, mq, mc, asv, am, un, hk, rfl, rfl, rfl, rfl, hC⟩ := hrel
            by_cases hlt : k < n1
            · have h3 : (k : Int) < (n1 : Int) := by omega
              obtain ⟨a, X, ap, cp, rfl, hX, cx, hr⟩ := H1.out.at hlt
              have hm : mild X := HL.out.2.2.1 k X hX
              have hk80 : k + 1 ≤ 80 := by have := HL.out.1; omega
              obtain ⟨L, hLl, CM⟩ := keeps_commit HK.out hC.out hk80 HT.out (vo := .slice ap X.length cp) hr hm
              have hgw := hC.out.grow
              have cxs : ∀ w', Grow w w' → w'.cell? (a.add k) = some (.slice ap X.length cp) := fun w' hg => grow_cell hg cx
              have HR := Lib.hid (And.intro hr (And.intro hm (And.intro hX hLl)))
              have HCX := Lib.hid cxs
              obtain ⟨xl, hxl2⟩ : ∃ xl, xl = X.length := ⟨_, rfl⟩
              have cx' := cxs _ hgw
              rw [← hxl2] at cx' CM
              have HXL := Lib.hid hxl2
              have hk80' : k + 1 ≤ 80 := hk80
              unfold theSt at CM
              have HC0 := hC
              clear cx hr hm hX hLl hgw cxs hxl2 hC hk80
              go_wp2_with fail
              refine CM.mono ?_
              rintro e w4 ⟨k4, rfl, hg4, hq0, hq1, hq2⟩
              have cx4 : w4.cell? (a.add k) = some (.slice ap xl cp) := by rw [HXL.out]; exact HCX.out w4 hg4
              have H4 := Lib.hid (And.intro hg4 (And.intro hq0 (And.intro hq1 hq2)))
              have HN : Hid (k + 1 ≤ 80) := Lib.hid hk80'
              clear hg4 hq0 hq1 hq2 CM cx' HC0 hk80'
              by_cases he : k4 = 0
              · subst he
                have HQ0 := Lib.hid (H4.out.2.1 rfl)
                have AP := ref_apply (.slice asv sq cs) (.slice ap xl cp) sq xl L X w4 HQ0.out.1 (by rw [HXL.out]; exact HR.out.1.later H4.out.1) (by
                  have h1 := HR.out.2.2.2
                  have h2 := HQ0.out.1.1
                  have h3 := HN.out
                  omega) (by have := HR.out.2.1.2; have := HXL.out; omega)
                go_wp2_with (first | (go_at_call 17; refine (num_at _ _).mono ?_; rintro e w' ⟨rfl, rfl⟩) | (go_at_call 28; refine AP.mono ?_; rintro e w5 ⟨a5, q5, c5, rfl, hq5, ho5, hb5⟩; have H5' := Lib.hid (HQ0.out.2 _ _ _ _ ho5 hq5 hb5); have PA := keeps_all HK.out H5'.out HN.out; unfold theSt at PA; clear hq5 ho5 hb5 AP) | (go_at_call 26; refine PA.mono ?_; rintro e w6 ⟨a6, q6, c6, rfl, PP⟩) | (go_at_call 25; refine PP.mono ?_; rintro e w7 ⟨rfl, h7⟩; have H7 := Lib.hid h7; clear h7))
                exact ⟨⟨k + 1, q5, c5, mq, mc, a5, am, false, by omega, by go_num, rfl, rfl, rfl, H7⟩, by simp [RowKit.intOf]; omega⟩
              · by_cases he8 : k4 = 8
                · subst he8
                  have PA := keeps_all HK.out (H4.out.2.2.1 (by decide) (.inl rfl)) HN.out
                  unfold theSt at PA
                  go_wp2_with (first | (go_at_call 17; refine (num_at _ _).mono ?_; rintro e w' ⟨rfl, rfl⟩) | (go_at_call 26; refine PA.mono ?_; rintro e w6 ⟨a6, q6, c6, rfl, PP⟩) | (go_at_call 25; refine PP.mono ?_; rintro e w7 ⟨rfl, h7⟩; have H7 := Lib.hid h7; clear h7))
                  exact ⟨⟨k + 1, sq, cs, mq, mc, asv, am, un, by omega, by go_num, rfl, rfl, rfl, H7⟩, by simp [RowKit.intOf]; omega⟩
                · have RT := right_at (.slice ap xl cp) xl X w4 (by rw [HXL.out]; exact HR.out.1.later H4.out.1)
                  cases hok : okOps X with
                  | true =>
                    rw [hok] at RT
                    have HQ := Lib.hid (H4.out.2.2.2 he he8 hok)
                    have AP := ref_apply (.slice asv sq cs) (.slice ap xl cp) sq xl L X w4 HQ.out.1 (by rw [HXL.out]; exact HR.out.1.later H4.out.1) (by
                      have h1 := HR.out.2.2.2
                      have h2 := HQ.out.1.1
                      have h3 := HN.out
                      omega) (by have := HR.out.2.1.2; have := HXL.out; omega)
                    clear hok
                    go_wp2_with (first | (go_at_call 17; refine (num_at _ _).mono ?_; rintro e w' ⟨rfl, rfl⟩) | (go_at_call 29; refine RT.mono ?_; rintro e w' ⟨rfl, rfl⟩) | (go_at_call 28; refine AP.mono ?_; rintro e w5 ⟨a5, q5, c5, rfl, hq5, ho5, hb5⟩; have H5' := Lib.hid (HQ.out.2 _ _ _ _ ho5 hq5 hb5); have PA := keeps_all HK.out H5'.out HN.out; unfold theSt at PA; clear hq5 ho5 hb5 AP) | (go_at_call 26; refine PA.mono ?_; rintro e w6 ⟨a6, q6, c6, rfl, PP⟩) | (go_at_call 25; refine PP.mono ?_; rintro e w7 ⟨rfl, h7⟩; have H7 := Lib.hid h7; clear h7))
                    exact ⟨⟨k + 1, sq, cs, q5, c5, asv, a5, true, by omega, by go_num, rfl, rfl, rfl, H7⟩, by simp [RowKit.intOf]; omega⟩
                  | false =>
                    rw [hok] at RT
                    have PA := keeps_all HK.out (H4.out.2.2.1 he (.inr hok)) HN.out
                    unfold theSt at PA
                    clear hok
                    go_wp2_with (first | (go_at_call 17; refine (num_at _ _).mono ?_; rintro e w' ⟨rfl, rfl⟩) | (go_at_call 29; refine RT.mono ?_; rintro e w' ⟨rfl, rfl⟩) | (go_at_call 26; refine PA.mono ?_; rintro e w6 ⟨a6, q6, c6, rfl, PP⟩) | (go_at_call 25; refine PP.mono ?_; rintro e w7 ⟨rfl, h7⟩; have H7 := Lib.hid h7; clear h7))
                    exact ⟨⟨k + 1, sq, cs, mq, mc, asv, am, un, by omega, by go_num, rfl, rfl, rfl, H7⟩, by simp [RowKit.intOf]; omega⟩
            · have h3 : ¬ (k : Int) < (n1 : Int) := by omega
              obtain rfl : k = n1 := by omega
              have HN : Hid (k ≤ 40) := Lib.hid HL.out.1
              have RS := keeps_restart HK.out hC.out (by have := HN.out; omega)
              unfold theDisk at RS
              clear hC
              go_wp2_with fail
              refine RS.mono ?_
              rintro e w4 ⟨rfl, h4⟩
              have O4 := keeps_open HK.out h4 (by have := HN.out; omega) HT.out
              unfold theDisk theSt at O4
              clear h4 RS
              go_wp2_with fail
              refine O4.mono ?_
              rintro e w5 ⟨y, rfl, h5⟩
              have O5 := keeps_twice HK.out h5 (by have := HN.out; omega) HT.out
              unfold theDisk theSt at O5
              clear h5 O4
              go_wp2_with fail
              refine O5.mono ?_
              rintro e w6 ⟨z, L2, L, Fi, Fj, rfl, i1, i2, hs, hg, hp, hor⟩
              have T1 := HK.out.iall i1 hs
              have H6' := Lib.hid (And.intro i1 (And.intro i2 (And.intro hs (And.intro hg (And.intro hp hor)))))
              unfold theSt at T1
              clear i1 i2 hs hg hp hor O5
              go_wp2_with (first | (go_at_call 17; refine (num_at _ _).mono ?_; rintro e w' ⟨rfl, rfl⟩))
              refine T1.mono ?_
              rintro e w7 ⟨a7, q7, c7, rfl, p7, t7⟩
              have T2 := HK.out.iall (HK.out.ikeep H6'.out.2.1 t7 (by simp)) H6'.out.2.2.1
              have H7 := Lib.hid (And.intro p7 t7)
              unfold theSt at T2
              clear p7 t7 T1
              go_wp2_with fail
              refine T2.mono ?_
              rintro e w8 ⟨a8, q8, c8, rfl, p8, t8⟩
              have T3 := pairs_at (H7.out.1.turnO t8 (fun _ _ _ => by simp)) p8 true (by simp)
              have H8 := Lib.hid (H7.out.2.trans t8)
              clear p8 t8 T2
              go_wp2_with fail
              refine T3.mono ?_
              rintro e w9 ⟨rfl, t9⟩
              have H9 := Lib.hid (H8.out.trans t9)
              have T4 := HK.out.iall (HK.out.ikeep H6'.out.1 H9.out (by simp)) H6'.out.2.2.1
              unfold theSt at T4
              clear t9 T3
              go_wp2_with fail
              refine T4.mono ?_
              rintro e w10 ⟨a10, q10, c10, rfl, p10, t10⟩
              have H10 := Lib.hid (H9.out.trans t10)
              have T5 := pairs_at p10 (H6'.out.2.2.2.2.1.turnO H10.out (fun _ _ _ => by simp)) (decide (L2 = L)) rfl
              clear p10 t10 T4
              by_cases hLL : L2 = L
              · rw [decide_eq_true hLL] at T5
                clear hLL
                go_wp2_with fail
                refine T5.mono ?_
                rintro e w11 ⟨rfl, t11⟩
                have H11 := Lib.hid (H6'.out.2.2.2.1.trans (tg9 (H10.out.trans t11)))
                clear t11 T5
                go_wp2_with (go_at_call 12; refine (awake_store HK.out _ (HT.out.later H11.out)).mono ?_; rintro e w' ⟨rfl, hb9⟩)
                go_ret
                exact ⟨rfl, H11.out.trans hb9⟩
              · rw [decide_eq_false hLL] at T5
                have hun : un = true := by
                  rcases H6'.out.2.2.2.2.2 with h | h
                  · exact absurd h hLL
                  · exact h.1
                have HMV : Hid (Prr w6 (.slice am mq mc) mq L2) := Lib.hid (by
                  rcases H6'.out.2.2.2.2.2 with h | h
                  · exact absurd h hLL
                  · exact h.2)
                subst hun
                clear hLL
                go_wp2_with fail
                refine T5.mono ?_
                rintro e w11 ⟨rfl, t11⟩
                have H11 := Lib.hid (H10.out.trans t11)
                have T6 := HK.out.iall (HK.out.ikeep H6'.out.1 H11.out (by simp)) H6'.out.2.2.1
                unfold theSt at T6
                clear t11 T5
                go_wp2_with fail
                refine T6.mono ?_
                rintro e w12 ⟨a12, q12, c12, rfl, p12, t12⟩
                have H12 := Lib.hid (H11.out.trans t12)
                have T7 := pairs_at p12 (HMV.out.turnO H12.out (fun _ _ _ => by simp)) true (by simp)
                clear p12 t12 T6
                go_wp2_with fail
                refine T7.mono ?_
                rintro e w13 ⟨rfl, t13⟩
                have H13 := Lib.hid (H6'.out.2.2.2.1.trans (tg9 (H12.out.trans t13)))
                clear t13 T7
                go_wp2_with (go_at_call 12; refine (awake_store HK.out _ (HT.out.later H13.out)).mono ?_; rintro e w' ⟨rfl, hb9⟩)
                go_ret
                exact ⟨rfl, H13.out.trans hb9⟩
end Go.Proofs.YthcdkggkoanjpaaGreatDoor
