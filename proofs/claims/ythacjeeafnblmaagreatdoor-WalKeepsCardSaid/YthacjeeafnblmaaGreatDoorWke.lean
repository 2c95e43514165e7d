/- WalKeeps, walked. Numbers and types by name. -/
import Derived.Test.YthacjeeafnblmaaGreatDoorObt
import Derived.Test.YthacjeeafnblmaaGreatDoorWkp
import Derived.Test.YthacjeeafnblmaaGreatDoorDig
import Derived.Test.YthacjeeafnblmaaGreatDoorMag
namespace Go.Proofs.YthacjeeafnblmaaGreatDoor
open Go.RowKit Go.Lib
set_option maxRecDepth 100000

/-- What stays while commits are made: what was there, and the row of the batches that are sure. -/
def XV (N : Nat) (v : Value) : Nat → Prop := fun g => g < N ∨ v.ownBlock = some g
theorem XV_nil {N k : Nat} (h : XV N (.slice none 0 0) k) : k < N := by
  rcases h with h | h
  · exact h
  · cases h
/-- Between two commits. -/
def KeepAt (w0 wl : World) (N b p k ns nl : Nat) (sv lv : Value) (more : Bool) : Prop :=
  ∃ M n s sure last, Kept M n s sure last more ∧ Well 7000 M (3 + 3 * k) ∧ Sol (XV N sv) wl N b p M n s ∧ Wl w0 wl N sv ns sure ∧ ns ≤ k ∧ Opr w0 lv nl last ∧ Grow w0 wl ∧ w0.heap.size ≤ N ∧ N ≤ wl.heap.size

theorem one_sl7 {a : Option Addr} {n c : Nat} : ∀ u ∈ [Value.slice a n c], u.oneCell' = true := fun u hu => by rw [List.mem_singleton.1 hu]; rfl
theorem OpVals.one {w : World} {vs : List Value} {LL : List (List Opm)} (h : OpVals w vs LL) : ∀ u ∈ vs, u.oneCell' = true := fun u hu => by
  obtain ⟨j, hj, rfl⟩ := List.getElem_of_mem hu
  have hx : LL[j]? = some (LL[j]'(by rw [← h.1]; exact hj)) := List.getElem?_eq_getElem _
  obtain ⟨ao, c, e, _⟩ := h.2 j _ hx
  rw [List.getElem?_eq_getElem hj] at e
  rw [Option.some.inj e]
  rfl
theorem wrap_small {k : Int} (h : 0 ≤ k ∧ k ≤ 1000000) : wrap64 k = k := wrap64_id _ (by omega)

theorem reads_cell {w : World} {ao : Option Addr} {n c k : Nat} {xs : List Value} {u : Value} (h : Reads w (.slice ao n c) xs) (hu : xs[k]? = some u) : ∃ a, ao = some a ∧ w.cell? (a.add k) = some u := by
  obtain ⟨ao', c', e, _, hn, hc⟩ := h
  cases e
  cases ao with
  | none => rw [(hn rfl).1] at hu; cases hu
  | some a => exact ⟨a, rfl, hc a rfl k u hu⟩

theorem no_early {zs : List Int} (h : ∀ z ∈ zs, 3 ≤ z) {k : Int} (hk : k < 3) : zs.contains k = false := by
  cases hc : zs.contains k with
  | false => rfl
  | true =>
    have := h k (by simpa using hc)
    omega

set_option maxHeartbeats 8000000 in
theorem keeps_wal (v1 : Value) (n1 : Nat) (LL : List (List Opm)) (cr : Nat) (dn : Bool) (kp : Nat) (v5 : Value) (A : List UInt8) (w : World) (h1 : Obs w v1 n1 LL) (hcr : cr < 256) (hkp : kp < 65536) (h5 : Reads w v5 (bv A)) (h5l : A.length ≤ maxLen) (ht : Tab w) :
    Calls Tryz.prog 4 #[v1, .int .u8 cr, .bool dn, .int .u16 kp, v5] w fun e w' => e = .returned (.bool true) ∧ Below w.heap.size w w' := by
  obtain ⟨a1, c1, rfl⟩ := h1.shape
  obtain ⟨nA, hnA⟩ : ∃ nA, nA = A.length := ⟨_, rfl⟩
  obtain ⟨a5, c5, rfl⟩ : ∃ ao c, v5 = .slice ao nA c := by obtain ⟨ao, c, rfl, _⟩ := h5; exact ⟨ao, c, by rw [bv_length, hnA]⟩
  rw [← hnA] at h5l
  have hm5 : nA ≤ 9223372036854775807 := by unfold maxLen at h5l; omega
  have H1 := Lib.hid h1
  have H5 := Lib.hid (And.intro h5 hnA)
  have HTB := Lib.hid ht
  have hC := heavy_wal (.slice a1 n1 c1) n1 LL none ⟨0, 0, none⟩ 0 0 (fun _ => ⟨0, none, 0, [], 0, false, none, 0, []⟩) w h1 ⟨.inr ⟨rfl, rfl⟩, Nat.zero_le _, fun i hi => absurd hi (Nat.not_lt_zero _)⟩
  clear h1 h5 ht hnA h5l
  go_enter Tryz.func4, Tryz.ntmps4
  go_wp2_with fail
  refine hC.mono ?_
  rintro e w1 ⟨g, q, rfl, hw1, hb⟩
  have B1 : Hid (Grow w w1) := Lib.hid (show Grow w w1 by rw [hw1]; exact below_drewN (Below.refl _ w) q)
  clear hC hw1
  cases g with
  | true =>
    clear hb
    go_wp2_with (go_at_call 8; refine (awake_wal _ (HTB.out.later B1.out)).mono ?_; rintro e w' ⟨rfl, hb9⟩)
    go_ret
    exact ⟨rfl, B1.out.trans hb9⟩
  | false =>
  have HL := Lib.hid (hb rfl)
  clear hb
  by_cases x1 : 20 < nA
  · have y1 : (20 : Int) < (nA : Int) := by omega
    go_wp2_with (go_at_call 8; refine (awake_wal _ (HTB.out.later B1.out)).mono ?_; rintro e w' ⟨rfl, hb9⟩)
    go_ret
    exact ⟨rfl, B1.out.trans hb9⟩
  have y1 : ¬ (20 : Int) < (nA : Int) := by omega
  obtain ⟨cc, hcc⟩ : ∃ cc, cc = 3 + cr % 80 := ⟨_, rfl⟩
  obtain ⟨kk, hkk⟩ : ∃ kk, kk = kp % 3000 := ⟨_, rfl⟩
  have z3 : wrap64 ((cr : Nat) : Int) = (cr : Int) := wrap64_id _ (by omega)
  have z4 : wrap64 ((kp : Nat) : Int) = (kp : Int) := wrap64_id _ (by omega)
  have z5 : wrap64 (3 + (cr : Int) % 80) = 3 + (cr : Int) % 80 := wrap64_id _ (by omega)
  have hc3 : 3 ≤ cc ∧ cc < 83 := by omega
  have z1 : 3 + (cr : Int) % 80 = (cc : Int) := by omega
  have z2 : (kp : Int) % 3000 = (kk : Int) := by omega
  have HC3 := Lib.hid (And.intro hc3 x1)
  clear x1 hcc hkk hc3
  go_wp2_with fail
  obtain ⟨W, hW⟩ : ∃ W, W = (w1.alloc (.cells #[.int .i64 (kk : Int)] 3)).alloc (.cells #[.int .i64 100000, .slice none 0 0, .int .i64 (cc : Int), .bool dn, .slice (some ⟨w1.heap.size, 0, none⟩) 1 1] 31) := ⟨_, rfl⟩
  rw [← hW]
  have hs : W.heap.size = w1.heap.size + 2 := by rw [hW]; simp
  obtain ⟨pb, hpb⟩ : ∃ pb, pb = w1.heap.size + 1 := ⟨_, rfl⟩
  obtain ⟨kb, hkb⟩ : ∃ kb, kb = w1.heap.size := ⟨_, rfl⟩
  rw [← hpb, ← hkb]
  have hW1 : W.heap[pb]? = some (.cells #[.int .i64 100000, .slice none 0 0, .int .i64 (cc : Int), .bool dn, .slice (some ⟨kb, 0, none⟩) 1 1] 31) := by
    rw [hW, hpb, hkb]
    have e : w1.heap.size + 1 = (w1.alloc (.cells #[.int .i64 (kk : Int)] 3)).heap.size := by simp
    rw [e]
    exact heap_alloc_new _ _
  have hWk : Reads W (.slice (some ⟨kb, 0, none⟩) 1 1) (iv [(kk : Int)]) := by
    have r1 : Reads (w1.alloc (.cells (iv [(kk : Int)]).toArray 3)) (.slice (some ⟨w1.heap.size, 0, none⟩) 1 1) (iv [(kk : Int)]) := Reads.lit w1 (iv [(kk : Int)]) 3 (0, 0) 1 rfl
    rw [hW, hkb]
    exact r1.later ((Below.refl _ _).alloc (Nat.le_refl _) _)
  have tW : Turn [] w1 W := by rw [hW]; exact ((Turn.refl [] w1).alloc _).alloc _
  have HW := Lib.hid (And.intro hW1 (And.intro hWk (And.intro tW (And.intro hs (And.intro hpb hkb)))))
  clear hW hW1 hWk tW hs hpb hkb z1 z2 z3 z4 z5 hcr hkp
  go_loopw [12] (fun i wr => ∃ k : Nat, k ≤ nA ∧ i = .int .i64 k ∧ Hid (∃ (ao : Option Addr) (c : Nat) (zs : List Int), (∀ z ∈ zs, 3 ≤ z) ∧ zs.length = k ∧ wr.heap[pb]? = some (.cells #[.int .i64 100000, .slice ao k c, .int .i64 (cc : Int), .bool dn, .slice (some ⟨kb, 0, none⟩) 1 1] 31) ∧ wr.ownsRow W.heap.size 3 1 (.slice ao k c) k (iv zs) ∧ Stays (fun q => q < W.heap.size ∧ q ≠ pb) W wr)) (fun i _ => nA - (RowKit.intOf i).toNat)
  case atStart => exact ⟨0, Nat.zero_le _, rfl, Lib.hid ⟨none, 0, [], (fun z h => by cases h), rfl, HW.out.1, World.ownsRow_nil _ _ _ _, Stays.refl _ _⟩⟩
  case round =>
    obtain ⟨k, hk, rfl, hrel⟩ := hrel
    obtain ⟨ao, c, zs, hz3, hzl, hpl, hown, hst⟩ := hrel.out
    clear hrel
    by_cases h1 : k < nA
    · have h3 : (k : Int) < (nA : Int) := by omega
      have HZ := Lib.hid (And.intro hz3 (And.intro hzl (And.intro hpl (And.intro hown hst))))
      obtain ⟨x, hx⟩ : ∃ x : UInt8, A[k]? = some x := ⟨_, List.getElem?_eq_getElem (by have := H5.out.2; omega)⟩
      have hbA : (bv A)[k]? = some (.int .u8 (x.toNat : Int)) := by simp [bv, hx]
      obtain ⟨aA, ha5, hA1⟩ := reads_cell (H5.out.1.later B1.out) hbA
      subst ha5
      have hAb : (aA.add k).block < w1.heap.size := World.block_lt_of_cell? w1 _ hA1
      have hAc : W.cell? (aA.add k) = some (.int .u8 (x.toNat : Int)) := (World.cell?_of_block (HW.out.2.2.1.block _ hAb (by simp))).trans hA1
      obtain ⟨X, hX⟩ : ∃ X : Nat → Prop, X = fun q => q < W.heap.size := ⟨_, rfl⟩
      have u0 : ∀ w' : World, Stays X wr.drew w' → w'.cell? ⟨pb, 1, none⟩ = some (.slice ao k c) := fun w' hg => hg.cell (by rw [hX]; show pb < _; have := HW.out.2.2.2.1; have := HW.out.2.2.2.2.1; omega) (cells_of hpl 1 _ rfl)
      have u1 : ∀ w' : World, Stays X wr.drew w' → w'.cell? (aA.add k) = some (.int .u8 (x.toNat : Int)) := fun w' hg => hg.cell (by rw [hX]; show (aA.add k).block < _; have := HW.out.2.2.2.1; omega) ((hst.cell (X := fun q => q < W.heap.size ∧ q ≠ pb) (by show _ ∧ _; have := HW.out.2.2.2.1; have := HW.out.2.2.2.2.1; omega) hAc))
      have zx : IntKind.i64.wrap (x.toNat : Int) = (x.toNat : Int) := by rw [IntKind.wrap_i64]; have := x.toNat_lt; omega
      have zy : IntKind.i64.wrap (3 + (x.toNat : Int)) = ((3 + x.toNat : Nat) : Int) := by rw [IntKind.wrap_i64]; have := x.toNat_lt; omega
      have HX := Lib.hid hX
      have HXA := Lib.hid hx
      clear hz3 hzl hpl hown hst hbA hA1 hAc hAb hX hx
      go_wp2_with fail
      refine wp_region_mgs (Stays X) (Stays.refl X) (fun h k => h.trans k) 11 [(0, 8, true), (8, 1, false), (9, 1, false), (10, 1, false), (11, 1, false)] (by kernel_rfl) (by kernel_rfl) ?_
      simp only [mvAll, mvSeg, List.drop_succ_cons, List.drop_zero, List.cons_append, List.nil_append, Nat.reduceAdd]
      iterate 8
        refine wpLgs_still ?_ (fun w' hG K hK => ?_) (fun K hK => ?_)
        rotate_left
        · have d0 := u0 w' hG
          have d1 := u1 w' hG
          clear hG
          unfold mvVal
          go_simp
          try exact hK
        go_simp
        refine hK _ ?_
        clear hK K
      have hsz : W.heap.size ≤ wr.heap.size := HZ.out.2.2.2.2.1.size
      have stay : ∀ (a : World) (o : Obj), wr.heap.size ≤ a.heap.size → Stays X a (a.alloc o) := fun a o ha => Stays.of_turn ((Turn.refl [] a).alloc o) fun q hq => ⟨by rw [HX.out] at hq; have hq' : q < W.heap.size := hq; omega, by simp⟩
      refine wpLgs_call (fun K hK => ?_)
      unfold mvRun
      go_simp
      simp only [mvUpon]
      refine hK _ _ (stay _ _ (Nat.le_refl _)) ?_
      clear hK K
      have F1 : Hid (k + 1 ≤ 1000000) := Lib.hid (by have := HC3.out.2; omega)
      have HCL : Hid (Cells (wr.drew.alloc (.cells [Value.int .i64 ((3 + x.toNat : Nat) : Int)].toArray 3 (0, 0))) (.slice (some ⟨wr.drew.heap.size, 0, none⟩) 1 1) 1 1 [Value.int .i64 ((3 + x.toNat : Nat) : Int)]) := Lib.hid (Cells.lit wr.drew [Value.int .i64 ((3 + x.toNat : Nat) : Int)] 3 (0, 0) 1 1 rfl)
      refine wpLgs_call (fun K hK => ?_)
      refine mvRun_append_gen elemInts rfl (.tmp 54) (.tmp 61) rfl W.heap.size (.slice ao k c) k (iv zs) (by simp [Act.eval]; rfl) ((own_drew HZ.out.2.2.2.1 1).alloc _) (.slice (some ⟨wr.drew.heap.size, 0, none⟩) 1 1) 1 [Value.int .i64 ((3 + x.toNat : Nat) : Int)] (by simp [Act.eval]; rfl) HCL.out (fun u hu => by rw [List.mem_singleton.1 hu]; rfl) (k + 1) rfl F1 (by decide) (by simp; omega) ?_
      intro ao5 c5' w5 hown5 hg5 ho5
      have t5 := row_turn hg5
      have hrow : ∀ q, (Value.slice ao k c).ownBlock = some q → ¬ X q := fun q hq => by
        have := (HZ.out.2.2.2.1.lt q hq).1
        rw [HX.out]
        show ¬ q < W.heap.size
        omega
      have st5 : Stays X (wr.drew.alloc (.cells #[Value.int .i64 ((3 + x.toNat : Nat) : Int)] 3)) w5 := Stays.of_turn t5 fun q hq => ⟨by rw [HX.out] at hq; have hq' : q < W.heap.size := hq; simp; omega, fun hm => hrow q (by simpa using hm) hq⟩
      refine hK _ _ st5 ?_
      clear hK K
      have stA : Stays X wr.drew w5 := (stay wr.drew _ (Nat.le_refl _)).trans st5
      have hpX : X pb := by rw [HX.out]; show pb < W.heap.size; have := HW.out.2.2.2.1; have := HW.out.2.2.2.2.1; omega
      have hp5 : w5.heap[pb]? = some (.cells #[.int .i64 100000, .slice ao k c, .int .i64 (cc : Int), .bool dn, .slice (some ⟨kb, 0, none⟩) 1 1] 31) := (stA.2 pb hpX).trans HZ.out.2.2.1
      have q1 := cells_of hp5 1 _ rfl
      have f1 := free_of hp5 1
      have HF := Lib.hid (And.intro hown5 (And.intro ho5 (And.intro stA (And.intro hp5 hg5))))
      clear hown5 ho5 stA st5 hp5 hg5 t5 hrow u0 u1 stay
      iterate 1
        refine wpLgs_call (fun K hK => ?_)
        unfold mvRun
        go_simp
        simp only [mvUpon]
        refine hK _ _ (Stays.refl _ _) ?_
        clear hK K
      refine wpLgs_last (fun K hK => ?_)
      unfold mvRun
      go_simp
      simp only [mvUpon]
      refine hK _ _ ?_
      clear hK K
      refine wpLgs_nil ?_
      go_wp2_with fail
      obtain ⟨hown5, ho5, stA, hp5, hg5⟩ := HF.out
      refine ⟨⟨k + 1, by omega, by rw [Int.natCast_succ], Lib.hid ⟨ao5, c5', zs ++ [3 + (x.toNat : Int)], fun z hz => ?_, by rw [List.length_append, HZ.out.2.1]; rfl, heap_set hp5 1 _, ?_, ?_⟩⟩, by simp [RowKit.intOf]; omega⟩
      · rcases List.mem_append.1 hz with h | h
        · exact HZ.out.1 z h
        · rw [List.mem_singleton.1 h]; omega
      · have hne : ∀ g, (Value.slice ao5 (k + 1) c5').ownBlock = some g → g ≠ pb := fun g hg => by
          have := (hown5.lt g hg).1
          have := HW.out.2.2.2.1
          have := HW.out.2.2.2.2.1
          omega
        have := owns_turn hown5 ((Turn.refl [pb] w5).set (c := pb) (.inl (by simp)) 1 (.slice ao5 (k + 1) c5')) (fun g hg => by simp only [List.mem_singleton]; exact hne g hg)
        simpa [iv] using this
      · refine ((HZ.out.2.2.2.2.trans (Stays.drew wr)).trans ((stA.less (Y := fun q => q < W.heap.size ∧ q ≠ pb) fun q hq => by rw [HX.out]; exact hq.1))).trans ?_
        exact Stays.of_turn ((Turn.refl [pb] w5).set (c := pb) (.inl (by simp)) 1 _) fun q hq => ⟨by have := stA.1.size; have := HZ.out.2.2.2.2.1.size; have h := hq.1; have : wr.drew.heap.size = wr.heap.size := rfl; omega, by simp only [List.mem_singleton]; exact hq.2⟩
    · obtain rfl : k = nA := by omega
      have h3 : ¬ (k : Int) < (k : Int) := by omega
      have p0 := cells_of hpl 0 _ rfl
      have p1 := cells_of hpl 1 _ rfl
      have p2 := cells_of hpl 2 _ rfl
      have p3 := cells_of hpl 3 _ rfl
      have p4 := cells_of hpl 4 _ rfl
      have HZ := Lib.hid (And.intro hz3 (And.intro hzl (And.intro hown hst)))
      clear hz3 hzl hpl hown hst
      go_wp2_with fail
      obtain ⟨hz3, hzl, hown, hst⟩ := HZ.out
      have hk20 : k ≤ 20 := by have := HC3.out.2; omega
      have st1 : Stays (fun q => q < w1.heap.size) W wr := hst.less fun q hq => ⟨by have := HW.out.2.2.2.1; omega, by have := HW.out.2.2.2.2.1; omega⟩
      have HGr : Hid (Grow w wr) := Lib.hid (B1.out.trans (show Grow w1 wr from Below.trans (turn_grow HW.out.2.2.1) st1.below))
      have hrk : Reads wr (.slice (some ⟨kb, 0, none⟩) 1 1) (iv [(kk : Int)]) := hst.reads HW.out.2.1 fun _ a n c e => by
        cases e
        have h1 := HW.out.2.2.2.1
        have h2 := HW.out.2.2.2.2.1
        have h3 := HW.out.2.2.2.2.2
        exact ⟨by show kb < _; omega, by show kb ≠ _; omega⟩
      have hrz : Reads wr (.slice ao k c) (iv zs) := Reads.own (by rw [iv_length, hzl]; exact hown)
      obtain ⟨M, hM⟩ : ∃ M, M = MD.new 100000 cc dn zs [(kk : Int)] := ⟨_, rfl⟩
      have hO : openP M = ⟨0, { M with n := M.n + 1 + 1, fs := [(logK, [], 0)] }, 0, []⟩ := opens_new (by rw [hM]; rfl) (by rw [hM]; rfl) (by rw [hM]; show (0 : Int) + 1 ≠ (cc : Int); have := HC3.out.1; omega) (by rw [hM]; exact no_early hz3 (by show (0 : Int) + 1 < 3; decide)) (by rw [hM]; show (0 : Int) + 1 + 1 ≠ (cc : Int); have := HC3.out.1; omega) (by rw [hM]; exact no_early hz3 (by show (0 : Int) + 1 + 1 < 3; decide))
      have C1 := new_cd 100000 cc dn (.slice ao k c) (.slice (some ⟨kb, 0, none⟩) 1 1) zs [(kk : Int)] wr hrz hrk (by omega) (by simp)
      rw [← hM] at C1
      have HW1 : Hid (Well 7000 M 0) := Lib.hid (by rw [hM]; exact well_new _ _ _ _ _ _ (by decide) (by omega) (by simp))
      have HO := Lib.hid (And.intro hO (show M.dw = false by rw [hM]; rfl))
      clear hz3 hzl hown hst hk20 st1 hrk hrz hM hO
      refine C1.mono ?_
      rintro e w3 ⟨b, F, rfl, hCD, t1⟩
      have HS1 : Hid (SolD (· < wr.heap.size) w3 wr.heap.size b M) := Lib.hid ⟨fun k hk => Nat.lt_of_lt_of_le hk t1.size, F, hCD, fun k hk hx => by have := (hCD.lt k hk).1; exact absurd hx (by omega)⟩
      have G3 : Hid (Grow wr w3) := Lib.hid (turn_grow t1)
      clear hCD t1 C1 HW H5 hm5
      have C1 := sol_open HS1.out (TabAt.mk HTB.out (HGr.out.trans G3.out) HGr.out.size) HW1.out (by decide) room_big (by rw [HO.out.1])
      unfold theDisk at C1 ⊢
      go_wp2_with fail
      refine C1.mono ?_
      rintro e w4 ⟨p, ao0, jn, c0, lo, hi, rfl, hS, hob, hst⟩
      obtain ⟨M2, hM2⟩ : ∃ M2, M2 = (openP M).M := ⟨_, rfl⟩
      have hn0 : (openP M).n = 0 := by rw [HO.out.1]
      have hkept : Kept M2 0 false [] [] false := ⟨⟨[], 0, by rw [hM2, HO.out.1]; rfl, Nat.le_refl _, Nat.le_refl _, fun _ => rfl, .inl rfl⟩, rfl, fun h => by rw [hM2, HO.out.1] at h; exact absurd (HO.out.2.symm.trans h) (by decide), fun L h => by cases h⟩
      have hW2 : Well 7000 M2 3 := by rw [hM2]; exact well_open HW1.out
      rw [← hM2, hn0] at hS
      have HS2 := Lib.hid (hS.less (Y := (· < wr.heap.size)) fun k hk => .inl hk)
      have G4 : Hid (Grow wr w4) := Lib.hid (stays_two G3.out hst)
      have HM2 := Lib.hid (And.intro hkept hW2)
      clear hS hob hst C1 HS1 HW1 HO G3 hM2 hn0 hkept hW2
      have HN1 : Hid (n1 ≤ 40) := Lib.hid HL.out.1
      go_wp2_with (go_at_call 13; refine (num1_any _ _).mono ?_; rintro e w' ⟨rfl, rfl⟩)
      obtain ⟨N, hN⟩ : ∃ N, N = wr.heap.size := ⟨_, rfl⟩
      have HK0 : Hid (KeepAt w w4 N b p 0 0 0 (.slice none 0 0) (.slice none 0 0) false) := Lib.hid ⟨M2, 0, false, [], [], HM2.out.1, HM2.out.2, by rw [hN]; exact HS2.out.less fun k hk => XV_nil hk, Wl.nil _ _ _, Nat.le_refl _, Opr.nil _, HGr.out.trans G4.out, by rw [hN]; exact HGr.out.size, by rw [hN]; exact G4.out.size⟩
      clear HM2 HS2 G4 HGr hN
      go_loopw [17, 18, 19, 20] (fun sv lv mv i wl => ∃ (k2 ns nl cs cl : Nat) (as_ al : Option Addr) (more : Bool), k2 ≤ n1 ∧ i = .int .i64 k2 ∧ sv = .slice as_ ns cs ∧ lv = .slice al nl cl ∧ mv = .bool more ∧ Hid (KeepAt w wl N b p k2 ns nl (.slice as_ ns cs) (.slice al nl cl) more)) (fun _ _ _ i _ => n1 - (RowKit.intOf i).toNat)
      case atStart => exact ⟨0, 0, 0, 0, 0, none, none, false, Nat.zero_le _, rfl, rfl, rfl, rfl, HK0⟩
      case round =>
        obtain ⟨k2, ns, nl, cs, cl, as_, al, more, hk2, rfl, rfl, rfl, rfl, hrel⟩ := hrel
        clear HK0
        by_cases h4 : k2 < n1
        · have h5 : (k2 : Int) < (n1 : Int) := by omega
          obtain ⟨M, n, s, sure, last, hkept, hwell, hsol, hwl, hns, hlast, hgr, hNw, hNl⟩ := hrel.out
          obtain ⟨aL, L, ap, cp, rfl, hL, hcL, hOp⟩ := H1.out.at h4
          obtain ⟨lL, hlL⟩ : ∃ lL, lL = L.length := ⟨_, rfl⟩
          rw [← hlL] at hcL hOp
          have hlight := HL.out.2.2.1 k2 L hL
          have hcl : wr.cell? (aL.add k2) = some (.slice ap lL cp) := (World.cell?_of_block (hgr.block _ (World.block_lt_of_cell? w _ hcL))).trans hcL
          have hblk : (aL.add k2).block < N := Nat.lt_of_lt_of_le (World.block_lt_of_cell? w _ hcL) hNw
          have hsz7 : (frms (recs L)).length ≤ 7000 := by have := recs_size hlight.1; omega
          have hn72 := kept_n hkept room_big hwell (by have := HN1.out; omega)
          have C2 := sol_commit hsol (HTB.out.later hgr) (hOp.later hgr) hlight.1 hwell (by have := HN1.out; omega) room_big hsz7 (by omega)
          obtain ⟨K1, K2, K3⟩ := kept_commit hkept hlight.1
          have hW3 := well_commit hwell n s L hsz7
          obtain ⟨R, hR⟩ : ∃ R, R = commitP M n s L := ⟨_, rfl⟩
          rw [← hR] at C2 K1 K2 K3 hW3
          obtain ⟨z, hz⟩ : ∃ z, z = R.e := ⟨_, rfl⟩
          rw [← hz] at C2 K1 K2 K3
          have HR := Lib.hid (And.intro K1 (And.intro K2 (And.intro K3 hW3)))
          have HA := Lib.hid (And.intro hwl (And.intro hns (And.intro hlast (And.intro hgr (And.intro hNw (And.intro hNl (And.intro hOp hlL)))))))
          clear hrel hkept hwell hsol hwl hns hlast hNw hL hlL hlight hsz7 hn72 K1 K2 K3 hW3 hR hz hOp hcL
          go_wp2_with fail
          refine C2.mono ?_
          rintro e w5 ⟨rfl, hS5, hst5⟩
          have hcl5 : w5.cell? (aL.add k2) = some (.slice ap lL cp) := hst5.cell (.inl hblk) hcl
          obtain ⟨hwl, hns, hlast, hgr, hNw, hNl, hOp, hlL⟩ := HA.out
          have hwl5 : Wl w w5 N (.slice as_ ns cs) ns sure := hwl.stays hst5 fun g hg => .inr hg
          have hgr5 : Grow w w5 := Below.trans hgr ((hst5.less (Y := fun q => q < w.heap.size) fun q hq => .inl (Nat.lt_of_lt_of_le hq hNw)).below)
          have HS := Lib.hid (And.intro hS5 (And.intro hwl5 (And.intro hgr5 (And.intro hns (And.intro hNw (Nat.le_trans hNl hst5.1.size))))))
          have HO := Lib.hid (And.intro hOp (And.intro hlL hlast))
          have R1 := right_at _ lL L w5 (hOp.later hgr5)
          clear hS5 hwl5 hgr5 hns hNw hNl hOp hlL hlast hwl hst5 C2 HA hcl hgr
          have e3 : wrap64 ((k2 : Int) + 1) = ((k2 + 1 : Nat) : Int) := by rw [wrap64_id _ (by have := HN1.out; omega)]; omega
          by_cases hz0 : z = 0
          · obtain ⟨vs, hvs⟩ := HS.out.2.1.2
            have F1 : Hid (ns + 1 ≤ 1000000) := Lib.hid (by have := HS.out.2.2.2.1; have := HN1.out; omega)
            have hsz5 : N ≤ w5.heap.size := HS.out.2.2.2.2.2
            have HC1 : Hid (Cells (w5.alloc (.cells [Value.slice ap lL cp].toArray 49 (0, 0))) (.slice (some ⟨w5.heap.size, 0, none⟩) 1 1) 1 1 [.slice ap lL cp]) := Lib.hid (Cells.lit w5 [.slice ap lL cp] 49 (0, 0) 1 1 rfl)
            have HVS := Lib.hid hvs
            clear hvs
            subst hz0
            clear R1
            go_wp2_with (first | (go_at_call 13; refine (num1_any _ _).mono ?_; rintro e w' ⟨rfl, rfl⟩) | (at_builtin; refine wpList_append_gen elemOps rfl (.tmp 94) (.tmp 99) rfl N (.slice as_ ns cs) ns vs rfl (HVS.out.1.alloc _) (.slice (some ⟨w5.heap.size, 0, none⟩) 1 1) 1 [.slice ap lL cp] rfl HC1.out one_sl7 (ns + 1) rfl F1 (by decide) (by simp; omega) ?_; intro ao9 c9 w9 hown9 hb9 hg9 ho9))
            have t9 : Turn (Value.slice as_ ns cs).ownBlock.toList w5 w9 := ((Turn.refl _ w5).alloc _).trans (row_turn hg9)
            refine ⟨⟨k2 + 1, ns + 1, nl, c9, cl, ao9, al, false, by omega, by rw [e3], rfl, rfl, rfl, Lib.hid ⟨R.M, R.n, R.s, sure ++ [L], last, HR.out.1 trivial, (by have := HR.out.2.2.2; rw [show 3 + 3 * (k2 + 1) = 3 + 3 * k2 + 3 by omega]; exact this), HS.out.1.grown t9 (fun g hg => .inr (by simpa using hg)) (fun g hg => ?_), Wl.snoc HS.out.2.1.1 HVS.out.2 HO.out.1 hown9, Nat.succ_le_succ HS.out.2.2.2.1, HO.out.2.2, Below.trans HS.out.2.2.1 (((Below.refl _ w5).alloc HS.out.2.2.1.size _).trans (hb9.mono HS.out.2.2.2.2.1)), HS.out.2.2.2.2.1, Nat.le_trans hsz5 t9.size⟩⟩, by rw [e3]; simp only [RowKit.intOf]; omega⟩
            rcases hg with hg | hg
            · exact .inl (.inl hg)
            · rcases ho9 with h9 | h9
              · exact .inl (.inr (h9.symm.trans hg))
              · refine .inr ⟨?_, (hown9.lt g hg).2⟩
                have := h9.symm.trans hg
                simp at this
                omega
          · by_cases hz8 : z = 8
            · have K3 := HR.out.2.2.1 (.inl hz8)
              have HK3 := Lib.hid K3.2
              clear K3 R1
              subst hz8
              go_wp2_with (first | (go_at_call 13; refine (num1_any _ _).mono ?_; rintro e w' ⟨rfl, rfl⟩))
              refine ⟨⟨k2 + 1, ns, nl, cs, cl, as_, al, more, by omega, by rw [e3], rfl, rfl, rfl, Lib.hid ⟨R.M, R.n, R.s, sure, last, HK3.out, (by have := HR.out.2.2.2; rw [show 3 + 3 * (k2 + 1) = 3 + 3 * k2 + 3 by omega]; exact this), HS.out.1, HS.out.2.1, Nat.le_succ_of_le HS.out.2.2.2.1, HO.out.2.2, HS.out.2.2.1, HS.out.2.2.2.2.1, HS.out.2.2.2.2.2⟩⟩, by rw [e3]; simp only [RowKit.intOf]; omega⟩
            · cases hok : okOps L with
              | false =>
                rw [hok] at R1
                have HK3 := Lib.hid (HR.out.2.2.1 (.inr hok)).2
                clear hok
                go_wp2_with (first | (go_at_call 13; refine (num1_any _ _).mono ?_; rintro e w' ⟨rfl, rfl⟩) | (go_at_call 24; refine R1.mono ?_; rintro e w' ⟨rfl, rfl⟩))
                refine ⟨⟨k2 + 1, ns, nl, cs, cl, as_, al, more, by omega, by rw [e3], rfl, rfl, rfl, Lib.hid ⟨R.M, R.n, R.s, sure, last, HK3.out, (by have := HR.out.2.2.2; rw [show 3 + 3 * (k2 + 1) = 3 + 3 * k2 + 3 by omega]; exact this), HS.out.1, HS.out.2.1, Nat.le_succ_of_le HS.out.2.2.2.1, HO.out.2.2, HS.out.2.2.1, HS.out.2.2.2.2.1, HS.out.2.2.2.2.2⟩⟩, by rw [e3]; simp only [RowKit.intOf]; omega⟩
              | true =>
                rw [hok] at R1
                have HK3 := Lib.hid (HR.out.2.1 hz0 hz8 hok)
                clear hok
                go_wp2_with (first | (go_at_call 13; refine (num1_any _ _).mono ?_; rintro e w' ⟨rfl, rfl⟩) | (go_at_call 24; refine R1.mono ?_; rintro e w' ⟨rfl, rfl⟩))
                refine ⟨⟨k2 + 1, ns, lL, cs, cp, as_, ap, true, by omega, by rw [e3], rfl, rfl, rfl, Lib.hid ⟨R.M, R.n, R.s, sure, L, HK3.out, (by have := HR.out.2.2.2; rw [show 3 + 3 * (k2 + 1) = 3 + 3 * k2 + 3 by omega]; exact this), HS.out.1, HS.out.2.1, Nat.le_succ_of_le HS.out.2.2.2.1, HO.out.1, HS.out.2.2.1, HS.out.2.2.2.2.1, HS.out.2.2.2.2.2⟩⟩, by rw [e3]; simp only [RowKit.intOf]; omega⟩
        · obtain rfl : k2 = n1 := by omega
          have h5 : ¬ (k2 : Int) < (k2 : Int) := by omega
          obtain ⟨M, n, s, sure, last, hkept, hwell, hsol, hwl, hns, hlast, hgr, hNw, hNl⟩ := hrel.out
          obtain ⟨mm, hm, e1, e2, e3, e4⟩ := kept_opens hkept 100000
          have hwr : Well 7000 (M.restart 100000 0 false [] []) (3 + 3 * k2 + 1) := well_restart hwell (by decide) (by simp) (by simp)
          have hwo := well_open hwr
          have C2 := sol_restart hsol.disk (well_lim room_big hwell (by have := HN1.out; omega)) 100000 0 false
          obtain ⟨MR, hMR⟩ : ∃ MR, MR = M.restart 100000 0 false [] [] := ⟨_, rfl⟩
          rw [← hMR] at C2 e1 e2 e3 e4 hwr hwo
          have HM := Lib.hid (And.intro hm (And.intro e1 (And.intro e2 (And.intro e3 (And.intro e4 (And.intro hwr hwo))))))
          have HA := Lib.hid (And.intro hwl (And.intro hns (And.intro hlast (And.intro hgr (And.intro hNw hNl)))))
          clear hrel hkept hwell hsol hwl hns hlast hgr hNw hNl hm e1 e2 e3 e4 hwr hwo hMR
          unfold theDisk at C2
          go_wp2_with fail
          refine C2.mono ?_
          rintro e w6 ⟨rfl, hS, hst⟩
          have hg6 : Grow w w6 := Below.trans HA.out.2.2.2.1 ((hst.less (Y := fun q => q < w.heap.size) fun q hq => .inl (Nat.lt_of_lt_of_le hq HA.out.2.2.2.2.1)).below)
          have C3 := sol_open hS (TabAt.mk HTB.out hg6 HA.out.2.2.2.2.1) HM.out.2.2.2.2.2.1 (by have := HN1.out; omega) room_big HM.out.2.1
          rw [HM.out.2.2.1] at C3
          have HB := Lib.hid (And.intro (HA.out.1.stays hst fun g hg => .inr hg) hg6)
          clear hS hst C2 hg6
          unfold theDisk at C3
          go_wp2_with fail
          refine C3.mono ?_
          rintro e w7 ⟨q7, a7, j7, c7, lo7, hi7, rfl, hS, hob, hst⟩
          have hg7 : Grow w w7 := Below.trans HB.out.2 ((hst.less (Y := fun q => q < w.heap.size) fun q hq => .inl (Nat.lt_of_lt_of_le hq HA.out.2.2.2.2.1)).below)
          have C4 := sol_open hS.disk (TabAt.mk HTB.out hg7 HA.out.2.2.2.2.1) HM.out.2.2.2.2.2.2 (by have := HN1.out; omega) room_big HM.out.2.2.2.1
          rw [HM.out.2.2.2.2.1] at C4
          have HC := Lib.hid (And.intro (HB.out.1.stays hst fun g hg => .inr hg) (And.intro hg7 hob))
          clear hS hob hst C3 hg7 HB
          unfold theDisk at C4
          go_wp2_with fail
          refine C4.mono ?_
          rintro e w8 ⟨q8, a8, j8, c8, lo8, hi8, rfl, _, hob, hst⟩
          have hg8 : Grow w w8 := Below.trans HC.out.2.1 ((hst.less (Y := fun q => q < w.heap.size) fun q hq => .inl (.inl (Nat.lt_of_lt_of_le hq HA.out.2.2.2.2.1))).below)
          have hob7 := HC.out.2.2.stays hst fun q h1 h2 => .inr ⟨h1, h2⟩
          have HD := Lib.hid (And.intro (HC.out.1.stays hst fun g hg => .inl (.inr hg)) (And.intro hg8 (And.intro hob7.obs hob.obs)))
          have SB := same_batches _ _ _ _ _ _ w8 hob7.obs hob.obs
          clear hob hst C4 hg8 hob7 HC
          go_wp2_with (first | (go_at_call 13; refine (num1_any _ _).mono ?_; rintro e w' ⟨rfl, rfl⟩) | (go_at_call 14; refine SB.mono ?_; rintro e wy ⟨bb, kq, rfl, hwy, hbb⟩; obtain rfl : bb = true := hbb.2 rfl; have HY : Hid (wy = w8.drewN kq) := Lib.hid hwy; clear hwy hbb SB))
          obtain ⟨vs, hvs⟩ := HD.out.1.2
          have gy : Grow w8 wy := by rw [HY.out]; exact below_drewN (Below.refl _ w8) kq
          have hw9 : Wl w wy N (.slice as_ ns cs) ns sure := HD.out.1.turn (turn_below gy) (by simp)
          have ho7 := HD.out.2.2.1.later gy
          have hgy := HD.out.2.1.trans gy
          have hns9 : ns ≤ 40 := by have := HA.out.2.1; have := HN1.out; omega
          have SB2 := same_batches _ _ _ _ _ _ wy ho7 (hw9.obs hgy (by unfold maxLen; omega))
          have HE := Lib.hid (And.intro hw9 (And.intro ho7 (And.intro hgy hns9)))
          clear hw9 ho7 hgy gy hvs HY hns9
          refine SB2.mono ?_
          rintro e wz ⟨bb, kq2, rfl, hwz, hbb⟩
          have gz : Grow wy wz := by rw [hwz]; exact below_drewN (Below.refl _ wy) kq2
          have hgz := HE.out.2.2.1.trans gz
          have hobz := HE.out.2.1.later gz
          have hwlz : Wl w wz N (.slice as_ ns cs) ns sure := HE.out.1.turn (turn_below gz) (by simp)
          have HZ := Lib.hid (And.intro hgz (And.intro hobz hwlz))
          have HBB := Lib.hid hbb
          clear gz hgz hobz hwlz hwz hbb SB2 HD
          cases bb with
          | true =>
            go_wp2_with (go_at_call 8; refine (awake_wal _ (HTB.out.later HZ.out.1)).mono ?_; rintro e w' ⟨rfl, hb9⟩)
            go_ret
            exact ⟨rfl, HZ.out.1.trans hb9⟩
          | false =>
            have hmore : more = true ∧ mm = sure ++ [last] := by
              rcases HM.out.1 with h | h
              · exact absurd (HBB.out.2 h) (by simp)
              · exact h
            obtain ⟨rfl, hmm⟩ := hmore
            have HMM := Lib.hid hmm
            clear hmm
            obtain ⟨vs2, hvs2⟩ := HZ.out.2.2.2
            have hone := hvs2.2.one
            have F1 : Hid (ns ≤ 1000000) := Lib.hid (by have := HE.out.2.2.2; omega)
            have F2 : Hid (ns + 1 ≤ 1000000) := Lib.hid (by have := HE.out.2.2.2; omega)
            have HVS := Lib.hid (And.intro hvs2.1 (And.intro hvs2.2 hone))
            clear hvs2 hone
            go_wp2_with (first | (at_builtin; refine wpList_append_gen elemOps rfl (.tmp 148) (.tmp 149) rfl wz.heap.size (.slice (some ⟨wz.heap.size, 0, none⟩) 0 0) 0 [] rfl (own_empty wz _ _ 1 _ rfl (Nat.le_refl _)) (.slice as_ ns cs) ns vs2 rfl (Cells.own (HVS.out.1.alloc _) (by decide)) HVS.out.2.2 ns (Nat.zero_add ns).symm F1 (by decide) (by simp) ?_; intro ao9 c9 w9 hown9 hb9 hg9 ho9) | (at_builtin; refine wpList_append_gen elemOps rfl (.tmp 151) (.tmp 153) rfl wz.heap.size (.slice ao9 ns c9) ns _ rfl (hown9.alloc _) (.slice (some ⟨w9.heap.size, 0, none⟩) 1 1) 1 [.slice al nl cl] rfl (Cells.lit w9 [.slice al nl cl] 49 (0, 0) 1 1 rfl) one_sl7 (ns + 1) rfl F2 (by decide) (by have := hb9.size; simp at this ⊢; omega) ?_; intro ao10 c10 w10 hown10 hb10 hg10 ho10))
            have gz10 : Grow wz w10 := ((((Below.refl _ wz).alloc (Nat.le_refl _) _).trans hb9).trans (((Below.refl wz.heap.size w9).alloc (by have := hb9.size; simp at this; omega) _).trans hb10))
            have hw10 : Wl w w10 wz.heap.size (.slice ao10 (ns + 1) c10) (ns + 1) (sure ++ [last]) := ⟨by rw [List.length_append, ← HZ.out.2.2.1]; rfl, _, hown10, (show OpVals w ([] ++ vs2) sure from HVS.out.2.1).snoc HA.out.2.2.1⟩
            have hg10 := HZ.out.1.trans gz10
            have SB3 := same_batches _ _ _ _ _ _ w10 (HZ.out.2.1.later gz10) (hw10.obs hg10 (by have := HE.out.2.2.2; unfold maxLen; omega))
            have HG10 := Lib.hid hg10
            clear gz10 hw10 hg10 hown9 hb9 hg9 ho9 hown10 hb10 ho10
            refine SB3.mono ?_
            rintro e wf ⟨bb, kf, rfl, hwf, hbb3⟩
            obtain rfl : bb = true := hbb3.2 HMM.out
            have HGF : Hid (Grow w wf) := Lib.hid (HG10.out.trans (by rw [hwf]; exact below_drewN (Below.refl _ w10) kf))
            clear hwf hbb3 SB3
            go_wp2_with (go_at_call 8; refine (awake_wal _ (HTB.out.later HGF.out)).mono ?_; rintro e w' ⟨rfl, hb9⟩)
            go_ret
            exact ⟨rfl, HGF.out.trans hb9⟩

theorem keeps_int (v1 : Value) (n1 : Nat) (LL : List (List Opm)) (cr : Int) (dn : Bool) (kp : Int) (v5 : Value) (A : List UInt8) (w : World) (h1 : Obs w v1 n1 LL) (hcr : 0 ≤ cr ∧ cr ≤ 255) (hkp : 0 ≤ kp ∧ kp ≤ 65535) (h5 : Reads w v5 (bv A)) (h5l : A.length ≤ maxLen) (ht : Tab w) :
    Calls Tryz.prog 4 #[v1, .int .u8 cr, .bool dn, .int .u16 kp, v5] w fun e w' => e = .returned (.bool true) ∧ Below w.heap.size w w' := by
  obtain ⟨k, rfl⟩ : ∃ k : Nat, cr = k := ⟨cr.toNat, by omega⟩
  obtain ⟨j, rfl⟩ : ∃ j : Nat, kp = j := ⟨kp.toNat, by omega⟩
  exact keeps_wal v1 n1 LL k dn j v5 A w h1 (by omega) (by omega) h5 h5l ht

end Go.Proofs.YthacjeeafnblmaaGreatDoor
