/- The stable sort's merge of ops, of two parts of several ops: plain facts. Numbers and types by name. -/
import Derived.Test.YtabmjjicplomlaaSin
/- The stable sort's merge of ops where the first part is one op: the walk. Numbers and types by name. -/
namespace Go.Proofs.Ytabmjjicplomlaa
open Go.RowKit Go.Lib Go.Sort

theorem asc_mid {X1 X2 : List Opm} {x : Opm} (h : Asc (X1 ++ X2)) (h1 : ∀ z ∈ X1, ¬ kO x < kO z) (h2 : ∀ z ∈ X2, ¬ kO z < kO x) : Asc (X1 ++ x :: X2) := by
  refine Asc.app (Asc.left h) (List.pairwise_cons.2 ⟨h2, Asc.right h⟩) fun z hz y hy => ?_
  rcases List.mem_cons.1 hy with rfl | hy
  · exact h1 z hz
  · exact Asc.cross h z hz y hy

theorem mem_take_at {A : List Opm} {k : Nat} {z : Opm} (h : z ∈ A.take k) : ∃ t, t < k ∧ A[t]? = some z := by
  obtain ⟨t, ht, e⟩ := List.getElem_of_mem h
  rw [List.length_take] at ht
  refine ⟨t, by omega, ?_⟩
  rw [List.getElem_take] at e
  rw [List.getElem?_eq_getElem (by omega), e]
theorem mem_drop_at {A : List Opm} {k : Nat} {z : Opm} (h : z ∈ A.drop k) : ∃ t, k ≤ t ∧ t < A.length ∧ A[t]? = some z := by
  obtain ⟨t, ht, e⟩ := List.getElem_of_mem h
  rw [List.length_drop] at ht
  refine ⟨k + t, by omega, by omega, ?_⟩
  rw [List.getElem_drop] at e
  rw [List.getElem?_eq_getElem (by omega), e]
theorem row_at {P A R : List Opm} {t : Nat} {x : Opm} (h : A[t]? = some x) : (P ++ A ++ R)[P.length + t]? = some x := by
  have ht := (List.getElem?_eq_some_iff.1 h).1
  rw [List.append_assoc, List.getElem?_append_right (by omega), Nat.add_sub_cancel_left, List.getElem?_append_left ht]
  exact h

set_option maxRecDepth 100000 in
set_option maxHeartbeats 4000000 in
theorem merge_one (w0 : World) (blk off n cap : Nat) (B : Lies w0 blk off n) (P Y S : List Opm) (x : Opm) (hY : Asc Y) (W : World) (h : Srts w0 blk off n (P ++ x :: Y ++ S) W) (m b : Nat) (hm : P.length + 1 = m) (hb : m + Y.length = b) :
    Calls Try.prog 64 #[.slice (some ⟨blk, off, none⟩) n cap, .int .i64 (P.length : Nat), .int .i64 (m : Nat), .int .i64 (b : Nat), cmpF] W (Sorted1 w0 blk off n P (x :: Y) S) := by
  have HB := Lib.hid B
  have mixed : Try.prog.follows .mixedOrders = true := by kernel_rfl
  have hn : b ≤ n := by have := h.1; simp at this; omega
  have hn2 := B.1
  have H0 := Lib.hid h
  have HY := Lib.hid hY
  clear h B hY
  unfold cmpF
  obtain ⟨p, hp⟩ : ∃ p, P.length = p := ⟨_, rfl⟩
  obtain ⟨l, hl⟩ : ∃ l, Y.length = l := ⟨_, rfl⟩
  rw [hp] at hm ⊢
  rw [hl] at hb
  have HL := Lib.hid (And.intro hp (And.intro hl (And.intro hm hb)))
  have hmn : m ≤ n := by omega
  have hpm : p ≤ m := by omega
  have e1 : (m : Int) - (p : Int) = 1 := by omega
  clear hp hl hm hb
  go_enter Try.func64, Try.ntmps64
  go_wp2_with fail
  clear e1
  go_loopw [10, 11] (fun i j wr => ∃ (i1 j1 : Nat), i = .int .i64 (i1 : Int) ∧ j = .int .i64 (j1 : Int) ∧ m ≤ i1 ∧ i1 ≤ j1 ∧ j1 ≤ b ∧ Hid (Srts w0 blk off n (P ++ x :: Y ++ S) wr ∧ (∀ t z, m + t < i1 → Y[t]? = some z → kO z < kO x) ∧ (∀ t z, j1 ≤ m + t → Y[t]? = some z → ¬ kO z < kO x)))
    (fun i j _ => (RowKit.intOf j).toNat - (RowKit.intOf i).toNat)
  case atStart =>
    refine ⟨m, b, rfl, rfl, Nat.le_refl _, by have := HL.out; omega, Nat.le_refl _, Lib.hid ⟨H0.out, fun t z ht _ => by omega, fun t z ht hz => ?_⟩⟩
    have := (List.getElem?_eq_some_iff.1 hz).1
    have := HL.out
    omega
  case round =>
    obtain ⟨i1, j1, rfl, rfl, hmi, hij, hjb, hs⟩ := hrel
    by_cases hlt : i1 < j1
    · have h3 : (i1 : Int) < (j1 : Int) := by omega
      have hib : i1 + j1 ≤ 2 * n := by omega
      obtain ⟨c, hc⟩ : ∃ c : Nat, (i1 + j1) / 2 = c := ⟨_, rfl⟩
      have hcz : ((i1 : Int) + (j1 : Int)) / 2 = (c : Int) := by omega
      have hci : i1 ≤ c := by omega
      have hcj : c < j1 := by omega
      obtain ⟨t, ht⟩ : ∃ t, m + t = c := ⟨c - m, by omega⟩
      obtain ⟨z, hz⟩ : ∃ z, Y[t]? = some z := ⟨_, List.getElem?_eq_getElem (by have := HL.out; omega)⟩
      obtain ⟨s1, s2, s3⟩ := hs.out
      have ax : (P ++ x :: Y ++ S)[p]? = some x := by have := row_at (P := P) (A := x :: Y) (R := S) (t := 0) (x := x) rfl; rw [HL.out.1] at this; exact this
      have az : (P ++ x :: Y ++ S)[c]? = some z := by
        have := row_at (P := P) (A := x :: Y) (R := S) (t := t + 1) (x := z) (by simpa using hz)
        rw [HL.out.1, show p + (t + 1) = c by have := HL.out; omega] at this
        exact this
      have l2 : (c : Int) < (n : Int) := by omega
      have l3 : (p : Int) < (n : Int) := by omega
      have l2' : c < n := by omega
      have l3' : p < n := by omega
      have cx := fun q os => ((s1.grown q os).cells HB.out ax).1
      have cz := fun q os => ((s1.grown q os).cells HB.out az).1
      have HR := Lib.hid (And.intro ht (And.intro hz (And.intro s1 (And.intro s2 (And.intro s3 (And.intro hc (And.intro hmi (And.intro hij hjb))))))))
      obtain ⟨cv, hcv⟩ : ∃ cv, compareBytes (kO z) (kO x) = cv := ⟨_, rfl⟩
      have CV := fun w => cmp_as hcv w
      have CL : Hid ((cv < 0) = (kO z < kO x)) := Lib.hid (by rw [← hcv]; exact propext (cmp_lt _ _))
      obtain ⟨xd, xk, xv⟩ := x
      obtain ⟨zd, zk, zv⟩ := z
      simp only at cx cz
      have x0 := fun q os => (cx q os).1
      have x1 := fun q os => (cx q os).2.1
      have x2 := fun q os => (cx q os).2.2
      have z0 := fun q os => (cz q os).1
      have z1 := fun q os => (cz q os).2.1
      have z2 := fun q os => (cz q os).2.2
      clear cx cz s1 s2 s3 ax az ht hz hcv hc hmi hij hjb hs
      by_cases c1 : cv < 0
      · go_wp2_with fail
        go_quiet_grown (refine Calls.grown_of (CV _))
        go_wp2_with fail
        obtain ⟨ht, hz, s1, s2, s3, hc, hmi, hij, hjb⟩ := HR.out
        have hlz : kO ⟨zd, zk, zv⟩ < kO ⟨xd, xk, xv⟩ := CL.out ▸ c1
        refine ⟨⟨c + 1, j1, by simp, rfl, by omega, by omega, hjb, Lib.hid ⟨s1.grown nq osq, fun t' z' ht' hz' => ?_, s3⟩⟩, by simp only [RowKit.intOf]; omega⟩
        exact key_lt_of (Asc.at HY.out (show t' ≤ t by omega) hz' hz) hlz
      · go_wp2_with fail
        go_quiet_grown (refine Calls.grown_of (CV _))
        go_wp2_with fail
        obtain ⟨ht, hz, s1, s2, s3, hc, hmi, hij, hjb⟩ := HR.out
        have hlz : ¬ kO ⟨zd, zk, zv⟩ < kO ⟨xd, xk, xv⟩ := by rw [← CL.out]; omega
        refine ⟨⟨i1, c, rfl, by simp, hmi, by omega, by omega, Lib.hid ⟨s1.grown nq osq, s2, fun t' z' ht' hz' => ?_⟩⟩, by simp only [RowKit.intOf]; omega⟩
        exact key_nlt_trans hlz (Asc.at HY.out (show t ≤ t' by omega) hz hz')
    · have h3 : ¬ (i1 : Int) < (j1 : Int) := by omega
      obtain rfl : i1 = j1 := by omega
      obtain ⟨v, hv⟩ : ∃ v, m + v = i1 := ⟨i1 - m, by omega⟩
      have hvl : v ≤ Y.length := by have := HL.out; omega
      have hpv : p + v + 1 = i1 := by have := HL.out; omega
      have hin : i1 ≤ n := by omega
      have HS := Lib.hid (And.intro hv (And.intro hvl hs.out))
      clear hv hvl hs hmi hij hjb
      go_wp2_with fail
      go_loopw [13] (fun k wr => ∃ (k1 q : Nat), k = .int .i64 (k1 : Int) ∧ p + q = k1 ∧ k1 + 1 ≤ i1 ∧ Hid (Srts w0 blk off n (P ++ Y.take q ++ x :: (Y.drop q ++ S)) wr))
        (fun k _ => i1 - (RowKit.intOf k).toNat)
      case atStart => exact ⟨p, 0, rfl, rfl, by omega, Lib.hid (by have := HS.out.2.2.1; simpa using this)⟩
      case round =>
        obtain ⟨k1, q, rfl, hq, hk, hr⟩ := hrel
        by_cases hlt : k1 + 1 < i1
        · have h5 : (k1 : Int) < (i1 : Int) - 1 := by omega
          obtain ⟨k2, hk2⟩ : ∃ k2, k1 + 1 = k2 := ⟨_, rfl⟩
          have w1 : IntKind.i64.wrap ((k1 : Int) + 1) = (k2 : Int) := by rw [IntKind.wrap_i64]; omega
          obtain ⟨z, hz⟩ : ∃ z, Y[q]? = some z := ⟨_, List.getElem?_eq_getElem (by have := HS.out; omega)⟩
          have ed : Y.drop q = z :: Y.drop (q + 1) := by
            rw [← List.getElem_cons_drop (h := (List.getElem?_eq_some_iff.1 hz).1), (List.getElem?_eq_some_iff.1 hz).2]
          have hg := hr.out
          rw [ed, List.cons_append] at hg
          have hF : (P ++ Y.take q).length = k1 := by
            have h1 := (List.getElem?_eq_some_iff.1 hz).1
            rw [List.length_append, HL.out.1, List.length_take]; omega
          have ax := mid_at0 (P ++ Y.take q) (z :: (Y.drop (q + 1) ++ S)) x
          have az := mid_at1 (P ++ Y.take q) (Y.drop (q + 1) ++ S) x z
          rw [hF] at ax
          rw [hF, hk2] at az
          obtain ⟨⟨a0, a1, a2⟩, f0, f1, f2⟩ := hg.cells HB.out ax
          obtain ⟨⟨b0, b1, b2⟩, g0, g1, g2⟩ := hg.cells HB.out az
          have l2 : (k2 : Int) < (n : Int) := by omega
          have l3 : (k1 : Int) < (n : Int) := by omega
          have l2' : k2 < n := by omega
          have l3' : k1 < n := by omega
          have y00 : ¬ off + k2 * 3 = off + k1 * 3 := by omega
          have y01 : ¬ off + k2 * 3 = off + k1 * 3 + 1 := by omega
          have y02 : ¬ off + k2 * 3 = off + k1 * 3 + 2 := by omega
          have y10 : ¬ off + k2 * 3 + 1 = off + k1 * 3 := by omega
          have y11 : ¬ off + k2 * 3 + 1 = off + k1 * 3 + 1 := by omega
          have y12 : ¬ off + k2 * 3 + 1 = off + k1 * 3 + 2 := by omega
          have y20 : ¬ off + k2 * 3 + 2 = off + k1 * 3 := by omega
          have y21 : ¬ off + k2 * 3 + 2 = off + k1 * 3 + 1 := by omega
          have y22 : ¬ off + k2 * 3 + 2 = off + k1 * 3 + 2 := by omega
          have HG := Lib.hid (And.intro hg (And.intro ax (And.intro az (And.intro hF (And.intro hz (And.intro hq (And.intro hk (And.intro hk2 (And.intro hlt hpv)))))))))
          obtain ⟨xd, xk, xv⟩ := x
          obtain ⟨zd, zk, zv⟩ := z
          simp only at a0 a1 a2 b0 b1 b2
          clear hg ax az hF hz hr ed hq hk hk2 hlt hpv
          go_wp2_with fail
          clear h5
          go_big_region
          all_goals go_wp2_with fail
          obtain ⟨hg, ax, az, hF, hz, hq, hk, hk2, hlt, hpv⟩ := HG.out
          refine ⟨⟨k2, q + 1, by first | rfl | (congr 1; omega), by omega, by omega, Lib.hid ?_⟩, by simp only [RowKit.intOf]; omega⟩
          have hst := hg.swap HB.out ax az
          have e := swpL_up (P ++ Y.take q) (Y.drop (q + 1) ++ S) ⟨xd, xk, xv⟩ ⟨zd, zk, zv⟩
          rw [hF, hk2] at e
          rw [e] at hst
          rw [take_next hz]
          simpa [putE] using hst
        · have h5 : ¬ (k1 : Int) < (i1 : Int) - 1 := by omega
          have HQ := Lib.hid (And.intro hq (And.intro hk (And.intro hlt hpv)))
          clear hq hk hlt hpv
          go_wp2_with fail
          go_end0
          obtain ⟨hq, hk, hlt, hpv⟩ := HQ.out
          obtain ⟨hv, hvl, _, s2, s3⟩ := HS.out
          obtain rfl : q = v := by omega
          have hYs : Asc (Y.take q ++ Y.drop q) := by rw [List.take_append_drop]; exact HY.out
          have m1 : ∀ z ∈ Y.take q, kO z < kO x := fun z hz => by
            obtain ⟨t, ht, e⟩ := mem_take_at hz
            exact s2 t z (by omega) e
          have m2 : ∀ z ∈ Y.drop q, ¬ kO z < kO x := fun z hz => by
            obtain ⟨t, ht, _, e⟩ := mem_drop_at hz
            exact s3 t z (by omega) e
          refine ⟨rfl, Y.take q ++ x :: Y.drop q, asc_mid hYs (fun z hz h => List.lt_irrefl _ (List.lt_trans h (m1 z hz))) m2, ?_, by simp; omega, by simpa using hr.out⟩
          have e : Same ([x] ++ Y.take q ++ Y.drop q) (Y.take q ++ [x] ++ Y.drop q) := (same_turn (A := [x]) (B := Y.take q) fun u hu y hy => by
            obtain rfl : u = x := by simpa using hu
            exact m1 y hy).app (Same.refl _)
          simpa using e

end Go.Proofs.Ytabmjjicplomlaa

/- The stable sort's merge of ops where the second part is one op: the walk. Numbers and types by name. -/
namespace Go.Proofs.Ytabmjjicplomlaa
open Go.RowKit Go.Lib Go.Sort

set_option maxRecDepth 100000 in
set_option maxHeartbeats 4000000 in
theorem merge_last (w0 : World) (blk off n cap : Nat) (B : Lies w0 blk off n) (P Y S : List Opm) (x : Opm) (hY : Asc Y) (hY1 : Y.length ≠ 1) (W : World) (h : Srts w0 blk off n (P ++ Y ++ x :: S) W) (m b : Nat) (hm : P.length + Y.length = m) (hb : m + 1 = b) :
    Calls Try.prog 64 #[.slice (some ⟨blk, off, none⟩) n cap, .int .i64 (P.length : Nat), .int .i64 (m : Nat), .int .i64 (b : Nat), cmpF] W (Sorted1 w0 blk off n P (Y ++ [x]) S) := by
  have HB := Lib.hid B
  have mixed : Try.prog.follows .mixedOrders = true := by kernel_rfl
  have hn : b ≤ n := by have := h.1; simp at this; omega
  have hn2 := B.1
  have H0 := Lib.hid h
  have HY := Lib.hid hY
  clear h B hY
  unfold cmpF
  obtain ⟨p, hp⟩ : ∃ p, P.length = p := ⟨_, rfl⟩
  obtain ⟨l, hl⟩ : ∃ l, Y.length = l := ⟨_, rfl⟩
  rw [hp] at hm ⊢
  rw [hl] at hm hY1
  have HL := Lib.hid (And.intro hp (And.intro hl (And.intro hm hb)))
  have hmn : m < n := by omega
  have hpm : p ≤ m := by omega
  have e0 : ¬ (m : Int) - (p : Int) = 1 := by omega
  have e0b : ((m : Int) - (p : Int) == 1) = false := by simpa using e0
  have e1 : (b : Int) - (m : Int) = 1 := by omega
  clear hp hl hm hb hY1
  go_enter Try.func64, Try.ntmps64
  go_wp2_with fail
  clear e0 e0b e1
  go_loopw [14, 15] (fun i j wr => ∃ (i1 j1 : Nat), i = .int .i64 (i1 : Int) ∧ j = .int .i64 (j1 : Int) ∧ p ≤ i1 ∧ i1 ≤ j1 ∧ j1 ≤ m ∧ Hid (Srts w0 blk off n (P ++ Y ++ x :: S) wr ∧ (∀ t z, p + t < i1 → Y[t]? = some z → ¬ kO x < kO z) ∧ (∀ t z, j1 ≤ p + t → Y[t]? = some z → kO x < kO z)))
    (fun i j _ => (RowKit.intOf j).toNat - (RowKit.intOf i).toNat)
  case atStart =>
    refine ⟨p, m, rfl, rfl, Nat.le_refl _, by have := HL.out; omega, Nat.le_refl _, Lib.hid ⟨H0.out, fun t z ht _ => by omega, fun t z ht hz => ?_⟩⟩
    have := (List.getElem?_eq_some_iff.1 hz).1
    have := HL.out
    omega
  case round =>
    obtain ⟨i1, j1, rfl, rfl, hmi, hij, hjb, hs⟩ := hrel
    by_cases hlt : i1 < j1
    · have h3 : (i1 : Int) < (j1 : Int) := by omega
      have hib : i1 + j1 ≤ 2 * n := by omega
      obtain ⟨c, hc⟩ : ∃ c : Nat, (i1 + j1) / 2 = c := ⟨_, rfl⟩
      have hcz : ((i1 : Int) + (j1 : Int)) / 2 = (c : Int) := by omega
      have hci : i1 ≤ c := by omega
      have hcj : c < j1 := by omega
      obtain ⟨t, ht⟩ : ∃ t, p + t = c := ⟨c - p, by omega⟩
      obtain ⟨z, hz⟩ : ∃ z, Y[t]? = some z := ⟨_, List.getElem?_eq_getElem (by have := HL.out; omega)⟩
      obtain ⟨s1, s2, s3⟩ := hs.out
      have ax : (P ++ Y ++ x :: S)[m]? = some x := by
        have := mid_at0 (P ++ Y) S x
        rw [List.length_append, HL.out.1, HL.out.2.1, HL.out.2.2.1] at this
        exact this
      have az : (P ++ Y ++ x :: S)[c]? = some z := by
        have := row_at (P := P) (A := Y) (R := x :: S) (t := t) (x := z) hz
        rw [HL.out.1, ht] at this
        exact this
      have l2 : (c : Int) < (n : Int) := by omega
      have l3 : (m : Int) < (n : Int) := by omega
      have l2' : c < n := by omega
      have cx := fun q os => ((s1.grown q os).cells HB.out ax).1
      have cz := fun q os => ((s1.grown q os).cells HB.out az).1
      have HR := Lib.hid (And.intro ht (And.intro hz (And.intro s1 (And.intro s2 (And.intro s3 (And.intro hc (And.intro hmi (And.intro hij hjb))))))))
      obtain ⟨cv, hcv⟩ : ∃ cv, compareBytes (kO x) (kO z) = cv := ⟨_, rfl⟩
      have CV := fun w => cmp_as hcv w
      have CL : Hid ((cv < 0) = (kO x < kO z)) := Lib.hid (by rw [← hcv]; exact propext (cmp_lt _ _))
      obtain ⟨xd, xk, xv⟩ := x
      obtain ⟨zd, zk, zv⟩ := z
      simp only at cx cz
      have x0 := fun q os => (cx q os).1
      have x1 := fun q os => (cx q os).2.1
      have x2 := fun q os => (cx q os).2.2
      have z0 := fun q os => (cz q os).1
      have z1 := fun q os => (cz q os).2.1
      have z2 := fun q os => (cz q os).2.2
      clear cx cz s1 s2 s3 ax az ht hz hcv hc hmi hij hjb hs
      by_cases c1 : cv < 0
      · have c2 : decide (cv < 0) = true := by simpa using c1
        go_wp2_with fail
        go_quiet_grown (refine Calls.grown_of (CV _))
        go_wp2_with fail
        obtain ⟨ht, hz, s1, s2, s3, hc, hmi, hij, hjb⟩ := HR.out
        have hlz : kO ⟨xd, xk, xv⟩ < kO ⟨zd, zk, zv⟩ := CL.out ▸ c1
        refine ⟨⟨i1, c, rfl, by simp, hmi, by omega, by omega, Lib.hid ⟨s1.grown nq osq, s2, fun t' z' ht' hz' => ?_⟩⟩, by simp only [RowKit.intOf]; omega⟩
        exact key_lt_of' hlz (Asc.at HY.out (show t ≤ t' by omega) hz hz')
      · have c2 : decide (cv < 0) = false := by simpa using c1
        go_wp2_with fail
        go_quiet_grown (refine Calls.grown_of (CV _))
        go_wp2_with fail
        obtain ⟨ht, hz, s1, s2, s3, hc, hmi, hij, hjb⟩ := HR.out
        have hlz : ¬ kO ⟨xd, xk, xv⟩ < kO ⟨zd, zk, zv⟩ := by rw [← CL.out]; omega
        refine ⟨⟨c + 1, j1, by simp, rfl, by omega, by omega, hjb, Lib.hid ⟨s1.grown nq osq, fun t' z' ht' hz' => ?_, s3⟩⟩, by simp only [RowKit.intOf]; omega⟩
        exact key_nlt_trans (Asc.at HY.out (show t' ≤ t by omega) hz' hz) hlz
    · have h3 : ¬ (i1 : Int) < (j1 : Int) := by omega
      obtain rfl : i1 = j1 := by omega
      obtain ⟨v, hv⟩ : ∃ v, p + v = i1 := ⟨i1 - p, by omega⟩
      have hvl : v ≤ Y.length := by have := HL.out; omega
      have hin : i1 ≤ n := by omega
      have HS := Lib.hid (And.intro hv (And.intro hvl hs.out))
      clear hv hvl hs hmi hij
      go_wp2_with fail
      go_loopw [17] (fun k wr => ∃ (k1 q : Nat), k = .int .i64 (k1 : Int) ∧ p + q = k1 ∧ i1 ≤ k1 ∧ k1 ≤ m ∧ Hid (Srts w0 blk off n (P ++ Y.take q ++ x :: (Y.drop q ++ S)) wr))
        (fun k _ => (RowKit.intOf k).toNat)
      case atStart =>
        refine ⟨m, Y.length, rfl, by have := HL.out; omega, hjb, Nat.le_refl _, Lib.hid ?_⟩
        have := HS.out.2.2.1
        simpa using this
      case round =>
        obtain ⟨k2, q2, rfl, hq, hk, hkm, hr⟩ := hrel
        by_cases hlt : i1 < k2
        · have h5 : (i1 : Int) < (k2 : Int) := by omega
          obtain ⟨k1, hk2⟩ : ∃ k1, k1 + 1 = k2 := ⟨k2 - 1, by omega⟩
          obtain ⟨q, hq2⟩ : ∃ q, q + 1 = q2 := ⟨q2 - 1, by have := HS.out; omega⟩
          have w1 : IntKind.i64.wrap ((k2 : Int) - 1) = (k1 : Int) := by rw [IntKind.wrap_i64]; omega
          obtain ⟨z, hz⟩ : ∃ z, Y[q]? = some z := ⟨_, List.getElem?_eq_getElem (by have := HL.out; omega)⟩
          have hg := hr.out
          have et : P ++ Y.take q2 ++ x :: (Y.drop q2 ++ S) = (P ++ Y.take q) ++ z :: x :: (Y.drop (q + 1) ++ S) := by
            rw [← hq2, take_next hz]; simp
          rw [et] at hg
          have hF : (P ++ Y.take q).length = k1 := by
            have h1 := (List.getElem?_eq_some_iff.1 hz).1
            rw [List.length_append, HL.out.1, List.length_take]; omega
          have az := mid_at0 (P ++ Y.take q) (x :: (Y.drop (q + 1) ++ S)) z
          have ax := mid_at1 (P ++ Y.take q) (Y.drop (q + 1) ++ S) z x
          rw [hF] at az
          rw [hF, hk2] at ax
          obtain ⟨⟨b0, b1, b2⟩, g0, g1, g2⟩ := hg.cells HB.out az
          obtain ⟨⟨a0, a1, a2⟩, f0, f1, f2⟩ := hg.cells HB.out ax
          have l2 : (k2 : Int) < (n : Int) := by omega
          have l3 : (k1 : Int) < (n : Int) := by omega
          have l2' : k2 < n := by omega
          have l3' : k1 < n := by omega
          have y00 : ¬ off + k1 * 3 = off + k2 * 3 := by omega
          have y01 : ¬ off + k1 * 3 = off + k2 * 3 + 1 := by omega
          have y02 : ¬ off + k1 * 3 = off + k2 * 3 + 2 := by omega
          have y10 : ¬ off + k1 * 3 + 1 = off + k2 * 3 := by omega
          have y11 : ¬ off + k1 * 3 + 1 = off + k2 * 3 + 1 := by omega
          have y12 : ¬ off + k1 * 3 + 1 = off + k2 * 3 + 2 := by omega
          have y20 : ¬ off + k1 * 3 + 2 = off + k2 * 3 := by omega
          have y21 : ¬ off + k1 * 3 + 2 = off + k2 * 3 + 1 := by omega
          have y22 : ¬ off + k1 * 3 + 2 = off + k2 * 3 + 2 := by omega
          have HG := Lib.hid (And.intro hg (And.intro ax (And.intro az (And.intro hF (And.intro hz (And.intro hq (And.intro hk (And.intro hk2 (And.intro hlt (And.intro hkm hq2))))))))))
          obtain ⟨xd, xk, xv⟩ := x
          obtain ⟨zd, zk, zv⟩ := z
          simp only at a0 a1 a2 b0 b1 b2
          clear hg ax az hF hz hr et hq hk hk2 hlt hkm hq2
          go_wp2_with fail
          clear h5
          go_big_region
          all_goals go_wp2_with fail
          obtain ⟨hg, ax, az, hF, hz, hq, hk, hk2, hlt, hkm, hq2⟩ := HG.out
          refine ⟨⟨k1, q, by first | rfl | (congr 1; omega), by omega, by omega, by omega, Lib.hid ?_⟩, by simp only [RowKit.intOf]; omega⟩
          have hst := hg.swap HB.out ax az
          have e := swpL_down (P ++ Y.take q) (Y.drop (q + 1) ++ S) ⟨xd, xk, xv⟩ ⟨zd, zk, zv⟩
          rw [hF, hk2] at e
          rw [e] at hst
          have ed : Y.drop q = ⟨zd, zk, zv⟩ :: Y.drop (q + 1) := by
            rw [← List.getElem_cons_drop (h := (List.getElem?_eq_some_iff.1 hz).1), (List.getElem?_eq_some_iff.1 hz).2]
          rw [ed]
          simpa [putE] using hst
        · have h5 : ¬ (i1 : Int) < (k2 : Int) := by omega
          have HQ := Lib.hid (And.intro hq (And.intro hk hlt))
          clear hq hk hlt
          go_wp2_with fail
          go_end0
          obtain ⟨hq, hk, hlt⟩ := HQ.out
          obtain ⟨hv, hvl, _, s2, s3⟩ := HS.out
          obtain rfl : q2 = v := by omega
          have hYs : Asc (Y.take q2 ++ Y.drop q2) := by rw [List.take_append_drop]; exact HY.out
          have m1 : ∀ z ∈ Y.take q2, ¬ kO x < kO z := fun z hz => by
            obtain ⟨t, ht, e⟩ := mem_take_at hz
            exact s2 t z (by omega) e
          have m2 : ∀ z ∈ Y.drop q2, kO x < kO z := fun z hz => by
            obtain ⟨t, ht, _, e⟩ := mem_drop_at hz
            exact s3 t z (by omega) e
          refine ⟨rfl, Y.take q2 ++ x :: Y.drop q2, asc_mid hYs m1 (fun z hz h => List.lt_irrefl _ (List.lt_trans h (m2 z hz))), ?_, by simp; omega, by simpa using hr.out⟩
          exact same_in m2 (by rw [List.take_append_drop]; exact Same.refl _)

end Go.Proofs.Ytabmjjicplomlaa

namespace Go.Proofs.Ytabmjjicplomlaa
open Go.RowKit Go.Lib Go.Sort

/-- The two parts can be merged, whatever stands around them, as long as they are no more than N ops. -/
def Merges (w0 : World) (blk off n cap N : Nat) : Prop := ∀ (P A B S : List Opm) (W : World) (m b : Nat), Asc A → Asc B → 0 < A.length → 0 < B.length → A.length + B.length ≤ N → P.length + A.length = m → m + B.length = b → Srts w0 blk off n (P ++ A ++ B ++ S) W →
  Calls Try.prog 64 #[.slice (some ⟨blk, off, none⟩) n cap, .int .i64 (P.length : Nat), .int .i64 (m : Nat), .int .i64 (b : Nat), cmpF] W (Sorted1 w0 blk off n P (A ++ B) S)

/-- Where the search has ended: what stands ahead is not greater than what stands behind. -/
structure Parted (A B A1 A2 B1 B2 : List Opm) : Prop where
  a : A = A1 ++ A2
  b : B = B1 ++ B2
  lt : ∀ x ∈ A2, ∀ y ∈ B1, kO y < kO x
  le : ∀ x ∈ A1, ∀ y ∈ B2, ¬ kO y < kO x

theorem parted {A B : List Opm} (hA : Asc A) (hB : Asc B) {h u s0 r0 : Nat} (hu : u ≤ h) (h0 : s0 ≤ u) (hr : u ≤ r0) (hr0 : r0 = h ∨ r0 = A.length) (hs0 : s0 = 0 ∨ s0 + B.length = h) (hrA : r0 ≤ A.length) (hsB : h ≤ s0 + B.length)
    (h1 : ∀ t x y, s0 ≤ t → t < u → A[t]? = some x → B[h - 1 - t]? = some y → ¬ kO y < kO x) (h2 : ∀ t x y, u ≤ t → t < r0 → A[t]? = some x → B[h - 1 - t]? = some y → kO y < kO x) :
    Parted A B (A.take u) (A.drop u) (B.take (h - u)) (B.drop (h - u)) where
  a := (List.take_append_drop _ _).symm
  b := (List.take_append_drop _ _).symm
  lt := fun x hx y hy => by
    obtain ⟨i, hi, hiA, ex⟩ := mem_drop_at hx
    obtain ⟨j, hj, ey⟩ := mem_take_at hy
    have hur : u < r0 := by omega
    obtain ⟨xa, hxa⟩ : ∃ z, A[u]? = some z := ⟨_, List.getElem?_eq_getElem (by omega)⟩
    have hjB := (List.getElem?_eq_some_iff.1 ey).1
    by_cases hB1 : h - 1 - u < B.length
    · obtain ⟨yb, hyb⟩ : ∃ z, B[h - 1 - u]? = some z := ⟨_, List.getElem?_eq_getElem hB1⟩
      exact key_lt_of (Asc.at hB (show j ≤ h - 1 - u by omega) ey hyb) (key_lt_of' (h2 u xa yb (Nat.le_refl _) hur hxa hyb) (Asc.at hA hi hxa ex))
    · omega
  le := fun x hx y hy => by
    obtain ⟨i, hi, ex⟩ := mem_take_at hx
    obtain ⟨j, hj, hjB, ey⟩ := mem_drop_at hy
    have hiA := (List.getElem?_eq_some_iff.1 ex).1
    have hsu : s0 < u := by omega
    obtain ⟨xa, hxa⟩ : ∃ z, A[u - 1]? = some z := ⟨_, List.getElem?_eq_getElem (by omega)⟩
    obtain ⟨yb, hyb⟩ : ∃ z, B[h - 1 - (u - 1)]? = some z := ⟨_, List.getElem?_eq_getElem (by omega)⟩
    exact key_nlt_trans (Asc.at hA (show i ≤ u - 1 by omega) ex hxa) (key_nlt_trans (h1 (u - 1) xa yb (by omega) (by omega) hxa hyb) (Asc.at hB (show h - 1 - (u - 1) ≤ j by omega) hyb ey))

/-- Both halves merged: the whole is. -/
theorem parted_done {A B A1 A2 B1 B2 L R : List Opm} (hA : Asc A) (hB : Asc B) (p : Parted A B A1 A2 B1 B2) (hL : Asc L) (sL : Same (A1 ++ B1) L) (hR : Asc R) (sR : Same (A2 ++ B2) R) : Asc (L ++ R) ∧ Same (A ++ B) (L ++ R) := by
  obtain ⟨rfl, rfl, lt, le⟩ := p
  refine ⟨Asc.app hL hR fun x hx y hy => ?_, ?_⟩
  · rcases List.mem_append.1 (sL.symm.mem hx) with hx | hx <;> rcases List.mem_append.1 (sR.symm.mem hy) with hy | hy
    · exact Asc.cross hA x hx y hy
    · exact le x hx y hy
    · exact fun h => List.lt_irrefl _ (List.lt_trans h (lt y hy x hx))
    · exact Asc.cross hB x hx y hy
  · refine Same.trans ?_ (sL.app sR)
    have := ((Same.refl A1).app (same_turn lt)).app (Same.refl B2)
    simpa using this

end Go.Proofs.Ytabmjjicplomlaa
