/- BatchEnds, walked. Numbers and types by name. -/
import Derived.Test.YtgpacbmiliefiaaDoorCub
namespace Go.Proofs.YtgpacbmiliefiaaDoor
open Go.RowKit Go.Lib

theorem what_bad (d : Nat) (hd : 0 < d) (h9 : d < 1000) : what (99 :: enc [txt (digs d)]) 0 = .stop := by
  unfold what
  have h : bulk [txt (digs d)] ≤ 100000 := by
    have := digs_length 8 d (by omega)
    have e : (txt (digs d)).size = (digs d).length := by simp [txt, ByteArray.size]
    simp only [bulk, List.map_cons, List.map_nil, List.sum_cons, List.sum_nil]; omega
  simp only
  rw [dec_enc _ h]
  have hne : ¬ txt (digs d) = txt (digs 0) := by
    intro e
    have e2 : digs d = digs 0 := by
      have := congrArg (fun b : ByteArray => b.data.toList) e
      simpa [txt] using this
    have := digs_inj _ _ e2
    omega
  simp [isWhat, hne]
theorem what_x : what [120] 0 = .stop := by kernel_rfl

/-- What is played behind an end that is none. -/
theorem play_ends {A B : List Opm} {bad : List UInt8} (ha : small A) (hb : what bad 0 = .stop) : play (recs A ++ [bad] ++ recs B) 0 [] [] 0 = ([A], A.length + 1) := by
  rw [List.append_assoc, play_recs A ha.1 ha.2, List.singleton_append, play_stop (by exact hb)]
  simp
theorem play_two {A B : List Opm} (ha : small A) (hb : small B) : play (recs A ++ recs B) 0 [] [] 0 = ([A, B], A.length + B.length + 2) := by
  rw [play_recs A ha.1 ha.2]
  have := play_recs B hb.1 hb.2 [] (0 + A.length + 1) ([] ++ [A]) (0 + A.length + 1)
  rw [List.append_nil] at this
  rw [this]
  simp only [play, List.nil_append, List.singleton_append, Prod.mk.injEq, true_and]
  omega
theorem recs_length (L : List Opm) : (recs L).length = L.length + 1 := by simp [recs]

theorem elemRows : Elem 23 26 (.slice none 0 0) 1 24 := ⟨Tryd.underlying23, by kernel_rfl, by decide, by decide⟩

/-- append to what is full: new memory. -/
theorem wpList_append_fresh {ops : Array Oper} {rest : List Oper} {o : Oper} {a : Act} {w : World} {Q : Exit → Act → World → Prop} (hgd : o.guard = none) (s x : Operand)
    (ho : o.op = .call { callee := .builtin .append, args := #[s, x], argTypes := #[26, 26] })
    (ao : Option Addr) (n : Nat) (l : List UInt8) (hs : a.eval s = .slice ao n n) (hr0 : Reads w (.slice ao n n) (bv l)) (vb : Value) (m : Nat) (k : List UInt8) (hm : m = k.length) (hx : a.eval x = vb) (hr : Reads w vb (bv k)) (h0 : 0 < m)
    (p : Nat) (hp : p = n + m) (h63 : Hid (p ≤ 1000000))
    (h : ∀ ao c w', Bs w' w.heap.size (.slice ao p c) p (l ++ k) → Grow w w' → wpList Tryd.prog ops Q rest (a.put o.dst (.slice ao p c)) w') : wpList Tryd.prog ops Q (o :: rest) a w := by
  subst hp
  obtain ⟨i0, hi, hz0, hz1, hz2⟩ := info_parts info_byte
  have hb := h63.out
  obtain ⟨ad, c, rfl⟩ : ∃ ad c, vb = .slice (some ad) m c := by
    obtain ⟨ao', c', rfl, _, hn, _⟩ := hr
    cases ao' with
    | none => have h2 := (hn rfl).1; have h3 : (bv k).length = 0 := by rw [h2]; rfl
              rw [bv_length] at h3; omega
    | some ad => exact ⟨ad, c', by rw [bv_length, hm]⟩
  obtain ⟨ao1, c1, e1, f1, f2, f3⟩ := hr0
  simp only [Value.slice.injEq] at e1
  obtain ⟨rfl, hn1, rfl⟩ := e1
  obtain ⟨ao2, c2, e2, g1, g2, g3⟩ := hr
  simp only [Value.slice.injEq] at e2
  obtain ⟨rfl, hn2, rfl⟩ := e2
  have hl1 := bv_length l
  refine wpList_append_grows w hgd s x 26 ho 5 i0 (.int .u8 0) 1 1 Tryd.underlying26 hi hz0 hz1 hz2 rfl (by decide) ao n n (bv l) hs (fun e => ⟨by rw [hn1, (f2 e).1]; rfl, (f2 e).2⟩) (by omega) (fun b e => f3 b e) ad m c (bv k) hx (by rw [bv_length]; omega) (g3 ad rfl) (bv_one k) (by omega) (by unfold maxLen; omega) (by omega) (fun v' w' hown hg => ?_)
  obtain ⟨ao3, c3, rfl⟩ := owns_shape hown
  refine h ao3 c3 w' ⟨by rw [List.length_append]; omega, ?_⟩ (below_none hg (Nat.le_refl _))
  simpa [bv] using hown

theorem one_cell_slice (ao : Option Addr) (n c : Nat) : ∀ u ∈ [Value.slice ao n c], u.oneCell' = true := by
  intro u hu; simp only [List.mem_singleton] at hu; subst hu; rfl

set_option maxHeartbeats 4000000 in
theorem ends_batch (v1 v2 : Value) (n m qn qh : Nat) (A B : List Opm) (w : World) (h1 : Opr w v1 n A) (h2 : Opr w v2 m B) (ht : Tab w) (hqn : qn < 256) (hqh : qh < 256) :
    Calls Tryd.prog 6 #[v1, v2, .int .u8 (qn : Int), .int .u8 (qh : Int)] w fun e w' => e = .returned (.bool true) ∧ Below w.heap.size w w' := by
  obtain ⟨a1, c1, rfl⟩ := h1.shape
  obtain ⟨a2, c2, rfl⟩ := h2.shape
  have H1 := Lib.hid h1
  have H2 := Lib.hid h2
  have HTB := Lib.hid ht
  have hn9 := h1.2.1
  unfold maxLen at hn9
  clear h1 h2 ht
  go_enter Tryd.func6, Tryd.ntmps6
  go_wp2_with fail
  refine (great_ops _ n A w H1.out).mono ?_
  rintro e w1 ⟨g, q, rfl, hw1, hb⟩
  have B1 := Lib.hid (show Below w.heap.size w w1 by rw [hw1]; exact below_drewN (Below.refl _ w) q)
  cases g with
  | true =>
    clear hb hw1
    go_wp2_with (go_at_call 8; refine (awake_batch _ (HTB.out.later B1.out)).mono ?_; rintro e w' ⟨rfl, hb9⟩)
    go_ret
    exact ⟨rfl, B1.out.trans (hb9.mono B1.out.size)⟩
  | false =>
  have HA := Lib.hid (hb rfl)
  clear hb hw1
  go_wp2_with fail
  refine (great_ops _ m B w1 (H2.out.later B1.out)).mono ?_
  rintro e w2 ⟨g, q, rfl, hw2, hb⟩
  have B2 := Lib.hid (B1.out.trans (show Below w.heap.size w1 w2 by rw [hw2]; exact below_drewN (Below.refl _ w1) q))
  cases g with
  | true =>
    clear hb hw2
    go_wp2_with (go_at_call 8; refine (awake_batch _ (HTB.out.later B2.out)).mono ?_; rintro e w' ⟨rfl, hb9⟩)
    go_ret
    exact ⟨rfl, B2.out.trans (hb9.mono B2.out.size)⟩
  | false =>
  have HB := Lib.hid (hb rfl)
  clear hb hw2
  have R1 := (right_ref _ n A w2 (H1.out.later B2.out)).mono fun e w' h => And.intro h.1 h.2.symm
  have R2 := (right_ref _ m B w2 (H2.out.later B2.out)).mono fun e w' h => And.intro h.1 h.2.symm
  cases oa : okOps A with
  | false =>
    rw [oa] at R1
    clear oa R2
    go_wp2_with (first | (go_at_call 14; refine R1.mono ?_; rintro e w' ⟨rfl, rfl⟩) | (go_at_call 8; refine (awake_batch _ (HTB.out.later B2.out)).mono ?_; rintro e w' ⟨rfl, hb9⟩))
    go_ret
    exact ⟨rfl, B2.out.trans (hb9.mono B2.out.size)⟩
  | true =>
  cases ob : okOps B with
  | false =>
    rw [oa] at R1
    rw [ob] at R2
    clear oa ob
    go_wp2_with (first | (go_at_call 14; (first | ((with_reducible refine R1.mono ?_); rintro e w' ⟨rfl, rfl⟩) | ((with_reducible refine R2.mono ?_); rintro e w' ⟨rfl, rfl⟩))) | (go_at_call 8; refine (awake_batch _ (HTB.out.later B2.out)).mono ?_; rintro e w' ⟨rfl, hb9⟩))
    go_ret
    exact ⟨rfl, B2.out.trans (hb9.mono B2.out.size)⟩
  | true =>
  rw [oa] at R1
  rw [ob] at R2
  have HOK := Lib.hid (And.intro oa ob)
  clear oa ob
  by_cases b3 : 200 < n
  · have d3 : (200 : Int) < (n : Int) := by omega
    go_wp2_with (first | (go_at_call 14; (first | ((with_reducible refine R1.mono ?_); rintro e w' ⟨rfl, rfl⟩) | ((with_reducible refine R2.mono ?_); rintro e w' ⟨rfl, rfl⟩))) | (go_at_call 8; refine (awake_batch _ (HTB.out.later B2.out)).mono ?_; rintro e w' ⟨rfl, hb9⟩))
    go_ret
    exact ⟨rfl, B2.out.trans (hb9.mono B2.out.size)⟩
  have d3 : ¬ (200 : Int) < (n : Int) := by omega
  go_wp2_with (first | (go_at_call 14; (first | ((with_reducible refine R1.mono ?_); rintro e w' ⟨rfl, rfl⟩) | ((with_reducible refine R2.mono ?_); rintro e w' ⟨rfl, rfl⟩))))
  clear R1 R2
  refine (batch_any _ n A w2 (H1.out.later B2.out) (HTB.out.later B2.out) HOK.out.1 HA.out).mono ?_
  rintro e w3 ⟨ax, mx, cx, rfl, hx, hb3⟩
  have B3 := Lib.hid (B2.out.trans (hb3.mono B2.out.size))
  have HX := Lib.hid hx
  clear hx hb3
  go_wp2_with fail
  refine (batch_any _ m B w3 (H2.out.later B3.out) (HTB.out.later B3.out) HOK.out.2 HB.out).mono ?_
  rintro e w4 ⟨ay, my, cy, rfl, hy, hb4⟩
  have B4 := Lib.hid (B3.out.trans (hb4.mono B3.out.size))
  have RX4 := Lib.hid (HX.out.reads.later hb4)
  have RY4 := Lib.hid hy.reads
  have HMX := Lib.hid HX.out.1
  have HMY := Lib.hid hy.1
  have hmx := recs_frms HA.out
  have hmy := recs_frms HB.out
  rw [← HMX.out] at hmx
  rw [← HMY.out] at hmy
  clear hy hb4 HX
  go_wp2_with (go_at_call 15; refine (num_code _ _).mono ?_; rintro e w' ⟨rfl, rfl⟩)
  refine (ref_scan _ mx _ w4 RX4.out HMX.out (Lib.hid (by omega))).mono ?_
  rintro e w5 ⟨hb5, l, n5, al, cl, hsc, hn5, rfl, ho⟩
  obtain ⟨rfl, _⟩ := scans_all (fun p hp => by have := recs_short HA.out p hp; omega) hsc
  have hlA : (recs A).length ≤ 5001 := by rw [recs_length]; have := bulkO_length A; have := HA.out; omega
  obtain ⟨p, hp⟩ : ∃ p, p = (recs A).length := ⟨_, rfl⟩
  rw [← hp] at ho hlA ⊢
  have HP := Lib.hid hp
  have HRA := Lib.hid (ho.rows (by unfold maxLen; omega))
  have B5 := Lib.hid (B4.out.trans (hb5.mono B4.out.size))
  have RY5 := Lib.hid (RY4.out.later hb5)
  clear hb5 hsc hn5 ho hp
  go_wp2_with fail
  refine (ref_scan _ my _ w5 RY5.out HMY.out (Lib.hid (by omega))).mono ?_
  rintro e w6 ⟨hb6, l, n6, am, cm, hsc, hn6, rfl, ho⟩
  obtain ⟨rfl, _⟩ := scans_all (fun p hp => by have := recs_short HB.out p hp; omega) hsc
  have hlB : (recs B).length ≤ 5001 := by rw [recs_length]; have := bulkO_length B; have := HB.out; omega
  obtain ⟨q', hq'⟩ : ∃ q', q' = (recs B).length := ⟨_, rfl⟩
  rw [← hq'] at ho hlB ⊢
  have HQ := Lib.hid hq'
  have HRB := Lib.hid (ho.rows (by unfold maxLen; omega))
  have HRA6 := Lib.hid (HRA.out.later hb6)
  have B6 := Lib.hid (B5.out.trans (hb6.mono B5.out.size))
  clear hb6 hsc hn6 ho hq' RX4 RY4 RY5 HMX HMY hmx hmy HRA
  have kc := fun (w : World) (C : Array Value) (n c : Nat) => Lib.run_convert_bytes_const (P := Tryd.prog) w 26 5 C n c Tryd.underlying26 Tryd.underlying5
  obtain ⟨va, hva1, hva2, hva3⟩ := HRA6.out.vals
  obtain ⟨vb, hvb1, hvb2, hvb3⟩ := HRB.out.vals
  have HVA := Lib.hid (And.intro hva1 (And.intro hva2 hva3))
  have HVB := Lib.hid (And.intro hvb1 (And.intro hvb2 hvb3))
  have FP := Lib.hid (show p ≤ 1000000 by omega)
  have FP1 := Lib.hid (show p + 1 ≤ 1000000 by omega)
  have FPQ := Lib.hid (show p + 1 + q' ≤ 1000000 by omega)
  clear hva1 hva2 hva3 hvb1 hvb2 hvb3
  have hcase : (qh : Int) % 3 = 0 ∨ (qh : Int) % 3 = 1 ∨ (qh : Int) % 3 = 2 := by omega
  rcases hcase with hm | hm | hm
  case' inl =>
    have GW : Hid (Grow w6 (w6.alloc (.cells #[.int .u8 120] 5 (1, 2)))) := Lib.hid ((Below.refl _ w6).alloc (Nat.le_refl _) _)
    have RB : Hid (Reads (w6.alloc (.cells #[.int .u8 120] 5 (1, 2))) (Value.slice (some ⟨w6.heap.size, 0, none⟩) 1 1) (bv [120])) := Lib.hid (Reads.lit w6 (bv [120]) 5 (1, 2) 1 rfl)
    have HBD : Hid (([120] : List UInt8).length = 1 ∧ what [120] 0 = .stop ∧ ([120] : List UInt8).length ≤ 100) := Lib.hid ⟨rfl, what_x, by decide⟩
    go_wp2_with (first | (at_builtin; refine wpList_append_gen elemRows rfl (.tmp 92) (.tmp 93) rfl (w6.alloc (.cells #[.int .u8 120] 5 (1, 2))).heap.size _ 0 [] rfl (own_empty (w6.alloc (.cells #[.int .u8 120] 5 (1, 2))) _ _ 1 _ (by simp) (Nat.le_refl _)) (.slice al p cl) p va rfl (by rw [← HVA.out.2.1]; exact Cells.of_reads (by rw [HVA.out.2.1]; exact HVA.out.1.later (Grow.trans GW.out ((Below.refl _ _).alloc (Nat.le_refl _) _)))) HVA.out.2.2.one p (Nat.zero_add p).symm FP (by decide) (by simp) ?_; intro aoP cP wP hownP hbP hgP hoP) | (at_builtin; refine wpList_append_gen elemRows rfl (.tmp 95) (.tmp 97) rfl (w6.alloc (.cells #[.int .u8 120] 5 (1, 2))).heap.size _ p _ rfl (hownP.alloc _) _ 1 [Value.slice (some ⟨w6.heap.size, 0, none⟩) 1 1] rfl (Cells.lit wP [Value.slice (some ⟨w6.heap.size, 0, none⟩) 1 1] 26 (0, 0) 1 1 rfl) (one_cell_slice _ _ _) (p + 1) rfl FP1 (by decide) (Nat.le_trans (Nat.le_trans (by simp) hbP.size) (by simp)) ?_; intro aoQ cQ wQ hownQ hbQ hgQ hoQ) | (at_builtin; refine wpList_append_gen elemRows rfl (.tmp 99) (.tmp 100) rfl (w6.alloc (.cells #[.int .u8 120] 5 (1, 2))).heap.size _ (p + 1) _ rfl hownQ (.slice am q' cm) q' vb rfl (by rw [← HVB.out.2.1]; exact Cells.of_reads (by rw [HVB.out.2.1]; exact HVB.out.1.later (Below.trans (show Below w6.heap.size w6 (w6.alloc (.cells #[.int .u8 120] 5 (1, 2))) from GW.out) ((((((Below.refl _ (w6.alloc (.cells #[.int .u8 120] 5 (1, 2)))).alloc (Nat.le_refl _) _).trans hbP).trans ((Below.refl _ wP).alloc (Nat.le_trans (by simp) hbP.size) _)).trans hbQ).mono GW.out.size)))) HVB.out.2.2.one (p + 1 + q') rfl FPQ (by decide) (Nat.le_trans (Nat.le_trans (Nat.le_trans (Nat.le_trans (by simp) hbP.size) (by simp)) hbQ.size) (by simp)) ?_; intro aoR cR wR hownR hbR hgR hoR))
    have GR : Hid (Below (w6.alloc (.cells #[.int .u8 120] 5 (1, 2))).heap.size (w6.alloc (.cells #[.int .u8 120] 5 (1, 2))) wR) := Lib.hid ((((((Below.refl _ (w6.alloc (.cells #[.int .u8 120] 5 (1, 2)))).alloc (Nat.le_refl _) _).trans hbP).trans ((Below.refl _ wP).alloc (Nat.le_trans (by simp) hbP.size) _)).trans hbQ).trans hbR)
    have G6 : Hid (Grow w6 wR) := Lib.hid (Below.trans (show Below w6.heap.size w6 (w6.alloc (.cells #[.int .u8 120] 5 (1, 2))) from GW.out) (GR.out.mono GW.out.size))
    obtain ⟨bad, hbad⟩ : ∃ bad : List UInt8, bad = [120] := ⟨_, rfl⟩
    have VR : Vals wR ([] ++ va ++ [Value.slice (some ⟨w6.heap.size, 0, none⟩) 1 1] ++ vb) (recs A ++ [bad] ++ recs B) := by
      rw [List.nil_append]
      refine ((HVA.out.2.2.later G6.out).append ?_).append (HVB.out.2.2.later G6.out)
      refine ⟨rfl, fun j p' hj => ?_⟩
      have hj0 := (List.getElem?_eq_some_iff.1 hj).1
      simp only [List.length_singleton] at hj0
      obtain rfl : j = 0 := by omega
      obtain rfl : bad = p' := by simpa using hj
      exact ⟨_, _, by rw [hbad, HBD.out.1]; rfl, by rw [hbad]; have := RB.out.later GR.out; rw [← HBD.out.1] at this; exact this, by rw [hbad]; have := HBD.out.2.2; unfold maxLen; omega⟩
    have hlenR : ([] ++ va ++ [Value.slice (some ⟨w6.heap.size, 0, none⟩) 1 1] ++ vb).length = p + 1 + q' := by rw [List.length_append, List.length_append, List.nil_append, HVA.out.2.1, HVB.out.2.1, List.length_singleton]
    have HT : Hid (Rws wR (.slice aoR (p + 1 + q') cR) (p + 1 + q') (recs A ++ [bad] ++ recs B)) := Lib.hid (Rws.of_vals (vs := [] ++ va ++ [Value.slice (some ⟨w6.heap.size, 0, none⟩) 1 1] ++ vb) (by have h : wR.ownsRow (w6.alloc (.cells #[.int .u8 120] 5 (1, 2))).heap.size 26 1 (.slice aoR (p + 1 + q') cR) (p + 1 + q') ([] ++ va ++ [Value.slice (some ⟨w6.heap.size, 0, none⟩) 1 1] ++ vb) := hownR; rw [← hlenR] at h ⊢; exact Reads.own h) hlenR VR (by have := FPQ.out; unfold maxLen; omega))
    have HBB : Hid (what bad 0 = .stop ∧ bad.length ≤ 100) := Lib.hid ⟨by rw [hbad]; exact HBD.out.2.1, by rw [hbad]; exact HBD.out.2.2⟩
    clear VR hbad hlenR hownP hbP hgP hoP hownQ hbQ hgQ hoQ hownR hbR hgR hoR GR GW HBD RB
  case' inr.inl =>
    have GW : Hid (Grow w6 (w6.alloc (.cells #[.int .u8 120] 5 (1, 2)))) := Lib.hid ((Below.refl _ w6).alloc (Nat.le_refl _) _)
    have RB : Hid (Reads (w6.alloc (.cells #[.int .u8 120] 5 (1, 2))) (Value.slice none 0 0) (bv [])) := Lib.hid (Reads.nil _)
    have HBD : Hid (([] : List UInt8).length = 0 ∧ what [] 0 = .stop ∧ ([] : List UInt8).length ≤ 100) := Lib.hid ⟨rfl, rfl, by decide⟩
    go_wp2_with (first | (at_builtin; refine wpList_append_gen elemRows rfl (.tmp 92) (.tmp 93) rfl (w6.alloc (.cells #[.int .u8 120] 5 (1, 2))).heap.size _ 0 [] rfl (own_empty (w6.alloc (.cells #[.int .u8 120] 5 (1, 2))) _ _ 1 _ (by simp) (Nat.le_refl _)) (.slice al p cl) p va rfl (by rw [← HVA.out.2.1]; exact Cells.of_reads (by rw [HVA.out.2.1]; exact HVA.out.1.later (Grow.trans GW.out ((Below.refl _ _).alloc (Nat.le_refl _) _)))) HVA.out.2.2.one p (Nat.zero_add p).symm FP (by decide) (by simp) ?_; intro aoP cP wP hownP hbP hgP hoP) | (at_builtin; refine wpList_append_gen elemRows rfl (.tmp 95) (.tmp 97) rfl (w6.alloc (.cells #[.int .u8 120] 5 (1, 2))).heap.size _ p _ rfl (hownP.alloc _) _ 1 [Value.slice none 0 0] rfl (Cells.lit wP [Value.slice none 0 0] 26 (0, 0) 1 1 rfl) (one_cell_slice _ _ _) (p + 1) rfl FP1 (by decide) (Nat.le_trans (Nat.le_trans (by simp) hbP.size) (by simp)) ?_; intro aoQ cQ wQ hownQ hbQ hgQ hoQ) | (at_builtin; refine wpList_append_gen elemRows rfl (.tmp 99) (.tmp 100) rfl (w6.alloc (.cells #[.int .u8 120] 5 (1, 2))).heap.size _ (p + 1) _ rfl hownQ (.slice am q' cm) q' vb rfl (by rw [← HVB.out.2.1]; exact Cells.of_reads (by rw [HVB.out.2.1]; exact HVB.out.1.later (Below.trans (show Below w6.heap.size w6 (w6.alloc (.cells #[.int .u8 120] 5 (1, 2))) from GW.out) ((((((Below.refl _ (w6.alloc (.cells #[.int .u8 120] 5 (1, 2)))).alloc (Nat.le_refl _) _).trans hbP).trans ((Below.refl _ wP).alloc (Nat.le_trans (by simp) hbP.size) _)).trans hbQ).mono GW.out.size)))) HVB.out.2.2.one (p + 1 + q') rfl FPQ (by decide) (Nat.le_trans (Nat.le_trans (Nat.le_trans (Nat.le_trans (by simp) hbP.size) (by simp)) hbQ.size) (by simp)) ?_; intro aoR cR wR hownR hbR hgR hoR))
    have GR : Hid (Below (w6.alloc (.cells #[.int .u8 120] 5 (1, 2))).heap.size (w6.alloc (.cells #[.int .u8 120] 5 (1, 2))) wR) := Lib.hid ((((((Below.refl _ (w6.alloc (.cells #[.int .u8 120] 5 (1, 2)))).alloc (Nat.le_refl _) _).trans hbP).trans ((Below.refl _ wP).alloc (Nat.le_trans (by simp) hbP.size) _)).trans hbQ).trans hbR)
    have G6 : Hid (Grow w6 wR) := Lib.hid (Below.trans (show Below w6.heap.size w6 (w6.alloc (.cells #[.int .u8 120] 5 (1, 2))) from GW.out) (GR.out.mono GW.out.size))
    obtain ⟨bad, hbad⟩ : ∃ bad : List UInt8, bad = [] := ⟨_, rfl⟩
    have VR : Vals wR ([] ++ va ++ [Value.slice none 0 0] ++ vb) (recs A ++ [bad] ++ recs B) := by
      rw [List.nil_append]
      refine ((HVA.out.2.2.later G6.out).append ?_).append (HVB.out.2.2.later G6.out)
      refine ⟨rfl, fun j p' hj => ?_⟩
      have hj0 := (List.getElem?_eq_some_iff.1 hj).1
      simp only [List.length_singleton] at hj0
      obtain rfl : j = 0 := by omega
      obtain rfl : bad = p' := by simpa using hj
      exact ⟨_, _, by rw [hbad, HBD.out.1]; rfl, by rw [hbad]; have := RB.out.later GR.out; rw [← HBD.out.1] at this; exact this, by rw [hbad]; have := HBD.out.2.2; unfold maxLen; omega⟩
    have hlenR : ([] ++ va ++ [Value.slice none 0 0] ++ vb).length = p + 1 + q' := by rw [List.length_append, List.length_append, List.nil_append, HVA.out.2.1, HVB.out.2.1, List.length_singleton]
    have HT : Hid (Rws wR (.slice aoR (p + 1 + q') cR) (p + 1 + q') (recs A ++ [bad] ++ recs B)) := Lib.hid (Rws.of_vals (vs := [] ++ va ++ [Value.slice none 0 0] ++ vb) (by have h : wR.ownsRow (w6.alloc (.cells #[.int .u8 120] 5 (1, 2))).heap.size 26 1 (.slice aoR (p + 1 + q') cR) (p + 1 + q') ([] ++ va ++ [Value.slice none 0 0] ++ vb) := hownR; rw [← hlenR] at h ⊢; exact Reads.own h) hlenR VR (by have := FPQ.out; unfold maxLen; omega))
    have HBB : Hid (what bad 0 = .stop ∧ bad.length ≤ 100) := Lib.hid ⟨by rw [hbad]; exact HBD.out.2.1, by rw [hbad]; exact HBD.out.2.2⟩
    clear VR hbad hlenR hownP hbP hgP hoP hownQ hbQ hgQ hoQ hownR hbR hgR hoR GR GW HBD RB
  case' inr.inr =>
    have kc2 := kc (w6.alloc (.cells #[.int .u8 120] 5 (1, 2))) #[.int .u8 99] 1 1
    rw [show (w6.alloc (.cells #[.int .u8 120] 5 (1, 2))).heap.size = w6.heap.size + 1 by simp] at kc2
    obtain ⟨d, hd⟩ : ∃ d, d = 1 + qn := ⟨_, rfl⟩
    have ed : (1 : Int) + (qn : Int) = (d : Int) := by omega
    have HD := Lib.hid (show 0 < d ∧ d < 1000 by omega)
    clear hd
    go_wp2_with fail
    obtain ⟨X, hX⟩ : ∃ X, X = (w6.alloc (.cells #[.int .u8 120] 5 (1, 2))).alloc (.cells #[.int .u8 99] 5 (1, 2)) := ⟨_, rfl⟩
    rw [← hX]
    have GX : Hid (Grow w6 X) := Lib.hid (by rw [hX]; exact Grow.trans ((Below.refl _ w6).alloc (Nat.le_refl _) _) ((Below.refl _ _).alloc (Nat.le_refl _) _))
    have RX : Hid (Reads X (.slice (some ⟨w6.heap.size + 1, 0, none⟩) 1 1) (bv [99])) := Lib.hid (by
      have h := Reads.lit (w6.alloc (.cells #[.int .u8 120] 5 (1, 2))) (bv [99]) 5 (1, 2) 1 rfl
      rw [show (w6.alloc (.cells #[.int .u8 120] 5 (1, 2))).heap.size = w6.heap.size + 1 by simp] at h
      rw [hX]
      exact h)
    clear kc2 hX
    refine (digits_ref d X (by have := HD.out; omega)).mono ?_
    rintro e w7 ⟨rfl, hb7⟩
    have G7 := Lib.hid hb7
    have hdl := digs_length 8 d (by have := HD.out; omega)
    have hts : (txt (digs d)).size = (digs d).length := by simp [txt, ByteArray.size]
    clear hb7
    go_wp2_with fail
    refine (ref_encode _ 1 [txt (digs d)] _ (Texts.lit w7 [txt (digs d)] (0, 0) 1 rfl (by unfold maxLen; omega) (fun s hs => by rw [List.mem_singleton.1 hs]; unfold maxLen; omega)) (by simp only [bulk, List.map_cons, List.map_nil, List.sum_cons, List.sum_nil]; omega)).mono ?_
    rintro e w8 ⟨a8, c8, rfl, h8, hb8⟩
    have hel := enc1_length (txt (digs d))
    have G8 : Hid (Grow X w8) := Lib.hid (Grow.trans G7.out (Grow.trans ((Below.refl _ w7).alloc (Nat.le_refl _) (.cells (sv [txt (digs d)]).toArray 9)) hb8))
    obtain ⟨qe, hqe⟩ : ∃ qe, qe = (enc [txt (digs d)]).length := ⟨_, rfl⟩
    have HQE := Lib.hid hqe
    have hqe9 : qe ≤ 50 ∧ 0 < qe := by omega
    rw [← hqe] at h8 ⊢
    have R8 := Lib.hid h8.reads
    have F9 := Lib.hid (show 1 + qe ≤ 1000000 by omega)
    clear h8 hb8 hel hdl hts hqe
    go_wp2_with (first | (at_builtin; refine wpList_append_fresh rfl (.tmp 84) (.tmp 90) rfl (some ⟨w6.heap.size + 1, 0, none⟩) 1 [99] rfl (RX.out.later G8.out) (.slice a8 qe c8) qe _ HQE.out rfl R8.out hqe9.2 (1 + qe) rfl F9 ?_; intro ao9 c9 w9 hown9 hg9; have GW : Hid (Grow w6 w9) := Lib.hid (Grow.trans GX.out (Grow.trans G8.out hg9))) | (at_builtin; refine wpList_append_gen elemRows rfl (.tmp 92) (.tmp 93) rfl (w9).heap.size _ 0 [] rfl (own_empty (w9) _ _ 1 _ rfl (Nat.le_refl _)) (.slice al p cl) p va rfl (by rw [← HVA.out.2.1]; exact Cells.of_reads (by rw [HVA.out.2.1]; exact HVA.out.1.later (Grow.trans GW.out ((Below.refl _ _).alloc (Nat.le_refl _) _)))) HVA.out.2.2.one p (Nat.zero_add p).symm FP (by decide) (by simp) ?_; intro aoP cP wP hownP hbP hgP hoP) | (at_builtin; refine wpList_append_gen elemRows rfl (.tmp 95) (.tmp 97) rfl (w9).heap.size _ p _ rfl (hownP.alloc _) _ 1 [Value.slice ao9 (1 + qe) c9] rfl (Cells.lit wP [Value.slice ao9 (1 + qe) c9] 26 (0, 0) 1 1 rfl) (one_cell_slice _ _ _) (p + 1) rfl FP1 (by decide) (Nat.le_trans (Nat.le_trans (by simp) hbP.size) (by simp)) ?_; intro aoQ cQ wQ hownQ hbQ hgQ hoQ) | (at_builtin; refine wpList_append_gen elemRows rfl (.tmp 99) (.tmp 100) rfl (w9).heap.size _ (p + 1) _ rfl hownQ (.slice am q' cm) q' vb rfl (by rw [← HVB.out.2.1]; exact Cells.of_reads (by rw [HVB.out.2.1]; exact HVB.out.1.later (Below.trans (show Below w6.heap.size w6 (w9) from GW.out) ((((((Below.refl _ (w9)).alloc (Nat.le_refl _) _).trans hbP).trans ((Below.refl _ wP).alloc (Nat.le_trans (by simp) hbP.size) _)).trans hbQ).mono GW.out.size)))) HVB.out.2.2.one (p + 1 + q') rfl FPQ (by decide) (Nat.le_trans (Nat.le_trans (Nat.le_trans (Nat.le_trans (by simp) hbP.size) (by simp)) hbQ.size) (by simp)) ?_; intro aoR cR wR hownR hbR hgR hoR))
    have RB : Hid (Reads w9 (.slice ao9 (1 + qe) c9) (bv (99 :: enc [txt (digs d)]))) := Lib.hid hown9.reads
    have HBD : Hid ((99 :: enc [txt (digs d)]).length = 1 + qe ∧ what (99 :: enc [txt (digs d)]) 0 = .stop ∧ (99 :: enc [txt (digs d)]).length ≤ 100) := Lib.hid ⟨by rw [List.length_cons, ← HQE.out]; omega, what_bad d HD.out.1 HD.out.2, by rw [List.length_cons, ← HQE.out]; omega⟩
    have GR : Hid (Below (w9).heap.size (w9) wR) := Lib.hid ((((((Below.refl _ (w9)).alloc (Nat.le_refl _) _).trans hbP).trans ((Below.refl _ wP).alloc (Nat.le_trans (by simp) hbP.size) _)).trans hbQ).trans hbR)
    have G6 : Hid (Grow w6 wR) := Lib.hid (Below.trans (show Below w6.heap.size w6 (w9) from GW.out) (GR.out.mono GW.out.size))
    obtain ⟨bad, hbad⟩ : ∃ bad : List UInt8, bad = 99 :: enc [txt (digs d)] := ⟨_, rfl⟩
    have VR : Vals wR ([] ++ va ++ [Value.slice ao9 (1 + qe) c9] ++ vb) (recs A ++ [bad] ++ recs B) := by
      rw [List.nil_append]
      refine ((HVA.out.2.2.later G6.out).append ?_).append (HVB.out.2.2.later G6.out)
      refine ⟨rfl, fun j p' hj => ?_⟩
      have hj0 := (List.getElem?_eq_some_iff.1 hj).1
      simp only [List.length_singleton] at hj0
      obtain rfl : j = 0 := by omega
      obtain rfl : bad = p' := by simpa using hj
      exact ⟨_, _, by rw [hbad, HBD.out.1]; rfl, by rw [hbad]; have := RB.out.later GR.out; rw [← HBD.out.1] at this; exact this, by rw [hbad]; have := HBD.out.2.2; unfold maxLen; omega⟩
    have hlenR : ([] ++ va ++ [Value.slice ao9 (1 + qe) c9] ++ vb).length = p + 1 + q' := by rw [List.length_append, List.length_append, List.nil_append, HVA.out.2.1, HVB.out.2.1, List.length_singleton]
    have HT : Hid (Rws wR (.slice aoR (p + 1 + q') cR) (p + 1 + q') (recs A ++ [bad] ++ recs B)) := Lib.hid (Rws.of_vals (vs := [] ++ va ++ [Value.slice ao9 (1 + qe) c9] ++ vb) (by have h : wR.ownsRow (w9).heap.size 26 1 (.slice aoR (p + 1 + q') cR) (p + 1 + q') ([] ++ va ++ [Value.slice ao9 (1 + qe) c9] ++ vb) := hownR; rw [← hlenR] at h ⊢; exact Reads.own h) hlenR VR (by have := FPQ.out; unfold maxLen; omega))
    have HBB : Hid (what bad 0 = .stop ∧ bad.length ≤ 100) := Lib.hid ⟨by rw [hbad]; exact HBD.out.2.1, by rw [hbad]; exact HBD.out.2.2⟩
    clear VR hbad hlenR hownP hbP hgP hoP hownQ hbQ hgQ hoQ hownR hbR hgR hoR GR GW HBD RB
  all_goals
    have hPQ := FPQ.out
    have hshort : ∀ p' ∈ recs A ++ [bad] ++ recs B, p'.length ≤ 2000000 := fun p' hp' => by
      simp only [List.mem_append, List.mem_singleton] at hp'
      rcases hp' with (h | h) | h
      · have := recs_short HA.out p' h; omega
      · rw [h]; have := HBB.out.2; omega
      · have := recs_short HB.out p' h; omega
    have HSH := Lib.hid hshort
    clear hshort kc
    refine (replay_any _ (p + 1 + q') _ wR HT.out (HTB.out.later (B6.out.trans (G6.out.mono B6.out.size))) (by omega)).mono ?_
    rintro e wS ⟨hbS, LL, u, ar, jr, cr, hpl, _, _, rfl, hL⟩
    rw [play_ends ⟨HA.out, HOK.out.1⟩ HBB.out.1] at hpl
    simp only [Prod.mk.injEq] at hpl
    obtain ⟨rfl, hu⟩ := hpl
    have hup : (u : Int) = (p : Int) := by have := HP.out; rw [recs_length] at this; omega
    have HL := Lib.hid hL
    have GS := Lib.hid (Grow.trans G6.out hbS)
    rw [hup]
    clear hL hbS hu hup HSH HT G6 HBB
    have FPQ2 := Lib.hid (show p + q' ≤ 1000000 by omega)
    go_wp2_with (first | (at_builtin; refine wpList_append_gen elemRows rfl (.tmp 107) (.tmp 108) rfl wS.heap.size _ 0 [] rfl (own_empty wS _ _ 1 _ rfl (Nat.le_refl _)) (.slice al p cl) p va rfl (by rw [← HVA.out.2.1]; exact Cells.of_reads (by rw [HVA.out.2.1]; exact HVA.out.1.later (Grow.trans GS.out ((Below.refl _ _).alloc (Nat.le_refl _) _)))) HVA.out.2.2.one p (Nat.zero_add p).symm FP (by decide) (by simp) ?_; intro aoP cP wP hownP hbP hgP hoP) | (at_builtin; refine wpList_append_gen elemRows rfl (.tmp 110) (.tmp 111) rfl wS.heap.size _ p _ rfl hownP (.slice am q' cm) q' vb rfl (by rw [← HVB.out.2.1]; exact Cells.of_reads (by rw [HVB.out.2.1]; exact HVB.out.1.later (Grow.trans GS.out (((Below.refl _ wS).alloc (Nat.le_refl _) _).trans hbP)))) HVB.out.2.2.one (p + q') rfl FPQ2 (by decide) (Nat.le_trans (by simp) hbP.size) ?_; intro aoQ cQ wQ hownQ hbQ hgQ hoQ))
    have GQ : Hid (Grow wS wQ) := Lib.hid ((((Below.refl _ wS).alloc (Nat.le_refl _) _).trans hbP).trans hbQ)
    have hlenQ : ([] ++ va ++ vb).length = p + q' := by rw [List.length_append, List.nil_append, HVA.out.2.1, HVB.out.2.1]
    have HT2 : Hid (Rws wQ (.slice aoQ (p + q') cQ) (p + q') (recs A ++ recs B)) := Lib.hid (Rws.of_vals (vs := [] ++ va ++ vb) (by have h : wQ.ownsRow wS.heap.size 26 1 (.slice aoQ (p + q') cQ) (p + q') ([] ++ va ++ vb) := hownQ; rw [← hlenQ] at h ⊢; exact Reads.own h) hlenQ (by rw [List.nil_append]; exact (HVA.out.2.2.later (Grow.trans GS.out GQ.out)).append (HVB.out.2.2.later (Grow.trans GS.out GQ.out))) (by unfold maxLen; omega))
    have HSH2 : Hid (∀ p' ∈ recs A ++ recs B, p'.length ≤ 2000000) := Lib.hid fun p' hp' => by
      rcases List.mem_append.1 hp' with h | h
      · have := recs_short HA.out p' h; omega
      · have := recs_short HB.out p' h; omega
    clear hlenQ hownP hbP hgP hoP hownQ hbQ hgQ hoQ
    refine (replay_any _ (p + q') _ wQ HT2.out (HTB.out.later (B6.out.trans ((Grow.trans GS.out GQ.out).mono B6.out.size))) (by omega)).mono ?_
    rintro e wT ⟨hbT, LL2, u2, asl, js, cs, hpl, _, _, rfl, hL2⟩
    rw [play_two ⟨HA.out, HOK.out.1⟩ ⟨HB.out, HOK.out.2⟩] at hpl
    simp only [Prod.mk.injEq] at hpl
    obtain ⟨rfl, hu2⟩ := hpl
    have hup2 : (u2 : Int) = (p : Int) + (q' : Int) := by have := HP.out; have := HQ.out; rw [recs_length] at *; omega
    rw [hup2]
    have hjr : jr = 1 := HL.out.1
    have hjs : js = 2 := hL2.1
    subst hjr hjs
    have GT := Lib.hid (Grow.trans GQ.out hbT)
    obtain ⟨a0, L0, ap0, cp0, rfl, e0, cc0, r0⟩ := (HL.out.later GT.out).at (k := 0) (by omega)
    obtain rfl : A = L0 := by simpa using e0
    rw [show a0.add 0 = a0 by simp [Addr.add]] at cc0
    have BT : Hid (Below w.heap.size w wT) := Lib.hid (B6.out.trans ((Grow.trans GS.out GT.out).mono B6.out.size))
    have S := same_ops_at _ _ _ _ A A wT wT r0 (H1.out.later BT.out) (Grow.refl _)
    rw [show decide (A = A) = true by simp] at S
    clear hL2 hbT e0 r0 hu2 hup2 HSH2 HT2
    generalize A.length = la at *
    go_wp2_with (first | (go_at_call 18; refine S.mono ?_; rintro e w' ⟨rfl, hgS⟩; clear S cc0) | (go_at_call 8; refine (awake_batch _ (HTB.out.later (BT.out.trans (hgS.mono BT.out.size)))).mono ?_; rintro e w' ⟨rfl, hb9⟩))
    go_ret
    exact ⟨rfl, BT.out.trans ((Grow.trans hgS hb9).mono BT.out.size)⟩

theorem ends_nat (v1 v2 : Value) (n m : Nat) (z c : Int) (A B : List Opm) (w : World) (h1 : Opr w v1 n A) (h2 : Opr w v2 m B) (ht : Tab w) (hz : 0 ≤ z ∧ z ≤ 255) (hc : 0 ≤ c ∧ c ≤ 255) :
    Calls Tryd.prog 6 #[v1, v2, .int .u8 z, .int .u8 c] w fun e w' => e = .returned (.bool true) ∧ Below w.heap.size w w' := by
  obtain ⟨q, rfl⟩ : ∃ q : Nat, z = (q : Int) := ⟨z.toNat, (Int.toNat_of_nonneg hz.1).symm⟩
  obtain ⟨r, rfl⟩ : ∃ r : Nat, c = (r : Int) := ⟨c.toNat, (Int.toNat_of_nonneg hc.1).symm⟩
  exact ends_batch v1 v2 n m q r A B w h1 h2 ht (by omega) (by omega)

end Go.Proofs.YtgpacbmiliefiaaDoor
