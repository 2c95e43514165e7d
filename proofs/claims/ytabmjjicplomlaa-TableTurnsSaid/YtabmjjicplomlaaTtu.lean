/- TableTurns, walked. Numbers and types by name. -/
import Derived.Test.YtabmjjicplomlaaTba
/- TableAgain, walked. Numbers and types by name. -/
namespace Go.Proofs.Ytabmjjicplomlaa
open Go.RowKit Go.Lib Go.Sort

theorem elemOpT : Elem 23 45 (.agg #[.bool false, .string ⟨#[]⟩, .string ⟨#[]⟩]) 3 40 := ⟨Try.underlying23, by kernel_rfl, by decide, by decide⟩

theorem again_eq (L : List Prm) (A B : List Opm) : applyP (applyP (applyP L (A ++ B)) A) B = applyP L (A ++ B) := by rw [applyP_two, applyP_again]

set_option maxHeartbeats 4000000 in
theorem again_table (v1 v2 v3 : Value) (n ma mb : Nat) (L : List Prm) (A B : List Opm) (w : World) (h1 : Prr w v1 n L) (h2 : Opr w v2 ma A) (h3 : Opr w v3 mb B) :
    Calls Try.prog 5 #[v1, v2, v3] w fun e w' => e = .returned (.bool true) ∧ Below w.heap.size w w' := by
  obtain ⟨a1, c1, rfl⟩ := h1.shape
  obtain ⟨a2, c2, rfl⟩ := h2.shape
  obtain ⟨a3, c3, rfl⟩ := h3.shape
  have H1 := Lib.hid h1
  have H2 := Lib.hid h2
  have H3 := Lib.hid h3
  clear h1 h2 h3
  go_enter Try.func5, Try.ntmps5
  go_wp2_with fail
  refine (great_pairs _ n L w H1.out).mono ?_
  rintro e w1 ⟨g, q, rfl, hw1, hb⟩
  have B1 := Lib.hid (show Below w.heap.size w w1 by rw [hw1]; exact below_drewN (Below.refl _ w) q)
  cases g with
  | true =>
    clear hb hw1
    go_wp2_with (go_at_call 10; refine (awake_tab _).mono ?_; rintro e w' ⟨rfl, hb9⟩)
    go_ret
    exact ⟨rfl, B1.out.trans (hb9.mono B1.out.size)⟩
  | false =>
  have HL := Lib.hid (hb rfl)
  clear hb hw1
  go_wp2_with fail
  refine (great_ops _ ma A w1 (H2.out.later B1.out)).mono ?_
  rintro e w2 ⟨g, q, rfl, hw2, hb⟩
  have B2 := Lib.hid (B1.out.trans (show Below w.heap.size w1 w2 by rw [hw2]; exact below_drewN (Below.refl _ w1) q))
  cases g with
  | true =>
    clear hb hw2
    go_wp2_with (go_at_call 10; refine (awake_tab _).mono ?_; rintro e w' ⟨rfl, hb9⟩)
    go_ret
    exact ⟨rfl, B2.out.trans (hb9.mono B2.out.size)⟩
  | false =>
  have HA := Lib.hid (hb rfl)
  clear hb hw2
  go_wp2_with fail
  refine (great_ops _ mb B w2 (H3.out.later B2.out)).mono ?_
  rintro e w3 ⟨g, q, rfl, hw3, hb⟩
  have B3 := Lib.hid (B2.out.trans (show Below w.heap.size w2 w3 by rw [hw3]; exact below_drewN (Below.refl _ w2) q))
  cases g with
  | true =>
    clear hb hw3
    go_wp2_with (go_at_call 10; refine (awake_tab _).mono ?_; rintro e w' ⟨rfl, hb9⟩)
    go_ret
    exact ⟨rfl, B3.out.trans (hb9.mono B3.out.size)⟩
  | false =>
  have HB := Lib.hid (hb rfl)
  clear hb hw3
  have hN : n ≤ 3000 ∧ ma ≤ 5000 ∧ mb ≤ 5000 := by
    have := bulkP_length L; have := bulkO_length A; have := bulkO_length B; have := HL.out; have := HA.out; have := HB.out
    have := H1.out.1; have := H2.out.1; have := H3.out.1; omega
  have HN := Lib.hid hN
  obtain ⟨s, hs⟩ : ∃ s, s = ma + mb := ⟨_, rfl⟩
  have HS := Lib.hid hs
  have F1 : Hid (ma ≤ 1000000) := Lib.hid (by omega)
  have F2 : Hid (s ≤ 1000000) := Lib.hid (by omega)
  have R2 := Lib.hid (H2.out.later B3.out)
  have R3 := Lib.hid (H3.out.later B3.out)
  clear hN hs
  go_wp2_with (first | (at_builtin; refine wpList_append_gen elemOpT rfl (.tmp 22) (.tmp 23) rfl w3.heap.size _ 0 [] rfl (own_empty w3 _ _ 3 _ rfl (Nat.le_refl _)) (.slice a2 ma c2) ma (ovs A) rfl (R2.out.2.2.1.later ((Below.refl _ w3).alloc (Nat.le_refl _) _)) (ovs_one A) ma (Nat.zero_add ma).symm F1 (by decide) (by simp) ?_; intro ao5 c5 w5 hown5 hb5 hg5 ho5) | (at_builtin; refine wpList_append_gen elemOpT rfl (.tmp 25) (.tmp 26) rfl w3.heap.size _ ma _ rfl hown5 (.slice a3 mb c3) mb (ovs B) rfl (R3.out.2.2.1.later (((Below.refl _ w3).alloc (Nat.le_refl _) _).trans hb5)) (ovs_one B) s HS.out F2 (by decide) (Nat.le_trans (by simp) hb5.size) ?_; intro ao6 c6 w6 hown6 hb6 hg6 ho6))
  have G6 : Hid (Grow w3 w6) := Lib.hid ((((Below.refl _ w3).alloc (Nat.le_refl _) _).trans hb5).trans hb6)
  have B6 := Lib.hid (B3.out.trans (G6.out.mono B3.out.size))
  have HC : Hid (Opr w6 (.slice ao6 s c6) s (A ++ B)) := Lib.hid (by
    rw [List.nil_append, ← ovs_append] at hown6
    refine ⟨by rw [List.length_append, ← H2.out.1, ← H3.out.1]; exact HS.out, by have := F2.out; unfold maxLen; omega, Cells.own hown6 (by decide), fun o ho => ?_⟩
    rcases List.mem_append.1 ho with ho | ho
    · exact H2.out.2.2.2 o ho
    · exact H3.out.2.2.2 o ho)
  clear hown5 hb5 hg5 ho5 hown6 hb6 hg6 ho6
  refine (tapply_any _ _ n s L (A ++ B) w6 (H1.out.later B6.out) HC.out (by have := HN.out; omega) (by have := HN.out; have := HS.out; omega)).mono ?_
  rintro e w7 ⟨ax, qx, cx, rfl, hx, hb7⟩
  have B7 := Lib.hid (B6.out.trans (hb7.mono B6.out.size))
  have HX := Lib.hid hx
  have hqx : qx ≤ 13000 := by
    rw [hx.1]; have := apply_length L (A ++ B); rw [List.length_append] at this
    have := HN.out; have := H1.out.1; have := H2.out.1; have := H3.out.1; omega
  have HQX := Lib.hid hqx
  clear hx hb7 hqx
  go_wp2_with fail
  refine (tapply_any _ _ n ma L A w7 (H1.out.later B7.out) (H2.out.later B7.out) (by have := HN.out; omega) (by have := HN.out; omega)).mono ?_
  rintro e w8 ⟨at', qt, ct, rfl, ht, hb8⟩
  have B8 := Lib.hid (B7.out.trans (hb8.mono B7.out.size))
  have HX8 := Lib.hid (HX.out.later hb8)
  have HT := Lib.hid ht
  have hqt : qt ≤ 8000 := by
    rw [ht.1]; have := apply_length L A
    have := HN.out; have := H1.out.1; have := H2.out.1; omega
  have HQT := Lib.hid hqt
  clear ht hb8 hqt
  go_wp2_with fail
  refine (tapply_any _ _ qt mb (applyP L A) B w8 HT.out (H3.out.later B8.out) (by have := HQT.out; omega) (by have := HN.out; omega)).mono ?_
  rintro e w9 ⟨ay, qy, cy, rfl, hy, hb9⟩
  have B9 := Lib.hid (B8.out.trans (hb9.mono B8.out.size))
  have HX9 := Lib.hid (HX8.out.later hb9)
  rw [applyP_two] at hy
  have HY := Lib.hid hy
  clear hy hb9 HX HX8 HT
  go_wp2_with fail
  refine (tapply_any _ _ qx ma (applyP L (A ++ B)) A w9 HX9.out (H2.out.later B9.out) (by have := HQX.out; omega) (by have := HN.out; omega)).mono ?_
  rintro e w10 ⟨au, qu, cu, rfl, hu, hb10⟩
  have B10 := Lib.hid (B9.out.trans (hb10.mono B9.out.size))
  have HX10 := Lib.hid (HX9.out.later hb10)
  have HY10 := Lib.hid (HY.out.later hb10)
  have HU := Lib.hid hu
  have hqu : qu ≤ 18000 := by
    rw [hu.1]; have := apply_length (applyP L (A ++ B)) A
    have := HN.out; have := HQX.out; have := HX9.out.1; have := H2.out.1; omega
  have HQU := Lib.hid hqu
  clear hu hb10 hqu HX9 HY
  go_wp2_with fail
  refine (tapply_any _ _ qu mb (applyP (applyP L (A ++ B)) A) B w10 HU.out (H3.out.later B10.out) (by have := HQU.out; omega) (by have := HN.out; omega)).mono ?_
  rintro e w11 ⟨az, qz, cz, rfl, hz, hb11⟩
  have B11 := Lib.hid (B10.out.trans (hb11.mono B10.out.size))
  have HX11 := Lib.hid (HX10.out.later hb11)
  have HY11 := Lib.hid (HY10.out.later hb11)
  rw [again_eq] at hz
  have HZ := Lib.hid hz
  have HRX := Lib.hid (rise_apply L (A ++ B))
  clear hz hb11 HX10 HY10 HU
  generalize applyP L (A ++ B) = X at *
  go_wp2_with fail
  refine (tright_any _ qx X w11 HX11.out).mono ?_
  rintro e w12 ⟨rfl, hb12⟩
  have G12 : Hid (Grow w11 w12) := Lib.hid hb12
  rw [decide_eq_true HRX.out]
  clear hb12
  go_wp2_with fail
  refine (same_pairs_at _ _ _ _ X X true (by simp) w11 w12 HX11.out HY11.out G12.out).mono ?_
  rintro e w13 ⟨rfl, hg13⟩
  have G13 : Hid (Grow w11 w13) := Lib.hid (Grow.trans G12.out hg13)
  clear hg13
  go_wp2_with fail
  refine (same_pairs_at _ _ _ _ X X true (by simp) w11 w13 HX11.out HZ.out G13.out).mono ?_
  rintro e w14 ⟨rfl, hg14⟩
  have B14 := Lib.hid (B11.out.trans ((Grow.trans G13.out hg14).mono B11.out.size))
  clear hg14
  go_wp2_with (go_at_call 10; refine (awake_tab _).mono ?_; rintro e w' ⟨rfl, hb9⟩)
  go_ret
  exact ⟨rfl, B14.out.trans (hb9.mono B14.out.size)⟩

end Go.Proofs.Ytabmjjicplomlaa

/- TableLast, walked. Numbers and types by name. -/
namespace Go.Proofs.Ytabmjjicplomlaa
open Go.RowKit Go.Lib Go.Sort

/-- What is wanted at a key. -/
def Want (d : Option ByteArray) (u : ByteArray) (h : Bool) : Prop := h = d.isSome ∧ ∀ v, d = some v → u = v
theorem want_find (L : List Prm) (k : ByteArray) : Want (look L k) (findP L k).1 (findP L k).2 := by
  rw [findP_look]
  cases look L k with
  | none => exact ⟨rfl, fun v h => by cases h⟩
  | some u => exact ⟨rfl, fun v h => Option.some.inj h⟩

set_option maxHeartbeats 4000000 in
theorem last_table (v1 v2 : Value) (n m : Nat) (L : List Prm) (O : List Opm) (key : ByteArray) (w : World) (h1 : Prr w v1 n L) (h2 : Opr w v2 m O) (hk : key.size ≤ maxLen) :
    Calls Try.prog 6 #[v1, v2, .string key] w fun e w' => e = .returned (.bool true) ∧ Below w.heap.size w w' := by
  obtain ⟨a1, c1, rfl⟩ := h1.shape
  obtain ⟨a2, c2, rfl⟩ := h2.shape
  have H1 := Lib.hid h1
  have H2 := Lib.hid h2
  unfold maxLen at hk
  clear h1 h2
  go_enter Try.func6, Try.ntmps6
  go_wp2_with fail
  refine (great_pairs _ n L w H1.out).mono ?_
  rintro e w1 ⟨g, q, rfl, hw1, hb⟩
  have B1 := Lib.hid (show Below w.heap.size w w1 by rw [hw1]; exact below_drewN (Below.refl _ w) q)
  cases g with
  | true =>
    clear hb hw1
    go_wp2_with (go_at_call 10; refine (awake_tab _).mono ?_; rintro e w' ⟨rfl, hb9⟩)
    go_ret
    exact ⟨rfl, B1.out.trans (hb9.mono B1.out.size)⟩
  | false =>
  have HP := Lib.hid (hb rfl)
  clear hb hw1
  go_wp2_with fail
  refine (great_ops _ m O w1 (H2.out.later B1.out)).mono ?_
  rintro e w2 ⟨g, q, rfl, hw2, hb⟩
  have B2 := Lib.hid (B1.out.trans (show Below w.heap.size w1 w2 by rw [hw2]; exact below_drewN (Below.refl _ w1) q))
  cases g with
  | true =>
    clear hb hw2
    go_wp2_with (go_at_call 10; refine (awake_tab _).mono ?_; rintro e w' ⟨rfl, hb9⟩)
    go_ret
    exact ⟨rfl, B2.out.trans (hb9.mono B2.out.size)⟩
  | false =>
  have HO := Lib.hid (hb rfl)
  clear hb hw2
  by_cases k1 : 300 < key.size
  · have k2 : (300 : Int) < (key.size : Int) := by omega
    go_wp2_with (go_at_call 10; refine (awake_tab _).mono ?_; rintro e w' ⟨rfl, hb9⟩)
    go_ret
    exact ⟨rfl, B2.out.trans (hb9.mono B2.out.size)⟩
  have k2 : ¬ (300 : Int) < (key.size : Int) := by omega
  have hnm : n ≤ 3000 ∧ m ≤ 5000 := by
    have := bulkP_length L; have := bulkO_length O; have := HP.out; have := HO.out; have := H1.out.1; have := H2.out.1; omega
  have HNM := Lib.hid hnm
  have hm5 := hnm.2
  clear hnm k1
  go_wp2_with fail
  refine (tapply_any _ _ n 0 L [] w2 (H1.out.later B2.out) (Opr.nil _) (by have := HNM.out; omega) (by omega)).mono ?_
  rintro e w3 ⟨ax, n', cx, rfl, hx, hb3⟩
  have B3 := Lib.hid (B2.out.trans (hb3.mono B2.out.size))
  have HX := Lib.hid hx
  have hn9 : n' ≤ 3000 := by
    rw [hx.1]; have := apply_length L []; simp only [List.length_nil] at this
    have := HNM.out; have := H1.out.1; omega
  have HN9 := Lib.hid hn9
  have hbase : applyP L [] = baseP L := rfl
  rw [hbase] at HX
  clear hx hb3 hn9 hbase
  go_wp2_with fail
  refine (tget_any _ n' (baseP L) key w3 HX.out (by have := HN9.out; omega)).mono ?_
  rintro e w4 ⟨rfl, hb4⟩
  have B4 := Lib.hid (B3.out.trans (hb4.mono B3.out.size))
  have HX4 := Lib.hid (HX.out.later hb4)
  have HW := Lib.hid (want_find (baseP L) key)
  clear hb4 HX
  generalize (findP (baseP L) key).1 = u0 at *
  generalize (findP (baseP L) key).2 = h0 at *
  go_wp2_with fail
  go_loopw [7, 8, 9] (fun uv hv iv wr => ∃ (i : Nat) (u : ByteArray) (h : Bool), i ≤ m ∧ iv = .int .i64 (i : Int) ∧ uv = .string u ∧ hv = .bool h ∧ Hid (Want (lastO (O.take i) key (look (baseP L) key)) u h) ∧ w4 = wr)
    (fun _ _ iv _ => m - (RowKit.intOf iv).toNat)
  case atStart => exact ⟨0, u0, h0, Nat.zero_le _, rfl, rfl, rfl, HW, rfl⟩
  case round =>
    obtain ⟨i, u, h, hi, rfl, rfl, rfl, hrel, rfl⟩ := hrel
    by_cases hlt : i < m
    · have i0 : (i : Int) < (m : Int) := by omega
      obtain ⟨a, o, rfl, ho, c0, q1, q2, _, _⟩ := (H2.out.later B4.out).at hlt
      have HOO := Lib.hid ho
      have hnext := lastO_next ho key (look (baseP L) key)
      obtain ⟨od, ok, ov'⟩ := o
      simp only at c0 q1 q2
      clear ho
      by_cases heq : ok.toList = key.toList
      · obtain rfl := text_inj' heq
        have HN : Hid (Want (lastO (O.take (i + 1)) ok (look (baseP L) ok)) ov' (!od)) := Lib.hid (by
          rw [hnext]
          unfold opAt
          rw [if_pos rfl]
          cases od with
          | true => exact ⟨rfl, fun v h => by cases h⟩
          | false => exact ⟨rfl, fun v h => Option.some.inj h⟩)
        clear heq hnext
        go_wp2_with fail
        exact ⟨⟨i + 1, ov', !od, by omega, by simp, rfl, rfl, HN, trivial⟩, by simp [RowKit.intOf]; omega⟩
      · have HN : Hid (Want (lastO (O.take (i + 1)) key (look (baseP L) key)) u h) := Lib.hid (by
          rw [hnext]
          unfold opAt
          rw [if_neg (fun e => heq (by rw [← e]))]
          exact hrel.out)
        have hbq : (ok.toList == key.toList) = false := by simpa using heq
        have hbd : ¬ ok = key := fun e => heq (by rw [e])
        clear hnext
        go_wp2_with fail
        exact ⟨⟨i + 1, u, h, by omega, by simp, rfl, rfl, HN, trivial⟩, by simp [RowKit.intOf]; omega⟩
    · have i0 : ¬ (i : Int) < (m : Int) := by omega
      have hall : O.take i = O := List.take_of_length_le (by have := H2.out.1; omega)
      have hw2 := hrel.out
      rw [hall, ← base_rise (rise_base L)] at hw2
      have hwl := want_find (applyP (baseP L) O) key
      rw [look_apply] at hwl
      have HWW := Lib.hid (And.intro hw2 hwl)
      clear hall hw2 hwl hrel
      go_wp2_with fail
      refine (tapply_any _ _ n' m (baseP L) O w4 HX4.out (H2.out.later B4.out) (by have := HN9.out; omega) (by omega)).mono ?_
      rintro e w5 ⟨ay, qy, cy, rfl, hy, hb5⟩
      have B5 := Lib.hid (B4.out.trans (hb5.mono B4.out.size))
      have HY := Lib.hid hy
      clear hy hb5
      go_wp2_with fail
      refine (tget_any _ qy (applyP (baseP L) O) key w5 HY.out (by rw [HY.out.1]; have := apply_length (baseP L) O; have := base_length L; have := HNM.out; have := H1.out.1; have := H2.out.1; omega)).mono ?_
      rintro e w6 ⟨rfl, hb6⟩
      have B6 := Lib.hid (B5.out.trans (hb6.mono B5.out.size))
      clear hb6
      generalize (findP (applyP (baseP L) O) key).1 = u1 at *
      generalize (findP (applyP (baseP L) O) key).2 = h1 at *
      generalize lastO O key (look (baseP (baseP L)) key) = d at *
      obtain rfl : h = h1 := by rw [HWW.out.1.1, HWW.out.2.1]
      cases hd : h with
      | false =>
        subst hd
        go_wp2_with (go_at_call 10; refine (awake_tab _).mono ?_; rintro e w' ⟨rfl, hb9⟩)
        go_ret
        exact ⟨rfl, B6.out.trans (hb9.mono B6.out.size)⟩
      | true =>
        subst hd
        obtain ⟨v, rfl⟩ : ∃ v, d = some v := Option.isSome_iff_exists.1 HWW.out.1.1.symm
        obtain rfl : u = u1 := by rw [HWW.out.1.2 v rfl, HWW.out.2.2 v rfl]
        go_wp2_with (go_at_call 10; refine (awake_tab _).mono ?_; rintro e w' ⟨rfl, hb9⟩)
        go_ret
        exact ⟨rfl, B6.out.trans (hb9.mono B6.out.size)⟩

end Go.Proofs.Ytabmjjicplomlaa

namespace Go.Proofs.Ytabmjjicplomlaa
open Go.RowKit Go.Lib Go.Sort

set_option maxHeartbeats 4000000 in
theorem turns_table (v1 v2 v3 : Value) (n ma mb : Nat) (L : List Prm) (A B : List Opm) (w : World) (h1 : Prr w v1 n L) (h2 : Opr w v2 ma A) (h3 : Opr w v3 mb B) :
    Calls Try.prog 7 #[v1, v2, v3] w fun e w' => e = .returned (.bool true) ∧ Below w.heap.size w w' := by
  obtain ⟨a1, c1, rfl⟩ := h1.shape
  obtain ⟨a2, c2, rfl⟩ := h2.shape
  obtain ⟨a3, c3, rfl⟩ := h3.shape
  have H1 := Lib.hid h1
  have H2 := Lib.hid h2
  have H3 := Lib.hid h3
  clear h1 h2 h3
  go_enter Try.func7, Try.ntmps7
  go_wp2_with fail
  refine (great_pairs _ n L w H1.out).mono ?_
  rintro e w1 ⟨g, q, rfl, hw1, hb⟩
  have B1 := Lib.hid (show Below w.heap.size w w1 by rw [hw1]; exact below_drewN (Below.refl _ w) q)
  cases g with
  | true =>
    clear hb hw1
    go_wp2_with (go_at_call 10; refine (awake_tab _).mono ?_; rintro e w' ⟨rfl, hb9⟩)
    go_ret
    exact ⟨rfl, B1.out.trans (hb9.mono B1.out.size)⟩
  | false =>
  have HL := Lib.hid (hb rfl)
  clear hb hw1
  go_wp2_with fail
  refine (great_ops _ ma A w1 (H2.out.later B1.out)).mono ?_
  rintro e w2 ⟨g, q, rfl, hw2, hb⟩
  have B2 := Lib.hid (B1.out.trans (show Below w.heap.size w1 w2 by rw [hw2]; exact below_drewN (Below.refl _ w1) q))
  cases g with
  | true =>
    clear hb hw2
    go_wp2_with (go_at_call 10; refine (awake_tab _).mono ?_; rintro e w' ⟨rfl, hb9⟩)
    go_ret
    exact ⟨rfl, B2.out.trans (hb9.mono B2.out.size)⟩
  | false =>
  have HA := Lib.hid (hb rfl)
  clear hb hw2
  go_wp2_with fail
  refine (great_ops _ mb B w2 (H3.out.later B2.out)).mono ?_
  rintro e w3 ⟨g, q, rfl, hw3, hb⟩
  have B3 := Lib.hid (B2.out.trans (show Below w.heap.size w2 w3 by rw [hw3]; exact below_drewN (Below.refl _ w2) q))
  cases g with
  | true =>
    clear hb hw3
    go_wp2_with (go_at_call 10; refine (awake_tab _).mono ?_; rintro e w' ⟨rfl, hb9⟩)
    go_ret
    exact ⟨rfl, B3.out.trans (hb9.mono B3.out.size)⟩
  | false =>
  have HB := Lib.hid (hb rfl)
  clear hb hw3
  have hN : n ≤ 3000 ∧ ma ≤ 5000 ∧ mb ≤ 5000 := by
    have := bulkP_length L; have := bulkO_length A; have := bulkO_length B; have := HL.out; have := HA.out; have := HB.out
    have := H1.out.1; have := H2.out.1; have := H3.out.1; omega
  have HN := Lib.hid hN
  have hma := hN.2.1
  have hmb := hN.2.2
  clear hN
  go_wp2_with fail
  go_loopw [7] (fun iv wr => ∃ i q : Nat, i ≤ ma ∧ iv = .int .i64 (i : Int) ∧ Hid ((∀ x ∈ A.take i, ∀ y ∈ B, x.key ≠ y.key) ∧ wr = w3.drewN q))
    (fun iv _ => ma - (RowKit.intOf iv).toNat)
  case atStart => exact ⟨0, 0, Nat.zero_le _, rfl, Lib.hid ⟨fun x hx => by simp at hx, rfl⟩⟩
  case round =>
    obtain ⟨i, q, hi, rfl, hrel⟩ := hrel
    have BR : Hid (Below w.heap.size w wr) := Lib.hid (by rw [hrel.out.2]; exact below_drewN B3.out q)
    by_cases hlt : i < ma
    · have i0 : (i : Int) < (ma : Int) := by omega
      have hx0 : A[i]? = some (A[i]'(by have := H2.out.1; omega)) := List.getElem?_eq_getElem (by have := H2.out.1; omega)
      generalize A[i]'(by have := H2.out.1; omega) = xa at hx0
      have HXA := Lib.hid hx0
      clear hx0
      obtain ⟨w5, hw5⟩ : ∃ w5, w5 = wr := ⟨_, rfl⟩
      rw [← hw5] at hrel BR ⊢
      have HREL := hrel
      clear hw5 hrel
      go_wp2_with fail
      go_loopw [8] (fun kv wr => ∃ k q2 : Nat, k ≤ mb ∧ kv = .int .i64 (k : Int) ∧ Hid ((∀ y ∈ B.take k, xa.key ≠ y.key) ∧ wr = w5.drewN q2))
        (fun kv _ => mb - (RowKit.intOf kv).toNat)
      case atStart => exact ⟨0, 0, Nat.zero_le _, rfl, Lib.hid ⟨fun x hx => by simp at hx, rfl⟩⟩
      case round =>
        obtain ⟨k, q2, hk, rfl, hrel⟩ := hrel
        have BR2 : Hid (Below w.heap.size w wr) := Lib.hid (by rw [hrel.out.2]; exact below_drewN BR.out q2)
        by_cases hlk : k < mb
        · have k0 : (k : Int) < (mb : Int) := by omega
          obtain ⟨b2, x, rfl, hx, c0, q0, _, _, _⟩ := (H2.out.later BR2.out).at hlt
          obtain rfl : xa = x := by have := HXA.out.symm.trans hx; exact Option.some.inj this
          obtain ⟨b3, y, rfl, hy, d0, r0, _, _, _⟩ := (H3.out.later BR2.out).at hlk
          have HY := Lib.hid hy
          clear hx hy c0 d0
          obtain ⟨xd, xk, xv⟩ := xa
          obtain ⟨yd, yk, yv⟩ := y
          simp only at q0 r0
          have s0 : ∀ j, (wr.drewN j).cell? ⟨(b2.add (i * 3)).block, (b2.add (i * 3)).off + 1, none⟩ = some (.string xk) := fun _ => q0
          have t0 : ∀ j, (wr.drewN j).cell? ⟨(b3.add (k * 3)).block, (b3.add (k * 3)).off + 1, none⟩ = some (.string yk) := fun _ => r0
          have HW := Lib.hid hrel.out.2
          have HK := Lib.hid hrel.out.1
          clear hrel
          by_cases heq : xk.toList = yk.toList
          · obtain rfl := text_inj' heq
            clear heq
            go_wp2_with fail
            go_quiet (fail)
            go_wp2_with (go_at_call 10; refine (awake_tab _).mono ?_; rintro e w' ⟨rfl, hb9⟩)
            go_ret
            exact ⟨rfl, (below_drewN BR2.out nq).trans (hb9.mono BR2.out.size)⟩
          · have hbq : (xk.toList == yk.toList) = false := by simpa using heq
            have hbd : ¬ xk = yk := fun e => heq (by rw [e])
            have HE := Lib.hid hbd
            clear heq
            go_wp2_with fail
            go_quiet (fail)
            go_wp2_with fail
            refine ⟨⟨k + 1, q2 + nq, by omega, by simp, Lib.hid ⟨fun z hz => ?_, by rw [HW.out, World.drewN_drewN]⟩⟩, by simp [RowKit.intOf]; omega⟩
            rw [take_next HY.out] at hz
            rcases List.mem_append.1 hz with hz | hz
            · exact HK.out z hz
            · rw [List.mem_singleton.1 hz]; exact HE.out
        · have k0 : ¬ (k : Int) < (mb : Int) := by omega
          have hall : B.take k = B := List.take_of_length_le (by have := H3.out.1; omega)
          have HK := Lib.hid hrel.out
          clear hrel
          go_wp2_with fail
          refine ⟨⟨i + 1, q + q2, by omega, by simp, Lib.hid ⟨fun x hx y hy => ?_, by rw [HK.out.2, HREL.out.2, World.drewN_drewN]⟩⟩, by simp [RowKit.intOf]; omega⟩
          rw [take_next HXA.out] at hx
          rcases List.mem_append.1 hx with hx | hx
          · exact HREL.out.1 x hx y hy
          · rw [List.mem_singleton.1 hx]
            exact HK.out.1 y (by rw [hall]; exact hy)
    · have i0 : ¬ (i : Int) < (ma : Int) := by omega
      have hall : A.take i = A := List.take_of_length_le (by have := H2.out.1; omega)
      have hap := hrel.out.1
      rw [hall] at hap
      have HT := Lib.hid (applyP_turn hap L)
      clear hall hap hrel
      go_wp2_with fail
      refine (tapply_any _ _ n ma L A wr (H1.out.later BR.out) (H2.out.later BR.out) (by have := HN.out; omega) (by omega)).mono ?_
      rintro e w5 ⟨ax, qx, cx, rfl, hx, hb5⟩
      have B5 := Lib.hid (BR.out.trans (hb5.mono BR.out.size))
      have HX := Lib.hid hx
      have HQX : Hid (qx ≤ 8000) := Lib.hid (by rw [hx.1]; have := apply_length L A; have := HN.out; have := H1.out.1; have := H2.out.1; omega)
      clear hx hb5
      go_wp2_with fail
      refine (tapply_any _ _ qx mb (applyP L A) B w5 HX.out (H3.out.later B5.out) (by have := HQX.out; omega) (by omega)).mono ?_
      rintro e w6 ⟨ay, qy, cy, rfl, hy, hb6⟩
      have B6 := Lib.hid (B5.out.trans (hb6.mono B5.out.size))
      have HY := Lib.hid hy
      clear hy hb6 HX
      go_wp2_with fail
      refine (tapply_any _ _ n mb L B w6 (H1.out.later B6.out) (H3.out.later B6.out) (by have := HN.out; omega) (by omega)).mono ?_
      rintro e w7 ⟨au, qu, cu, rfl, hu, hb7⟩
      have B7 := Lib.hid (B6.out.trans (hb7.mono B6.out.size))
      have HY7 := Lib.hid (HY.out.later hb7)
      have HU := Lib.hid hu
      have HQU : Hid (qu ≤ 8000) := Lib.hid (by rw [hu.1]; have := apply_length L B; have := HN.out; have := H1.out.1; have := H3.out.1; omega)
      clear hu hb7 HY
      go_wp2_with fail
      refine (tapply_any _ _ qu ma (applyP L B) A w7 HU.out (H2.out.later B7.out) (by have := HQU.out; omega) (by omega)).mono ?_
      rintro e w8 ⟨az, qz, cz, rfl, hz, hb8⟩
      have B8 := Lib.hid (B7.out.trans (hb8.mono B7.out.size))
      have HY8 := Lib.hid (HY7.out.later hb8)
      rw [← HT.out] at hz
      have HZ := Lib.hid hz
      clear hz hb8 HY7 HU
      generalize applyP (applyP L A) B = X at *
      go_wp2_with fail
      refine (same_pairs_at _ _ _ _ X X true (by simp) w8 w8 HY8.out HZ.out (Grow.refl _)).mono ?_
      rintro e w9 ⟨rfl, hg9⟩
      have B9 := Lib.hid (B8.out.trans (hg9.mono B8.out.size))
      clear hg9
      go_wp2_with (go_at_call 10; refine (awake_tab _).mono ?_; rintro e w' ⟨rfl, hb9⟩)
      go_ret
      exact ⟨rfl, B9.out.trans (hb9.mono B9.out.size)⟩

end Go.Proofs.Ytabmjjicplomlaa
