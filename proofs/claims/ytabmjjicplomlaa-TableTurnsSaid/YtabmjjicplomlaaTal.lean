/- TableAll, walked. Numbers and types by name. -/
import Derived.Test.YtabmjjicplomlaaTaw
import Derived.Test.YtabmjjicplomlaaPgr
namespace Go.Proofs.Ytabmjjicplomlaa
open Go.RowKit Go.Lib Go.Sort

theorem reftable_told (v : Value) (n : Nat) (L : List Prm) (w : World) (hr : Prr w v n L) (hb : bulkP L ≤ 3000) : Calls Try.prog 14 #[v] w (ToldT L w) := by
  by_cases hR : Rise L
  · have hn : n ≤ 3000 := by have := hr.1; have := bulkP_length L; omega
    refine (ref_table v n L w hr hR hb hn).mono ?_
    rintro e w' ⟨ao, m, c, rfl, h1, h2⟩
    exact ⟨ao, m, c, by simp [errT, hR], by simp only [bytesT, hR, if_true]; exact h1.1, by simp only [bytesT, hR, if_true]; exact h1.reads, h2⟩
  · refine (ref_table_no v n L w hr hR).mono ?_
    rintro e w' ⟨rfl, h2⟩
    exact ⟨none, 0, 0, by simp [errT, hR], by simp [bytesT, hR], by simp only [bytesT, hR, if_false]; exact Reads.nil _, h2⟩

theorem same_p_true (v1 v2 : Value) (n m : Nat) (ps : List Prm) (w : World) (h1 : Prr w v1 n ps) (h2 : Prr w v2 m ps) :
    Calls Try.prog 19 #[v1, v2] w fun e w' => e = .returned (.bool true) ∧ ∃ k, w' = w.drewN k :=
  (same_pairs v1 v2 n m ps ps w h1 h2).mono fun e w' ⟨k, he, hw⟩ => ⟨by rw [he]; simp, k, hw⟩

set_option maxHeartbeats 4000000 in
theorem all_table (v vo vb : Value) (n m mb : Nat) (L : List Prm) (O : List Opm) (key : ByteArray) (b : List UInt8) (w : World) (h1 : Prr w v n L) (h2 : Opr w vo m O) (hk : key.size ≤ maxLen) (h3 : Reads w vb (bv b)) (hmb : mb = b.length) (hb9 : mb ≤ maxLen) :
    Calls Try.prog 3 #[v, vo, .string key, vb] w fun e w' => e = .returned (.bool true) ∧ Below w.heap.size w w' := by
  obtain ⟨a1, c1, rfl⟩ := h1.shape
  obtain ⟨a2, c2, rfl⟩ := h2.shape
  obtain ⟨a3, c3, rfl⟩ : ∃ ao c, vb = .slice ao mb c := by obtain ⟨ao, c, rfl, _⟩ := h3; exact ⟨ao, c, by rw [bv_length, hmb]⟩
  have H1 := Lib.hid h1
  have H2 := Lib.hid h2
  have H3 := Lib.hid (And.intro h3 hmb)
  unfold maxLen at hk hb9
  clear h1 h2 h3 hmb
  go_enter Try.func3, Try.ntmps3
  go_wp2_with fail
  refine (great_pairs _ n L w H1.out).mono ?_
  rintro e w1 ⟨g, q, rfl, hw1, hb⟩
  have B1 := Lib.hid (show Below w.heap.size w w1 by rw [hw1]; exact below_drewN (Below.refl _ w) q)
  cases g with
  | true =>
    clear hb hw1
    go_wp2_with (go_at_call 10; refine (awake_tab _).mono ?_; rintro e w' ⟨rfl, hb9⟩)
    go_ret
    exact ⟨rfl, B1.out.trans (hb9.mono B1.out.size)⟩
  | false =>
  have HP := Lib.hid (hb rfl)
  clear hb hw1
  go_wp2_with fail
  refine (great_ops _ m O w1 (H2.out.later B1.out)).mono ?_
  rintro e w2 ⟨g, q, rfl, hw2, hb⟩
  have B2 := Lib.hid (B1.out.trans (show Below w.heap.size w1 w2 by rw [hw2]; exact below_drewN (Below.refl _ w1) q))
  cases g with
  | true =>
    clear hb hw2
    go_wp2_with (go_at_call 10; refine (awake_tab _).mono ?_; rintro e w' ⟨rfl, hb9⟩)
    go_ret
    exact ⟨rfl, B2.out.trans (hb9.mono B2.out.size)⟩
  | false =>
  have HO := Lib.hid (hb rfl)
  clear hb hw2
  by_cases k1 : 300 < key.size
  · have k2 : (300 : Int) < (key.size : Int) := by omega
    go_wp2_with (go_at_call 10; refine (awake_tab _).mono ?_; rintro e w' ⟨rfl, hb9⟩)
    go_ret
    exact ⟨rfl, B2.out.trans (hb9.mono B2.out.size)⟩
  have k2 : ¬ (300 : Int) < (key.size : Int) := by omega
  by_cases k3 : 3000 < mb
  · have k4 : (3000 : Int) < (mb : Int) := by omega
    go_wp2_with (go_at_call 10; refine (awake_tab _).mono ?_; rintro e w' ⟨rfl, hb9⟩)
    go_ret
    exact ⟨rfl, B2.out.trans (hb9.mono B2.out.size)⟩
  have k4 : ¬ (3000 : Int) < (mb : Int) := by omega
  have hnm : n ≤ 3000 ∧ m ≤ 5000 := by
    have := bulkP_length L; have := bulkO_length O; have := HP.out; have := HO.out; have := H1.out.1; have := H2.out.1; omega
  have HNM := Lib.hid hnm
  clear hnm k1 k3
  go_wp2_with fail
  refine (tget_any _ n L key w2 (H1.out.later B2.out) (by have := HNM.out; omega)).mono ?_
  rintro e w3 ⟨rfl, hb3⟩
  have B3 := Lib.hid (B2.out.trans (hb3.mono B2.out.size))
  clear hb3
  go_wp2_with fail
  refine (find_pairs _ n L key w3 (H1.out.later B3.out)).mono ?_
  rintro e w3' ⟨rfl, rfl⟩
  generalize (findP L key).1 = fv
  generalize (findP L key).2 = fb
  go_wp2_with fail
  refine (tenc_any _ n L w3' (H1.out.later B3.out) (by have := HP.out; omega)).mono ?_
  rintro e w4 ⟨ax, mx, cx, rfl, hmx, hx, hb4⟩
  have B4 := Lib.hid (B3.out.trans (hb4.mono B3.out.size))
  have HX := Lib.hid hx
  clear hx hb4 hmx
  go_wp2_with fail
  refine (reftable_told _ n L w4 (H1.out.later B4.out) HP.out).mono ?_
  rintro e w5 ⟨ay, my, cy, rfl, hmy, hy, hb5⟩
  have B5 := Lib.hid (B4.out.trans (hb5.mono B4.out.size))
  have HX5 := Lib.hid (HX.out.later hb5)
  have HY := Lib.hid hy
  clear hy hb5 hmy HX
  go_wp2_with fail
  refine (tdec_any _ mb b w5 (H3.out.1.later B5.out) H3.out.2 (by omega)).mono ?_
  intro e w6 hd
  obtain ⟨ap, qp, cp, rfl, hp, hb6⟩ := hd.told
  have B6 := Lib.hid (B5.out.trans (hb6.mono B5.out.size))
  have HX6 := Lib.hid (HX5.out.later hb6)
  have HY6 := Lib.hid (HY.out.later hb6)
  have HPP := Lib.hid hp
  clear hd hp hb6 HX5 HY
  go_wp2_with fail
  refine (ref_from _ mb b w6 (H3.out.1.later B6.out) H3.out.2 (by omega)).mono ?_
  intro e w7 hd
  obtain ⟨aq, qq, cq, rfl, hp, hb7⟩ := hd.told
  have B7 := Lib.hid (B6.out.trans (hb7.mono B6.out.size))
  have HX7 := Lib.hid (HX6.out.later hb7)
  have HY7 := Lib.hid (HY6.out.later hb7)
  have HPP7 := Lib.hid (HPP.out.later hb7)
  have HQQ := Lib.hid hp
  clear hd hp hb7 HX6 HY6 HPP
  generalize bytesT L = by' at *
  generalize errT L = er at *
  generalize errF b = ef at *
  generalize listF b = lf at *
  go_wp2_with fail
  refine (tright_any _ n L w7 (H1.out.later B7.out)).mono ?_
  rintro e w8 ⟨rfl, hb8⟩
  have G8 : Hid (Grow w7 w8) := Lib.hid hb8
  have B8 := Lib.hid (B7.out.trans (hb8.mono B7.out.size))
  clear hb8
  have RP := fun w' h => right_pairs _ n L w' (H1.out.later (w' := w') h)
  generalize decide (Rise L) = dr at *
  go_wp2_with fail
  refine (RP w8 B8.out).mono ?_
  rintro e w9 ⟨q9, rfl, hw9⟩
  have G9 : Hid (Grow w7 w9) := Lib.hid (by rw [hw9]; exact below_drewN G8.out q9)
  have B9 : Hid (Below w.heap.size w w9) := Lib.hid (by rw [hw9]; exact below_drewN B8.out q9)
  clear hw9 G8 B8 RP
  go_wp2_with fail
  refine (tapply_any _ _ n m L O w9 (H1.out.later B9.out) (H2.out.later B9.out) (by have := HNM.out; omega) (by have := HNM.out; omega)).mono ?_
  rintro e w10 ⟨at', qt, ct, rfl, ht, hb10⟩
  have G10 : Hid (Grow w7 w10) := Lib.hid (Grow.trans G9.out hb10)
  have B10 := Lib.hid (B9.out.trans (hb10.mono B9.out.size))
  have HT := Lib.hid ht
  clear ht hb10 G9
  go_wp2_with fail
  refine (ref_apply _ _ n m L O w10 (H1.out.later B10.out) (H2.out.later B10.out) (by have := HNM.out; omega) (by have := HNM.out; omega)).mono ?_
  rintro e w11 ⟨au, qu, cu, rfl, hqu, hu, hb11⟩
  have G11 : Hid (Grow w7 w11) := Lib.hid (Grow.trans G10.out hb11)
  have B11 := Lib.hid (B10.out.trans (hb11.mono B10.out.size))
  have HT11 := Lib.hid (HT.out.later hb11)
  have HU : Hid (Prr w11 (.slice au qu cu) qu (applyP L O)) := Lib.hid (by
    have h1 := OwnP.prr hu (by have := HT.out.1; have := HT.out.2.1; omega) (fun o ho => HT.out.2.2.2 o ho)
    rw [← hqu] at h1
    exact h1)
  clear hu hb11 hqu G10 HT
  generalize applyP L O = al at *
  go_wp2_with fail
  refine (same_p_true _ _ qt qu al w11 HT11.out HU.out).mono ?_
  rintro e w12 ⟨rfl, q12, hw12⟩
  have G12 : Hid (Grow w7 w12) := Lib.hid (by rw [hw12]; exact below_drewN G11.out q12)
  have B12 : Hid (Below w.heap.size w w12) := Lib.hid (by rw [hw12]; exact below_drewN B11.out q12)
  have cx1 := conv_reads (HX7.out.later G12.out)
  have cy1 := conv_reads (HY7.out.later G12.out)
  have S := same_p_true _ _ qp qq lf w12 (HPP7.out.later G12.out) (HQQ.out.later G12.out)
  clear hw12 G11 HT11 HU
  go_wp2_with (first | (go_at_call 22; refine (num_code _ _).mono ?_; rintro e w' ⟨rfl, rfl⟩) | (go_at_call 19; refine S.mono ?_; rintro e w' ⟨rfl, jj, rfl⟩; clear S cx1 cy1) | (go_at_call 10; refine (awake_tab _).mono ?_; rintro e w' ⟨rfl, hb9⟩))
  go_ret
  exact ⟨rfl, (below_drewN B12.out jj).trans (hb9.mono B12.out.size)⟩

end Go.Proofs.Ytabmjjicplomlaa
