/- BatchAll, walked. Numbers and types by name. -/
import Derived.Test.YtgpacbmiliefiaaDoorAwb
namespace Go.Proofs.YtgpacbmiliefiaaDoor
open Go.RowKit Go.Lib

def bytesOf (L : List Opm) : List UInt8 := if okOps L then frms (recs L) else []
def errOf (L : List Opm) : Int := if okOps L then 0 else 1

/-- What Encode tells. -/
def ToldB (L : List Opm) (w : World) (e : Ending) (w' : World) : Prop :=
  ∃ ao m c, e = .returned (.tuple #[.slice ao m c, .int .i64 (errOf L)]) ∧ m = (bytesOf L).length ∧ Reads w' (.slice ao m c) (bv (bytesOf L)) ∧ Below w.heap.size w w'

theorem batch_told (v : Value) (n : Nat) (L : List Opm) (w : World) (hr : Opr w v n L) (ht : Tab w) (hb : bulkO L ≤ 5000) : Calls Tryd.prog 9 #[v] w (ToldB L w) := by
  cases hok : okOps L with
  | true =>
    refine (batch_any v n L w hr ht hok hb).mono ?_
    rintro e w' ⟨ao, m, c, rfl, h1, h2⟩
    refine ⟨ao, m, c, by simp [errOf, hok], by simp only [bytesOf, hok, if_true]; exact h1.1, by simp only [bytesOf, hok, if_true]; exact h1.reads, h2⟩
  | false =>
    refine (batch_bad v n L w hr hok).mono ?_
    rintro e w' ⟨rfl, hbb⟩
    exact ⟨none, 0, 0, by simp [errOf, hok], by simp [bytesOf, hok], by simp only [bytesOf, hok]; exact Reads.nil _, hbb⟩
theorem ref_told (v : Value) (n : Nat) (L : List Opm) (w : World) (hr : Opr w v n L) (hb : bulkO L ≤ 5000) : Calls Tryd.prog 10 #[v] w (ToldB L w) := by
  cases hok : okOps L with
  | true =>
    refine (ref_ops v n L w hr hok hb).mono ?_
    rintro e w' ⟨ao, m, c, rfl, h1, h2⟩
    refine ⟨ao, m, c, by simp [errOf, hok], by simp only [bytesOf, hok, if_true]; exact h1.1, by simp only [bytesOf, hok, if_true]; exact h1.reads, h2⟩
  | false =>
    refine (ref_ops_bad v n L w hr hok).mono ?_
    rintro e w' ⟨rfl, rfl⟩
    exact ⟨none, 0, 0, by simp [errOf, hok], by simp [bytesOf, hok], by simp only [bytesOf, hok]; exact Reads.nil _, Below.refl _ _⟩

theorem same_b_true (v1 v2 : Value) (n m : Nat) (ps : List (List Opm)) (w : World) (h1 : Obs w v1 n ps) (h2 : Obs w v2 m ps) :
    Calls Tryd.prog 16 #[v1, v2] w fun e w' => e = .returned (.bool true) ∧ ∃ k, w' = w.drewN k :=
  (same_batches v1 v2 n m ps ps w h1 h2).mono fun e w' ⟨b, k, he, hw, hb⟩ => ⟨by rw [he, hb.2 rfl], k, hw⟩

theorem all_batch (v1 v2 : Value) (n m : Nat) (L : List Opm) (ps : List (List UInt8)) (w : World) (h1 : Opr w v1 n L) (h2 : Rws w v2 m ps) (ht : Tab w) :
    Calls Tryd.prog 3 #[v1, v2] w fun e w' => e = .returned (.bool true) ∧ Below w.heap.size w w' := by
  obtain ⟨a1, c1, rfl⟩ := h1.shape
  obtain ⟨a2, c2, rfl⟩ := h2.shape
  have H1 := Lib.hid h1
  have H2 := Lib.hid h2
  have HTB := Lib.hid ht
  have hm9 := h2.2.1
  unfold maxLen at hm9
  clear h1 h2 ht
  by_cases b2 : 200 < m
  · have d2 : (200 : Int) < (m : Int) := by omega
    go_enter Tryd.func3, Tryd.ntmps3
    go_wp2_with fail
    refine (great_ops _ n L w H1.out).mono ?_
    rintro e w1 ⟨g, q, rfl, hw1, hb⟩
    have B1 := Lib.hid (show Below w.heap.size w w1 by rw [hw1]; exact below_drewN (Below.refl _ w) q)
    clear hb hw1
    cases g <;>
    · go_wp2_with (go_at_call 8; refine (awake_batch _ (HTB.out.later B1.out)).mono ?_; rintro e w' ⟨rfl, hb9⟩)
      go_ret
      exact ⟨rfl, B1.out.trans (hb9.mono B1.out.size)⟩
  have d2 : ¬ (200 : Int) < (m : Int) := by omega
  go_enter Tryd.func3, Tryd.ntmps3
  go_wp2_with fail
  refine (great_ops _ n L w H1.out).mono ?_
  rintro e w1 ⟨g, q, rfl, hw1, hb⟩
  have B1 := Lib.hid (show Below w.heap.size w w1 by rw [hw1]; exact below_drewN (Below.refl _ w) q)
  cases g with
  | true =>
    clear hb hw1
    go_wp2_with (go_at_call 8; refine (awake_batch _ (HTB.out.later B1.out)).mono ?_; rintro e w' ⟨rfl, hb9⟩)
    go_ret
    exact ⟨rfl, B1.out.trans (hb9.mono B1.out.size)⟩
  | false =>
    have HB := Lib.hid (hb rfl)
    clear hb hw1
    go_wp2_with fail
    go_loopw [5, 6] (fun nv i wr => ∃ k s : Nat, k ≤ m ∧ nv = .int .i64 s ∧ i = .int .i64 k ∧ s ≤ 10000 * k ∧ w1 = wr)
      (fun _ i _ => m - (RowKit.intOf i).toNat)
    case atStart => exact ⟨0, 0, Nat.zero_le _, rfl, rfl, Nat.zero_le _, rfl⟩
    case round =>
      obtain ⟨k, s, hk, rfl, rfl, hs, rfl⟩ := hrel
      by_cases hlt : k < m
      · have k0 : (k : Int) < (m : Int) := by omega
        obtain ⟨A1, p, ap, cp, rfl, hp, hc, _, hpl⟩ := (H2.out.later B1.out).at hlt
        have HP := Lib.hid hp
        unfold maxLen at hpl
        clear hp
        go_wp2_with fail
        refine ⟨⟨k + 1, s + min p.length 10000, by omega, ?_, by simp, by omega, trivial⟩, by simp [RowKit.intOf]; omega⟩
        congr 1; omega
      · have k0 : ¬ (k : Int) < (m : Int) := by omega
        by_cases hbig : 10000 < s
        · have k1 : (10000 : Int) < (s : Int) := by omega
          go_wp2_with (go_at_call 8; refine (awake_batch _ (HTB.out.later B1.out)).mono ?_; rintro e w' ⟨rfl, hb9⟩)
          go_ret
          exact ⟨rfl, B1.out.trans (hb9.mono B1.out.size)⟩
        · have k1 : ¬ (10000 : Int) < (s : Int) := by omega
          have HN := Lib.hid (show m ≤ 900000 by omega)
          clear hbig hlt hk hs
          go_wp2_with fail
          refine (batch_told _ n L w1 (H1.out.later B1.out) (HTB.out.later B1.out) HB.out).mono ?_
          rintro e w2 ⟨ax, mx, cx, rfl, hmx, hx, hb2⟩
          have B2 := Lib.hid (B1.out.trans (hb2.mono B1.out.size))
          have HX := Lib.hid (And.intro hmx hx)
          clear hmx hx hb2
          go_wp2_with fail
          refine (ref_told _ n L w2 (H1.out.later B2.out) HB.out).mono ?_
          rintro e w3 ⟨ay, my, cy, rfl, hmy, hy, hb3⟩
          have B3 := Lib.hid (B2.out.trans (hb3.mono B2.out.size))
          have HX3 := Lib.hid (HX.out.2.later hb3)
          have HY := Lib.hid (And.intro hmy hy)
          clear hmy hy hb3
          go_wp2_with fail
          refine (replay_any _ m ps w3 (H2.out.later B3.out) (HTB.out.later B3.out) HN.out).mono ?_
          rintro e w4 ⟨hb4, LL, u, al, j, cl, hpl, _, _, rfl, hL⟩
          have B4 := Lib.hid (B3.out.trans (hb4.mono B3.out.size))
          have HX4 := Lib.hid (HX3.out.later hb4)
          have HY4 := Lib.hid (HY.out.2.later hb4)
          have HL := Lib.hid (And.intro hpl hL)
          clear hpl hL hb4
          go_wp2_with fail
          refine (ref_replay _ m ps w4 (H2.out.later B4.out) HN.out).mono ?_
          rintro e w5 ⟨hb5, LL', u', al', j', cl', hpl, _, _, rfl, hL⟩
          obtain ⟨rfl, rfl⟩ : LL = LL' ∧ u = u' := by
            have := HL.out.1.symm.trans hpl
            simpa using this
          have B5 := Lib.hid (B4.out.trans (hb5.mono B4.out.size))
          have HX5 := Lib.hid (HX4.out.later hb5)
          have HY5 := Lib.hid (HY4.out.later hb5)
          have HL5 := Lib.hid (And.intro (HL.out.2.later hb5) hL)
          have R1 := right_any _ n L w5 (H1.out.later B5.out)
          clear hpl hL hb5
          have RR := fun w' h => right_ref _ n L w' (H1.out.later (w' := w') h)
          generalize okOps L = ok at R1 RR
          generalize bytesOf L = by' at *
          generalize errOf L = er at *
          have HRR := Lib.hid RR
          clear RR
          go_wp2_with (first | (go_at_call 13; refine R1.mono ?_; rintro e w6 ⟨rfl, hb6⟩; have B6 := Lib.hid (B5.out.trans (hb6.mono B5.out.size)); have cx1 := conv_reads (HX5.out.later hb6); have cy1 := conv_reads (HY5.out.later hb6); have S := same_b_true _ _ _ _ LL w6 (HL5.out.1.later hb6) (HL5.out.2.later hb6); have R2 := HRR.out w6 B6.out; clear R1 hb6) | (go_at_call 14; refine R2.mono ?_; rintro e w' ⟨rfl, rfl⟩) | (go_at_call 15; refine (num_code _ _).mono ?_; rintro e w' ⟨rfl, rfl⟩) | (go_at_call 16; refine S.mono ?_; rintro e w' ⟨rfl, jj, rfl⟩; clear S cx1 cy1 R2) | (go_at_call 8; refine (awake_batch _ (HTB.out.later (below_drewN B6.out jj))).mono ?_; rintro e w' ⟨rfl, hb9⟩))
          go_ret
          exact ⟨rfl, (below_drewN B6.out jj).trans (hb9.mono B6.out.size)⟩

end Go.Proofs.YtgpacbmiliefiaaDoor
