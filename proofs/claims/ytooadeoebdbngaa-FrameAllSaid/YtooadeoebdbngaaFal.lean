/- FrameAll, walked. Numbers and types by name. -/
import Derived.Test.YtooadeoebdbngaaAwf
import Derived.Test.YtooadeoebdbngaaRwl
import Derived.Test.YtooadeoebdbngaaFrr
namespace Go.Proofs.Ytooadeoebdbngaa
open Go.RowKit Go.Lib

theorem bulk_scans {b : List UInt8} {l : List (List UInt8)} {n : Nat} (h : Scans b l n) : 8 * l.length ≤ n := by
  induction h with
  | stop _ => simp
  | more _ _ ih => rw [List.length_cons]; omega

theorem same_true (v1 v2 : Value) (n m : Nat) (ps : List (List UInt8)) (w : World) (h1 : Rws w v1 n ps) (h2 : Rws w v2 m ps) :
    Calls Try.prog 13 #[v1, v2] w fun e w' => e = .returned (.bool true) ∧ ∃ k, w' = w.drewN k :=
  (same_rows v1 v2 n m ps ps w h1 h2).mono fun e w' ⟨b, k, he, hw, hb⟩ => ⟨by rw [he, hb.2 rfl], k, hw⟩

theorem all_frame (v1 v2 : Value) (n m : Nat) (p b : List UInt8) (w : World) (h1 : Reads w v1 (bv p)) (h2 : Reads w v2 (bv b)) (e1 : n = p.length) (e2 : m = b.length) :
    Calls Try.prog 3 #[v1, v2] w fun e w' => e = .returned (.bool true) ∧ Below w.heap.size w w' := by
  obtain ⟨a1, c1, rfl⟩ : ∃ ao c, v1 = .slice ao n c := by obtain ⟨ao, c, rfl, _⟩ := h1; exact ⟨ao, c, by rw [bv_length, e1]⟩
  obtain ⟨a2, c2, rfl⟩ : ∃ ao c, v2 = .slice ao m c := by obtain ⟨ao, c, rfl, _⟩ := h2; exact ⟨ao, c, by rw [bv_length, e2]⟩
  have H1 := Lib.hid (And.intro h1 e1)
  have H2 := Lib.hid (And.intro h2 e2)
  clear h1 h2 e1 e2
  by_cases b1 : 5000 < n
  · have d1 : (5000 : Int) < (n : Int) := by omega
    go_enter Try.func3, Try.ntmps3
    go_wp2_with (go_at_call 7; refine (awake_frame _).mono ?_; rintro e w' ⟨rfl, hb9⟩)
    go_ret
    exact ⟨rfl, hb9⟩
  have d1 : ¬ (5000 : Int) < (n : Int) := by omega
  by_cases b2 : 5000 < m
  · have d2 : (5000 : Int) < (m : Int) := by omega
    go_enter Try.func3, Try.ntmps3
    go_wp2_with (go_at_call 7; refine (awake_frame _).mono ?_; rintro e w' ⟨rfl, hb9⟩)
    go_ret
    exact ⟨rfl, hb9⟩
  have d2 : ¬ (5000 : Int) < (m : Int) := by omega
  go_enter Try.func3, Try.ntmps3
  go_wp2_with fail
  refine (frame_any _ n p w H1.out.1 H1.out.2 (by omega)).mono ?_
  rintro e w2 ⟨ax, cx, rfl, hx, hb2⟩
  have HX := Lib.hid (And.intro hx hb2)
  clear hx hb2
  go_wp2_with fail
  refine (ref_frame _ n p w2 (H1.out.1.later HX.out.2) H1.out.2 (by omega)).mono ?_
  rintro e w3 ⟨ay, cy, rfl, hy, hb3⟩
  have HY := Lib.hid (And.intro hy (HX.out.2.trans (hb3.mono HX.out.2.size)))
  have RX := Lib.hid (HX.out.1.reads.later hb3)
  clear hy hb3
  go_wp2_with fail
  refine (scan_any _ m b w3 (H2.out.1.later HY.out.2) H2.out.2 (Lib.hid (by omega))).mono ?_
  rintro e w4 ⟨hb4, l, k, al, cl, hs, hk, rfl, ho⟩
  have HL := Lib.hid (And.intro ho (And.intro hs hk))
  have B4 := Lib.hid (HY.out.2.trans (hb4.mono HY.out.2.size))
  have RX4 := Lib.hid (RX.out.later hb4)
  have RY4 := Lib.hid (HY.out.1.reads.later hb4)
  clear ho hs hk hb4
  go_wp2_with fail
  refine (ref_scan _ m b w4 (H2.out.1.later B4.out) H2.out.2 (Lib.hid (by omega))).mono ?_
  rintro e w5 ⟨hb5, l', k', al', cl', hs, hk, rfl, ho⟩
  obtain ⟨rfl, rfl⟩ := scans_det HL.out.2.1 hs
  have B5 := Lib.hid (B4.out.trans (hb5.mono B4.out.size))
  have hll := bulk_scans HL.out.2.1
  have S := same_true _ _ l.length l.length l w5 ((HL.out.1.later hb5).rows (by have := HL.out.2.2; have := H2.out.2; unfold maxLen; omega)) (ho.rows (by have := HL.out.2.2; have := H2.out.2; unfold maxLen; omega))
  have cx1 := conv_reads (RX4.out.later hb5)
  have cy1 := conv_reads (RY4.out.later hb5)
  clear hs hk ho hb5 hll
  generalize l.length = q at *
  generalize frm p = f at *
  clear RX RX4 RY4 HX HY HL
  go_wp2_with (first | (go_at_call 12; refine (num_code _ _).mono ?_; rintro e w' ⟨rfl, rfl⟩) | (go_at_call 13; refine S.mono ?_; rintro e w' ⟨rfl, j, rfl⟩; clear S cx1 cy1) | (go_at_call 7; refine (awake_frame _).mono ?_; rintro e w' ⟨rfl, hb9⟩))
  go_ret
  exact ⟨rfl, (below_drewN B5.out j).trans (hb9.mono B5.out.size)⟩

end Go.Proofs.Ytooadeoebdbngaa
