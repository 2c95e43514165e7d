/- SumJoins, walked. Numbers and types by name. -/
import Derived.Test.YtlldoofnladfmaaSal
import Derived.Test.YtlldoofnladfmaaBel
import Derived.Test.YtlldoofnladfmaaMov
namespace Go.Proofs.Ytlldoofnladfmaa
open Go.RowKit Go.Lib

set_option maxHeartbeats 1000000 in
theorem joins_sum (v1 v2 : Value) (m1 m2 : Nat) (a b : List UInt8) (w : World) (h1 : Reads w v1 (bv a)) (h2 : Reads w v2 (bv b)) (e1 : m1 = a.length) (e2 : m2 = b.length) (hx1 : Hid (m1 ≤ maxLen)) (hx2 : Hid (m2 ≤ maxLen)) :
    Calls Try.prog 4 #[v1, v2] w fun e w' => e = .returned (.bool true) ∧ Below w.heap.size w w' := by
  obtain ⟨a1, c1, rfl⟩ : ∃ ao c, v1 = .slice ao m1 c := by obtain ⟨ao, c, rfl, _⟩ := h1; exact ⟨ao, c, by rw [bv_length, e1]⟩
  obtain ⟨a2, c2, rfl⟩ : ∃ ao c, v2 = .slice ao m2 c := by obtain ⟨ao, c, rfl, _⟩ := h2; exact ⟨ao, c, by rw [bv_length, e2]⟩
  have HA := Lib.hid (And.intro h1 e1)
  have HB := Lib.hid (And.intro h2 e2)
  clear h1 h2 e1 e2
  by_cases b1 : 3000 < m1
  · have d1 : (3000 : Int) < (m1 : Int) := by omega
    go_enter Try.func4, Try.ntmps4
    go_wp2_with (go_at_call 11; refine (awake_sum _).mono ?_; rintro e w' ⟨rfl, hb9⟩)
    go_ret
    exact ⟨rfl, hb9⟩
  have d1 : ¬ (3000 : Int) < (m1 : Int) := by omega
  by_cases b2 : 3000 < m2
  · have d2 : (3000 : Int) < (m2 : Int) := by omega
    go_enter Try.func4, Try.ntmps4
    go_wp2_with (go_at_call 11; refine (awake_sum _).mono ?_; rintro e w' ⟨rfl, hb9⟩)
    go_ret
    exact ⟨rfl, hb9⟩
  have d2 : ¬ (3000 : Int) < (m2 : Int) := by omega
  have F1 : Hid (m1 ≤ maxLen) := Lib.hid (by unfold maxLen; omega)
  have F2 : Hid (m1 * 1 ≤ 140737488355328) := Lib.hid (by omega)
  have F3 : Hid (m1 + m2 ≤ maxLen) := Lib.hid (by unfold maxLen; omega)
  have F4 : Hid ((m1 + m2) * 1 ≤ 140737488355328) := Lib.hid (by omega)
  have L1 : Hid (m1 ≤ 1000000000) := Lib.hid (by omega)
  have L2 : Hid (m2 ≤ 1000000000) := Lib.hid (by omega)
  have L3 : Hid (m1 + m2 ≤ 1000000000) := Lib.hid (by omega)
  clear b1 b2
  go_enter Try.func4, Try.ntmps4
  go_wp2_with (first | (at_builtin; refine wpList_append_bytes rfl (.tmp 15) (.tmp 16) rfl w.heap.size _ 0 [] rfl (Bs.empty w w.heap.size (Nat.le_refl _)) (.slice a1 m1 c1) m1 a HA.out.2 rfl (HA.out.1.alloc _) m1 (by omega) F1 F2 (by simp) ?_; intro ao3 c3 w3 hown3 hb3) | (at_builtin; refine wpList_append_bytes rfl (.tmp 18) (.tmp 19) rfl w.heap.size _ m1 _ rfl hown3 (.slice a2 m2 c2) m2 b HB.out.2 rfl (HB.out.1.later (((Below.refl _ w).alloc (Nat.le_refl _) _).trans hb3)) (m1 + m2) rfl F3 F4 (Nat.le_trans (by simp) hb3.size) ?_; intro ao4 c4 w4 hown4 hb4))
  have B4 : Below w.heap.size w w4 := ((((Below.refl _ w).alloc (Nat.le_refl _) _).trans hb3)).trans hb4
  have C1 := sum_any _ m1 a w4 (HA.out.1.later B4) HA.out.2 L1
  have C2 := more_any (sumOf 0 a) _ m2 b w4 (HB.out.1.later B4) HB.out.2 L2
  have C3 := sum_any _ (m1 + m2) _ w4 hown4.reads hown4.1 L3
  have C4 := more_any (sumOf 0 ([] ++ a ++ b)) _ 0 [] w4 (Reads.nil w4) rfl (Lib.hid (by decide))
  rw [sumOf_append, List.nil_append] at *
  rw [List.append_nil] at C4
  have HB4 := Lib.hid B4
  generalize sumOf 0 a = x at *
  generalize sumOf 0 (a ++ b) = z at *
  clear hown3 hb3 hown4 hb4 B4
  go_wp2_with fail
  refine C1.mono ?_
  rintro e w5 ⟨rfl, h5⟩
  subst h5
  go_wp2_with fail
  refine C2.mono ?_
  rintro e w5 ⟨rfl, h5⟩
  subst h5
  go_wp2_with fail
  refine C3.mono ?_
  rintro e w5 ⟨rfl, h5⟩
  subst h5
  go_wp2_with fail
  refine C3.mono ?_
  rintro e w5 ⟨rfl, h5⟩
  subst h5
  go_wp2_with fail
  refine C4.mono ?_
  rintro e w5 ⟨rfl, h5⟩
  subst h5
  go_wp2_with fail
  refine C3.mono ?_
  rintro e w5 ⟨rfl, h5⟩
  subst h5
  clear C1 C2 C3 C4
  go_wp2_with (go_at_call 11; refine (awake_sum _).mono ?_; rintro e w' ⟨rfl, hb9⟩)
  go_ret
  exact ⟨rfl, HB4.out.trans (hb9.mono HB4.out.size)⟩

end Go.Proofs.Ytlldoofnladfmaa
