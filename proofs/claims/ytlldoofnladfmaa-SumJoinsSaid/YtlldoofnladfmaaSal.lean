/- The sum's example; SumAll and SumJoins, walked. Numbers and types by name. -/
import Derived.Test.YtlldoofnladfmaaSmo
namespace Go.Proofs.Ytlldoofnladfmaa
open Go.RowKit Go.Lib

def nine : List UInt8 := [49, 50, 51, 52, 53, 54, 55, 56, 57]

theorem sum_nine : sumOf 0 nine = 3421780262 := by kernel_rfl

theorem awake_sum (w : World) : Calls Try.prog 11 #[] w fun e w' => e = .returned (.bool true) ∧ Below w.heap.size w w' := by
  have kc := fun (w : World) (C : Array Value) (n c : Nat) => Lib.run_convert_bytes_const (P := Try.prog) w 22 5 C n c Try.underlying22 Try.underlying5
  go_enter Try.func11, Try.ntmps11
  go_wp2_with fail
  refine (sum_any _ 9 nine _ (Reads.lit w (bv nine) 5 (9, 10) 9 rfl) rfl (Lib.hid (by decide))).mono ?_
  rintro e w1 ⟨rfl, rfl⟩
  rw [sum_nine]
  go_wp2_with fail
  go_ret
  exact ⟨rfl, (Below.refl _ w).alloc (Nat.le_refl _) _⟩

theorem all_sum (v : Value) (s : Int) (m : Nat) (l : List UInt8) (w : World) (hr : Reads w v (bv l)) (hm : m = l.length) :
    Calls Try.prog 3 #[v, .int .i64 s] w fun e w' => e = .returned (.bool true) ∧ Below w.heap.size w w' := by
  obtain ⟨ao, c, rfl⟩ : ∃ ao c, v = .slice ao m c := by obtain ⟨ao, c, rfl, _⟩ := hr; exact ⟨ao, c, by rw [bv_length, hm]⟩
  by_cases h5 : 5000 < m
  · have h6 : (5000 : Int) < (m : Int) := by omega
    clear hm hr
    go_enter Try.func3, Try.ntmps3
    go_wp2_with fail
    go_ret
    exact ⟨rfl, Below.refl _ _⟩
  · have h6 : ¬ (5000 : Int) < (m : Int) := by omega
    have hl : Hid (m ≤ 1000000000) := Lib.hid (by omega)
    have C1 := sum_any _ m l w hr hm hl
    have C2 := ref_sum _ m l w hr hm hl
    have C3 := more_any s _ m l w hr hm hl
    have C4 := ref_more s _ m l w hr hm hl
    generalize sumOf 0 l = x at *
    generalize sumOf s l = y at *
    clear hm hr h5
    go_enter Try.func3, Try.ntmps3
    go_wp2_with (first | (go_at_call 7; refine C1.mono ?_; rintro e w' ⟨rfl, rfl⟩) | (go_at_call 8; refine C2.mono ?_; rintro e w' ⟨rfl, rfl⟩) | (go_at_call 9; refine C3.mono ?_; rintro e w' ⟨rfl, rfl⟩) | (go_at_call 10; refine C4.mono ?_; rintro e w' ⟨rfl, rfl⟩) | (go_at_call 11; refine (awake_sum _).mono ?_; rintro e w' ⟨rfl, hb9⟩))
    go_ret
    exact ⟨rfl, hb9⟩

end Go.Proofs.Ytlldoofnladfmaa
