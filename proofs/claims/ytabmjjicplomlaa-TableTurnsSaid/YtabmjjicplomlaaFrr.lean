/- The reference's Frame. Numbers and types by name. -/
import Derived.Test.YtabmjjicplomlaaRws
import Derived.Test.YtabmjjicplomlaaRsm
import Derived.Test.YtabmjjicplomlaaRnu
namespace Go.Proofs.Ytabmjjicplomlaa
open Go.RowKit Go.Lib

theorem ref_frame (v : Value) (m : Nat) (p : List UInt8) (w : World) (hr : Reads w v (bv p)) (hm : m = p.length) (hl : m ≤ 1048576) :
    Calls Try.prog 26 #[v] w fun e w' => ∃ ao c, e = .returned (.tuple #[.slice ao (m + 8) c, .int .i64 0]) ∧ Bs w' w.heap.size (.slice ao (m + 8) c) (m + 8) (frm p) ∧ Below w.heap.size w w' := by
  obtain ⟨a1, c1, rfl⟩ : ∃ ao c, v = .slice ao m c := by obtain ⟨ao, c, rfl, _⟩ := hr; exact ⟨ao, c, by rw [bv_length, hm]⟩
  have h1 : ¬ (1048576 : Int) < (m : Int) := by omega
  have L : Hid (m ≤ 1000000000) := Lib.hid (by omega)
  have F1 : Hid (8 ≤ maxLen) := Lib.hid (by unfold maxLen; omega)
  have F2 : Hid (8 * 1 ≤ 140737488355328) := Lib.hid (by omega)
  have F3 : Hid (m + 8 ≤ maxLen) := Lib.hid (by unfold maxLen; omega)
  have F4 : Hid ((m + 8) * 1 ≤ 140737488355328) := Lib.hid (by omega)
  have HR := Lib.hid (And.intro hr hm)
  clear hr hm hl
  go_enter Try.func26, Try.ntmps26
  go_wp2_with fail
  refine (ref_u32 (m : Int) w).mono ?_
  rintro e w1 ⟨ao2, c2, rfl, hown2, hb2⟩
  go_wp2_with fail
  refine (ref_sum _ m p w1 (HR.out.1.later hb2) HR.out.2 L).mono ?_
  rintro e w1' ⟨rfl, hw1⟩
  subst hw1
  go_wp2_with fail
  refine (ref_u32 (sumOf 0 p) w1').mono ?_
  rintro e w3 ⟨ao3, c3, rfl, hown3, hb3⟩
  go_wp2_with (first | (at_builtin; refine wpList_append_bytes rfl (.tmp 10) (.tmp 13) rfl w.heap.size (.slice ao2 4 c2) 4 _ rfl (hown2.below hb3 (Nat.le_refl _)) (.slice ao3 4 c3) 4 _ rfl rfl hown3.reads 8 rfl F1 F2 (Nat.le_trans hb2.size hb3.size) ?_; intro ao4 c4 w4 hown4 hb4) | (at_builtin; refine wpList_append_bytes rfl (.tmp 15) (.tmp 16) rfl w.heap.size (.slice ao4 8 c4) 8 _ rfl hown4 (.slice a1 m c1) m p HR.out.2 rfl (HR.out.1.later ((hb2.trans (hb3.mono hb2.size)).trans hb4)) (m + 8) (by omega) F3 F4 (Nat.le_trans (Nat.le_trans hb2.size hb3.size) hb4.size) ?_; intro ao5 c5 w5 hown5 hb5))
  go_ret2
  refine ⟨ao5, c5, rfl, ?_, ((hb2.trans (hb3.mono hb2.size)).trans hb4).trans hb5⟩
  have hm := HR.out.2
  unfold frm
  rw [← hm]
  exact hown5

theorem ref_frame_long (v : Value) (m : Nat) (p : List UInt8) (w : World) (hr : Reads w v (bv p)) (hm : m = p.length) (hl : ¬ m ≤ 1048576) :
    Calls Try.prog 26 #[v] w fun e w' => e = .returned (.tuple #[.slice none 0 0, .int .i64 9]) ∧ w' = w := by
  obtain ⟨a1, c1, rfl⟩ : ∃ ao c, v = .slice ao m c := by obtain ⟨ao, c, rfl, _⟩ := hr; exact ⟨ao, c, by rw [bv_length, hm]⟩
  have h1 : (1048576 : Int) < (m : Int) := by omega
  clear hr hm hl
  go_enter Try.func26, Try.ntmps26
  go_wp2_with fail
  go_ret2
  exact ⟨rfl, rfl⟩

end Go.Proofs.Ytabmjjicplomlaa
