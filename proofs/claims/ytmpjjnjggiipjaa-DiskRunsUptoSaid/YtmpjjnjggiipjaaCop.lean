/- The copies of lists: 'copied' at int and at byte; what a slice value reads as. Numbers and types by name. -/
import Derived.Test.YtmpjjnjggiipjaaBas
import Derived.WalkKit
import Derived.WalkLawsBesides
import Derived.Lib.Hide
import Derived.BigQuiet
import Derived.Deep.QuietTactic
import Derived.ArgAppend
namespace Go.Proofs.Ytmpjjnjggiipjaa
open Go.RowKit

theorem copied_int (v : Value) (zs : List Int) (w : World) (hr : Reads w v (iv zs)) (hz : zs.length * 8 ≤ 140737488355328) :
    Calls Try.prog 40 #[v] w fun e w' => ∃ ao c, e = .returned (.slice ao zs.length c) ∧ w'.ownsRow w.heap.size 3 1 (.slice ao zs.length c) zs.length (iv zs) ∧ w.grownBy w' none := by
  obtain ⟨i0, hi, hz0, hz1, hz2⟩ := info_parts info_int
  obtain ⟨ao, cap, rfl, _, hn, hc⟩ := hr
  rw [iv_length]
  cases ao with
  | none =>
    obtain ⟨h0, rfl⟩ := hn rfl
    obtain rfl : zs = [] := by simpa [iv] using h0
    have hrun := fun ty => run_append_owned_none (P := Try.prog) w w.heap.size 22 ty 3 i0 1 Try.underlying22 hi (.slice none 0 0) 0 [] (World.ownsRow_nil _ _ _ _)
    clear hn hc
    go_enter Try.func40, Try.ntmps40
    go_wp2
    go_ret
    exact ⟨none, 0, rfl, World.ownsRow_nil _ _ _ _, ⟨rfl, rfl, rfl, Nat.le_refl _, fun _ _ _ => rfl⟩⟩
  | some a =>
    have hc' := hc a rfl
    have hl := iv_length zs
    have H1 : Hid ((iv zs).length = zs.length * 1) := Lib.hid (by rw [hl]; omega)
    have H2 : Hid (0 + zs.length ≤ maxLen) := Lib.hid (by unfold maxLen; omega)
    have H3 : Hid ((0 + zs.length) * 8 ≤ 140737488355328) := Lib.hid (by omega)
    clear hn hc hl hz
    have h1 := iv_one zs
    generalize iv zs = xs at *
    go_enter Try.func40, Try.ntmps40
    go_wp2_with (at_builtin; refine wpList_append_own _ rfl _ _ 22 rfl w.heap.size 3 i0 (.int .i64 0) 1 8 Try.underlying22 hi hz0 hz1 hz2 rfl (by decide) _ 0 [] rfl (World.ownsRow_nil _ _ _ _) a zs.length cap xs rfl H1.out hc' h1 H2.out H3.out (Nat.le_refl _) ?_; intro v' w1 hown hgrow _)
    go_ret
    simp only [Nat.zero_add, List.nil_append] at hown
    obtain ⟨ao, c, rfl⟩ := owns_shape hown
    exact ⟨ao, c, rfl, hown, hgrow⟩

theorem copied_int_nil (w : World) : Calls Try.prog 40 #[.slice none 0 0] w fun e w' => e = .returned (.slice none 0 0) ∧ w = w' := by
  obtain ⟨i0, hi, hz0, hz1, hz2⟩ := info_parts info_int
  have hrun := fun ty => run_append_owned_none (P := Try.prog) w w.heap.size 22 ty 3 i0 1 Try.underlying22 hi (.slice none 0 0) 0 [] (World.ownsRow_nil _ _ _ _)
  go_enter Try.func40, Try.ntmps40
  go_wp2
  go_ret
  exact ⟨rfl, rfl⟩

theorem copied_byte (v : Value) (l : List UInt8) (w : World) (hr : Reads w v (bv l)) (hz : l.length ≤ 140737488355328) :
    Calls Try.prog 39 #[v] w fun e w' => ∃ ao c, e = .returned (.slice ao l.length c) ∧ w'.ownsRow w.heap.size 5 1 (.slice ao l.length c) l.length (bv l) ∧ w.grownBy w' none := by
  obtain ⟨i0, hi, hz0, hz1, hz2⟩ := info_parts info_byte
  obtain ⟨ao, cap, rfl, _, hn, hc⟩ := hr
  rw [bv_length]
  cases ao with
  | none =>
    obtain ⟨h0, rfl⟩ := hn rfl
    obtain rfl : l = [] := by simpa [bv] using h0
    have hrun := fun ty => run_append_owned_none (P := Try.prog) w w.heap.size 33 ty 5 i0 1 Try.underlying33 hi (.slice none 0 0) 0 [] (World.ownsRow_nil _ _ _ _)
    clear hn hc
    go_enter Try.func39, Try.ntmps39
    go_wp2
    go_ret
    exact ⟨none, 0, rfl, World.ownsRow_nil _ _ _ _, ⟨rfl, rfl, rfl, Nat.le_refl _, fun _ _ _ => rfl⟩⟩
  | some a =>
    have hc' := hc a rfl
    have hl := bv_length l
    have H1 : Hid ((bv l).length = l.length * 1) := Lib.hid (by rw [hl]; omega)
    have H2 : Hid (0 + l.length ≤ maxLen) := Lib.hid (by unfold maxLen; omega)
    have H3 : Hid ((0 + l.length) * 1 ≤ 140737488355328) := Lib.hid (by omega)
    clear hn hc hl hz
    have h1 := bv_one l
    generalize bv l = xs at *
    go_enter Try.func39, Try.ntmps39
    go_wp2_with (at_builtin; refine wpList_append_own _ rfl _ _ 33 rfl w.heap.size 5 i0 (.int .u8 0) 1 1 Try.underlying33 hi hz0 hz1 hz2 rfl (by decide) _ 0 [] rfl (World.ownsRow_nil _ _ _ _) a l.length cap xs rfl H1.out hc' h1 H2.out H3.out (Nat.le_refl _) ?_; intro v' w1 hown hgrow _)
    go_ret
    simp only [Nat.zero_add, List.nil_append] at hown
    obtain ⟨ao, c, rfl⟩ := owns_shape hown
    exact ⟨ao, c, rfl, hown, hgrow⟩

end Go.Proofs.Ytmpjjnjggiipjaa
