/- Frame of the code. Numbers and types by name. -/
import Derived.Test.YtabmjjicplomlaaRws
import Derived.Test.YtabmjjicplomlaaNum
import Derived.Test.YtabmjjicplomlaaSmo
import Derived.Test.YtabmjjicplomlaaCon
import Derived.Test.YtabmjjicplomlaaRwv
namespace Go.Proofs.Ytabmjjicplomlaa
open Go.RowKit Go.Lib

theorem frame_any (v : Value) (m : Nat) (p : List UInt8) (w : World) (hr : Reads w v (bv p)) (hm : m = p.length) (hl : m ≤ 1048576) :
    Calls Try.prog 24 #[v] w fun e w' => ∃ ao c, e = .returned (.tuple #[.slice ao (m + 8) c, .int .i64 0]) ∧ Bs w' w.heap.size (.slice ao (m + 8) c) (m + 8) (frm p) ∧ Below w.heap.size w w' := by
  obtain ⟨a1, c1, rfl⟩ : ∃ ao c, v = .slice ao m c := by obtain ⟨ao, c, rfl, _⟩ := hr; exact ⟨ao, c, by rw [bv_length, hm]⟩
  have h1 : ¬ (1048576 : Int) < (m : Int) := by omega
  have L : Hid (m ≤ 1000000000) := Lib.hid (by omega)
  have HR := Lib.hid (And.intro hr hm)
  clear hr hm hl
  go_enter Try.func24, Try.ntmps24
  go_wp2_with fail
  refine (u32_any (m : Int) w).mono ?_
  rintro e w1 ⟨ao2, c2, rfl, hown2, hb2⟩
  go_wp2_with fail
  refine (sum_any _ m p w1 (HR.out.1.later hb2) HR.out.2 L).mono ?_
  rintro e w1' ⟨rfl, hw1⟩
  subst hw1
  go_wp2_with fail
  refine (u32_any (sumOf 0 p) w1').mono ?_
  rintro e w3 ⟨ao3, c3, rfl, hown3, hb3⟩
  have HL3 : Hid (Rws (w3.alloc (.cells #[.slice ao2 4 c2, .slice ao3 4 c3, .slice a1 m c1] 24)) (.slice (some ⟨w3.heap.size, 0, none⟩) 3 3) 3 [be4 (m : Int), be4 (sumOf 0 p), p]) := Lib.hid (by
    have R2 := ((hown2.below hb3 (Nat.le_refl _)).alloc (.cells #[.slice ao2 4 c2, .slice ao3 4 c3, .slice a1 m c1] 24)).reads
    have R3 := (hown3.alloc (.cells #[.slice ao2 4 c2, .slice ao3 4 c3, .slice a1 m c1] 24)).reads
    have R1 := (HR.out.1.later (hb2.trans (hb3.mono hb2.size))).alloc (.cells #[.slice ao2 4 c2, .slice ao3 4 c3, .slice a1 m c1] 24)
    have hm := HR.out.2
    have L' := L.out
    refine Rws.of_vals (Reads.lit w3 [.slice ao2 4 c2, .slice ao3 4 c3, .slice a1 m c1] 24 _ 3 rfl) rfl ⟨rfl, fun j q hj => ?_⟩ (by unfold maxLen; decide)
    rcases j with _ | _ | _ | j
    · simp at hj; subst hj; exact ⟨ao2, c2, by rw [be4_length]; rfl, by rw [be4_length]; exact R2, by rw [be4_length]; unfold maxLen; decide⟩
    · simp at hj; subst hj; exact ⟨ao3, c3, by rw [be4_length]; rfl, by rw [be4_length]; exact R3, by rw [be4_length]; unfold maxLen; decide⟩
    · simp at hj; subst hj; exact ⟨a1, c1, by rw [← hm]; rfl, by rw [← hm]; exact R1, by rw [← hm]; unfold maxLen; omega⟩
    · simp at hj)
  have HL4 : Hid ([be4 (m : Int), be4 (sumOf 0 p), p].flatten.length = m + 8 ∧ [be4 (m : Int), be4 (sumOf 0 p), p].flatten = frm p) := Lib.hid (by
    have hm := HR.out.2
    refine ⟨by simp [be4_length]; omega, ?_⟩
    unfold frm
    rw [← hm]
    simp)
  have HB := Lib.hid ((hb2.trans (hb3.mono hb2.size)).trans ((Below.refl w.heap.size w3).alloc (Nat.le_trans hb2.size hb3.size) (.cells #[.slice ao2 4 c2, .slice ao3 4 c3, .slice a1 m c1] 24)))
  have HC := concat_any _ 3 _ _ HL3.out (Lib.hid ⟨by omega, by rw [HL4.out.1]; have := L.out; omega⟩)
  rw [HL4.out.1, HL4.out.2] at HC
  clear hown2 hown3 hb2 hb3 HL3 HL4
  go_wp2_with fail
  refine HC.mono ?_
  rintro e w5 ⟨ao5, c5, rfl, hown5, hb5⟩
  have HB5 := Lib.hid (And.intro (hown5.base HB.out.size) (HB.out.trans (hb5.mono HB.out.size)))
  clear hown5 hb5 HC
  go_wp2_with fail
  go_ret2
  exact ⟨ao5, c5, rfl, HB5.out.1, HB5.out.2⟩

theorem frame_long (v : Value) (m : Nat) (p : List UInt8) (w : World) (hr : Reads w v (bv p)) (hm : m = p.length) (hl : ¬ m ≤ 1048576) :
    Calls Try.prog 24 #[v] w fun e w' => e = .returned (.tuple #[.slice none 0 0, .int .i64 9]) ∧ w' = w := by
  obtain ⟨a1, c1, rfl⟩ : ∃ ao c, v = .slice ao m c := by obtain ⟨ao, c, rfl, _⟩ := hr; exact ⟨ao, c, by rw [bv_length, hm]⟩
  have h1 : (1048576 : Int) < (m : Int) := by omega
  clear hr hm hl
  go_enter Try.func24, Try.ntmps24
  go_wp2_with fail
  go_ret2
  exact ⟨rfl, rfl⟩

end Go.Proofs.Ytabmjjicplomlaa
