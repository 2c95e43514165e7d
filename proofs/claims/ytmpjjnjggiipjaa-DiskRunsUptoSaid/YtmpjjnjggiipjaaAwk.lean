/- The document's example: awake. Numbers and types by name. -/
import Derived.Test.YtmpjjnjggiipjaaOne
import Derived.Test.YtmpjjnjggiipjaaNil
import Derived.Laws.IdiomStrings
import Derived.Lib.SlBytesConst
namespace Go.Proofs.Ytmpjjnjggiipjaa
open Go.RowKit Go.Maps Go.Sort Go.WideMaps

def fName : ByteArray := ⟨#[102]⟩

set_option maxHeartbeats 800000 in
set_option maxRecDepth 100000 in
theorem awake1_any (w : World) : Calls Try.prog 5 #[] w fun e w' => e = .returned (.bool true) ∧ Below w.heap.size w w' := by
  have kc := fun (w : World) (C : Array Value) (n c : Nat) => Lib.run_convert_bytes_const (P := Try.prog) w 33 5 C n c Try.underlying33 Try.underlying5
  go_enter Try.func5, Try.ntmps5
  go_wp2_with fail
  have hk := Reads.lit w (iv [1]) 3 (0, 0) 1 rfl
  refine (new_zero 100 (.slice (some ⟨w.heap.size, 0, none⟩) 1 1) [1] _ hk (by simp)).mono ?_
  rintro e w1 ⟨b, rfl, hz, hg⟩
  have hz' := hz
  unfold theDisk
  have B1 : Below w.heap.size w w1 := ((Below.refl _ w).alloc (Nat.le_refl _) _).trans ((below_of_grown hg).mono (by simp))
  have HZ := Lib.hid hz
  clear hz hk hg hz'
  go_wp2_with fail
  refine (create_one _ b 100 0 [1] fName w1 HZ.out (by omega) (by kernel_rfl) (by unfold maxLen; decide)).mono ?_
  rintro e w2 ⟨rfl, ho, hb2⟩
  have B2 : Below w.heap.size w w2 := B1.trans (hb2.mono (by simp))
  have HO := Lib.hid ho
  clear ho hb2 HZ B1
  go_wp2_with fail
  have hbs : b < w2.heap.size := by obtain ⟨_, S, s, f, hR, _⟩ := HO.out; exact hR.disk.lt
  have ta : Turn [] w2 (w2.alloc (.cells #[.int .u8 97, .int .u8 98] 5 (2, 3))) := (Turn.refl [] w2).alloc _
  have hv2 := Reads.lit w2 (bv [97, 98]) 5 (2, 3) 2 rfl
  refine (append_one _ b _ _ 0 100 _ [1] fName (.slice (some ⟨w2.heap.size, 0, none⟩) 2 2) [97, 98] _ (HO.out.new ta) (by omega) rfl (by unfold maxLen; decide) hv2 (by intro _ a n c e; cases e; show w2.heap.size ≠ b; omega) (by simp) (by simp)).mono ?_
  rintro e w3 ⟨rfl, ho, hb3⟩
  have B3 : Below w.heap.size w w3 := (B2.trans ((Below.refl _ w2).alloc B2.size _)).trans (hb3.mono (by simp))
  have HO3 := Lib.hid ho
  clear ho hb3 HO B2 hv2 ta hbs
  go_wp2_with fail
  refine (sync_one _ b _ _ 0 100 _ [1] fName w3 HO3.out (by omega) rfl (by unfold maxLen; decide)).mono ?_
  rintro e w4 ⟨rfl, ho, hb4⟩
  have B4 : Below w.heap.size w w4 := B3.trans (hb4.mono (by simp))
  have HO4 := Lib.hid ho
  clear ho hb4 HO3 B3
  go_wp2_with fail
  have hbs : b < w4.heap.size := by obtain ⟨_, S, s, f, hR, _⟩ := HO4.out; exact hR.disk.lt
  have ta : Turn [] w4 (w4.alloc (.cells #[.int .u8 99, .int .u8 100] 5 (2, 3))) := (Turn.refl [] w4).alloc _
  have hv2 := Reads.lit w4 (bv [99, 100]) 5 (2, 3) 2 rfl
  refine (append_one _ b _ _ _ 100 _ [1] fName (.slice (some ⟨w4.heap.size, 0, none⟩) 2 2) [99, 100] _ (HO4.out.new ta) (by omega) rfl (by unfold maxLen; decide) hv2 (by intro _ a n c e; cases e; show w4.heap.size ≠ b; omega) (by simp) (by simp)).mono ?_
  rintro e w5 ⟨rfl, ho, hb5⟩
  have B5 : Below w.heap.size w w5 := (B4.trans ((Below.refl _ w4).alloc B4.size _)).trans (hb5.mono (by simp))
  have HO5 := Lib.hid ho
  clear ho hb5 HO4 B4 hv2 ta hbs
  go_wp2_with fail
  refine (restart_one _ b _ _ _ 100 _ [1] 0 w5 HO5.out (by unfold maxLen; decide) (by simp) (by simp)).mono ?_
  rintro e w6 ⟨rfl, ho, hb6⟩
  have B6 : Below w.heap.size w w6 := B5.trans (hb6.mono (by simp))
  have HO6 := Lib.hid ho
  clear ho hb6 HO5 B5
  go_wp2_with fail
  refine (read_one _ b _ _ _ 0 _ [] fName w6 HO6.out rfl (by unfold maxLen; decide) (by simp)).mono ?_
  rintro e w7 ⟨ao, c, rfl, hown, hg⟩
  have B7 : Below w.heap.size w w7 := B6.trans ((below_of_grown hg).mono B6.size)
  have hown2 : w7.ownsRow w6.heap.size 5 1 (.slice ao ([97, 98, 99] : List UInt8).length c) ([97, 98, 99] : List UInt8).length (bv [97, 98, 99]) := hown
  have hcv := conv_reads (owns_reads hown2)
  simp only [List.length_cons, List.length_nil, Nat.reduceAdd] at hcv
  have HB := Lib.hid B7
  clear hown hown2 hg B7 B6 HO6
  go_wp2_with (go_at_call 17; refine (num1_any _ _).mono ?_; rintro e w' ⟨rfl, rfl⟩)
  go_ret
  exact ⟨rfl, HB.out⟩

end Go.Proofs.Ytmpjjnjggiipjaa
