/- DiskRenames, walked. Numbers and types by name. -/
import Derived.Test.YtpojdjigckeccaaDk
import Derived.Test.YtpojdjigckeccaaKee
import Derived.StillTailTactics
namespace Go.Proofs.Ytpojdjigckeccaa
open Go.RowKit Go.Maps Go.Sort Go.WideMaps

def anName : ByteArray := ⟨#[97]⟩
def bnName : ByteArray := ⟨#[98]⟩
def cnName : ByteArray := ⟨#[99]⟩

set_option maxHeartbeats 1000000 in
set_option maxRecDepth 100000 in
theorem renames_walk0 (aoA aoB : Option Addr) (cA cB : Nat) (A B : List UInt8) (w : World) (hA : Reads w (.slice aoA A.length cA) (bv A)) (hB : Reads w (.slice aoB B.length cB) (bv B)) (hlA : A.length ≤ 500) (hlB : B.length ≤ 500) :
    Calls Try.prog 7 #[.slice aoA A.length cA, .slice aoB B.length cB, .bool false] w fun e w' => e = .returned (.bool true) ∧ Below w.heap.size w w' := by
  have HA := Lib.hid hA
  have HB := Lib.hid hB
  have k1 : ¬ (500 : Int) < (A.length : Int) := by omega
  have k2 : ¬ (500 : Int) < (B.length : Int) := by omega
  clear hA hB
  go_enter Try.func7, Try.ntmps7
  go_wp2_with fail
  refine (new_zero 5000 (.slice none 0 0) [] w (Reads.nil w) (by simp)).mono ?_
  rintro e w1 ⟨b, rfl, hz, hg⟩
  unfold theDisk
  have B1 : Below w.heap.size w w1 := (below_of_grown hg).mono (Nat.le_refl _)
  have HZ := Lib.hid (dk_zero hz)
  have hlow : w.heap.size ≤ b := (dk_zero hz).lt.2
  clear hz hg
  go_wp2_with fail
  refine (create_dk _ b [] 5000 0 [] anName w1 HZ.out (by omega) (by kernel_rfl) (by unfold maxLen; decide) rfl (by unfold maxLen; simp)).mono ?_
  rintro e w2 ⟨rfl, ho, hb2⟩
  have B2 : Below w.heap.size w w2 := B1.trans (hb2.mono (by simp))
  have H2 := Lib.hid (show Dk w2 w.heap.size b [([97], [], 0)] 5000 1 [] from ho)
  clear ho hb2 HZ B1
  go_wp2_with fail
  refine (append_dk _ b _ [97] [] 0 5000 _ [] anName (.slice aoA A.length cA) A w2 H2.out (by omega) rfl (by unfold maxLen; decide) (HA.out.below B2 (Nat.le_refl _)) (fun hx a n c e => by have := HA.out.lt hx a n c e; omega) (by simp [tot]; omega) (by simp [tot]; omega)).mono ?_
  rintro e w3 ⟨rfl, ho, hb3⟩
  have B3 : Below w.heap.size w w3 := B2.trans (hb3.mono (by simp))
  have H3 := Lib.hid (show Dk w3 w.heap.size b [([97], A, 0)] 5000 2 [] from ho)
  clear ho hb3 H2 B2
  go_wp2_with fail
  refine (sync_dk _ b _ [97] A 0 5000 _ [] anName w3 H3.out (by omega) rfl (by unfold maxLen; decide)).mono ?_
  rintro e w4 ⟨rfl, ho, hb4⟩
  have B4 : Below w.heap.size w w4 := B3.trans (hb4.mono (by simp))
  have H4 := Lib.hid (show Dk w4 w.heap.size b [([97], A, A.length)] 5000 3 [] from ho)
  clear ho hb4 H3 B3
  go_wp2_with fail
  refine (create_dk _ b _ 5000 _ [] bnName w4 H4.out (by omega) (by kernel_rfl) (by unfold maxLen; decide) rfl (by unfold maxLen; simp)).mono ?_
  rintro e w5 ⟨rfl, ho, hb5⟩
  have B5 : Below w.heap.size w w5 := B4.trans (hb5.mono (by simp))
  have H5 := Lib.hid (show Dk w5 w.heap.size b [([97], A, A.length), ([98], [], 0)] 5000 4 [] from ho)
  clear ho hb5 H4 B4
  go_wp2_with fail
  refine (append_dk _ b _ [98] [] 0 5000 _ [] bnName (.slice aoB B.length cB) B w5 H5.out (by omega) rfl (by unfold maxLen; decide) (HB.out.below B5 (Nat.le_refl _)) (fun hx a n c e => by have := HB.out.lt hx a n c e; omega) (by simp [tot]; omega) (by simp [tot]; omega)).mono ?_
  rintro e w6 ⟨rfl, ho, hb6⟩
  have B6 : Below w.heap.size w w6 := B5.trans (hb6.mono (by simp))
  have H6 := Lib.hid (show Dk w6 w.heap.size b [([97], A, A.length), ([98], B, 0)] 5000 5 [] from ho)
  clear ho hb6 H5 B5
  go_wp2_with fail
  refine (create_dk _ b _ 5000 _ [] cnName w6 H6.out (by omega) (by kernel_rfl) (by unfold maxLen; decide) rfl (by unfold maxLen; simp)).mono ?_
  rintro e w7 ⟨rfl, ho, hb7⟩
  have B7 : Below w.heap.size w w7 := B6.trans (hb7.mono (by simp))
  have H7 := Lib.hid (show Dk w7 w.heap.size b [([97], A, A.length), ([98], B, 0), ([99], [], 0)] 5000 6 [] from ho)
  clear ho hb7 H6 B6
  go_wp2_with fail
  refine (rename_dk _ b _ [97] A A.length 5000 _ [] anName bnName w7 H7.out (by omega) rfl (by kernel_rfl) (by kernel_rfl) (by unfold anName bnName; simp) (by unfold maxLen; decide) (by unfold maxLen; decide) (by simp [tot]; omega) (by unfold maxLen; simp)).mono ?_
  rintro e w8 ⟨rfl, ho, hb8⟩
  have B8 : Below w.heap.size w w8 := B7.trans (hb8.mono (by simp))
  have H8 := Lib.hid (show Dk w8 w.heap.size b [([99], [], 0), ([98], A, A.length)] 5000 7 [] from ho)
  clear ho hb8 H7 B7
  go_wp2_with fail
  refine (read_dk _ b _ [98] A A.length 5000 _ [] bnName w8 H8.out rfl (by unfold maxLen; decide) (by omega)).mono ?_
  rintro e wr ⟨ao, c, rfl, hown, hg⟩
  have BR : Below w.heap.size w wr := B8.trans ((below_of_grown hg).mono B8.size)
  have HR := Lib.hid (H8.out.new (Turn.of_none hg))
  have HN := Lib.hid (read_none_dk _ b _ 5000 _ [] anName wr HR.out rfl (by unfold maxLen; decide))
  unfold theDisk anName at HN
  have HW := Lib.hid hown
  clear hown hg H8 B8
  go_wp2_with fail
  refine HN.out.mono ?_
  rintro e wq ⟨rfl, rfl⟩
  have hown := HW.out
  obtain ⟨sA, hsA⟩ : ∃ sA : ByteArray, sA = ⟨A.toArray⟩ := ⟨_, rfl⟩
  have cv1 : ∀ n, (convert 33 9 (.slice ao A.length c)).run Try.prog (wr.drewN n) = .ok (.string sA) (wr.drewN n) := fun n => by rw [hsA]; exact conv_reads ((owns_reads hown).turn ((Turn.refl [] wr).drewN n) (by simp))
  have cv2 : ∀ n, (convert 33 9 (.slice aoA A.length cA)).run Try.prog (wr.drewN n) = .ok (.string sA) (wr.drewN n) := fun n => by rw [hsA]; exact conv_reads ((HA.out.below BR (Nat.le_refl _)).turn ((Turn.refl [] wr).drewN n) (by simp))
  have dv1 := cv1 0
  have dv2 := cv2 0
  rw [show wr.drewN 0 = wr from rfl] at dv1 dv2
  have HX := Lib.hid (And.intro BR HR.out)
  clear hown HN HW HR BR hsA cv1 cv2
  go_wp2_with (go_at_call 26; refine (num_any _ _).mono ?_; rintro e w' ⟨rfl, rfl⟩)
  refine (files_dk _ b _ 5000 _ [] wr HX.out.2 (by simp [tot]; omega) (by simp) (by unfold maxLen; simp)).mono ?_
  rintro e w13 ⟨ao2, c13, rfl, hg13⟩
  have B13 := Lib.hid (HX.out.1.trans ((Turn.of_none (F := []) hg13).below HX.out.1.size (by simp)))
  clear hg13 HX dv1 dv2
  go_wp2_with (go_at_call 13; refine (awake_any _).mono ?_; rintro e w' ⟨rfl, hb9⟩)
  go_ret
  exact ⟨rfl, B13.out.trans (hb9.mono B13.out.size)⟩

set_option maxHeartbeats 1000000 in
set_option maxRecDepth 100000 in
theorem renames_walk1 (aoA aoB : Option Addr) (cA cB : Nat) (A B : List UInt8) (w : World) (hA : Reads w (.slice aoA A.length cA) (bv A)) (hB : Reads w (.slice aoB B.length cB) (bv B)) (hlA : A.length ≤ 500) (hlB : B.length ≤ 500) :
    Calls Try.prog 7 #[.slice aoA A.length cA, .slice aoB B.length cB, .bool true] w fun e w' => e = .returned (.bool true) ∧ Below w.heap.size w w' := by
  have HA := Lib.hid hA
  have HB := Lib.hid hB
  have k1 : ¬ (500 : Int) < (A.length : Int) := by omega
  have k2 : ¬ (500 : Int) < (B.length : Int) := by omega
  clear hA hB
  go_enter Try.func7, Try.ntmps7
  go_wp2_with fail
  refine (new_zero 5000 (.slice none 0 0) [] w (Reads.nil w) (by simp)).mono ?_
  rintro e w1 ⟨b, rfl, hz, hg⟩
  unfold theDisk
  have B1 : Below w.heap.size w w1 := (below_of_grown hg).mono (Nat.le_refl _)
  have HZ := Lib.hid (dk_zero hz)
  have hlow : w.heap.size ≤ b := (dk_zero hz).lt.2
  clear hz hg
  go_wp2_with fail
  refine (create_dk _ b [] 5000 0 [] anName w1 HZ.out (by omega) (by kernel_rfl) (by unfold maxLen; decide) rfl (by unfold maxLen; simp)).mono ?_
  rintro e w2 ⟨rfl, ho, hb2⟩
  have B2 : Below w.heap.size w w2 := B1.trans (hb2.mono (by simp))
  have H2 := Lib.hid (show Dk w2 w.heap.size b [([97], [], 0)] 5000 1 [] from ho)
  clear ho hb2 HZ B1
  go_wp2_with fail
  refine (append_dk _ b _ [97] [] 0 5000 _ [] anName (.slice aoA A.length cA) A w2 H2.out (by omega) rfl (by unfold maxLen; decide) (HA.out.below B2 (Nat.le_refl _)) (fun hx a n c e => by have := HA.out.lt hx a n c e; omega) (by simp [tot]; omega) (by simp [tot]; omega)).mono ?_
  rintro e w3 ⟨rfl, ho, hb3⟩
  have B3 : Below w.heap.size w w3 := B2.trans (hb3.mono (by simp))
  have H3 := Lib.hid (show Dk w3 w.heap.size b [([97], A, 0)] 5000 2 [] from ho)
  clear ho hb3 H2 B2
  go_wp2_with fail
  refine (sync_dk _ b _ [97] A 0 5000 _ [] anName w3 H3.out (by omega) rfl (by unfold maxLen; decide)).mono ?_
  rintro e w4 ⟨rfl, ho, hb4⟩
  have B4 : Below w.heap.size w w4 := B3.trans (hb4.mono (by simp))
  have H4 := Lib.hid (show Dk w4 w.heap.size b [([97], A, A.length)] 5000 3 [] from ho)
  clear ho hb4 H3 B3
  go_wp2_with fail
  refine (create_dk _ b _ 5000 _ [] bnName w4 H4.out (by omega) (by kernel_rfl) (by unfold maxLen; decide) rfl (by unfold maxLen; simp)).mono ?_
  rintro e w5 ⟨rfl, ho, hb5⟩
  have B5 : Below w.heap.size w w5 := B4.trans (hb5.mono (by simp))
  have H5 := Lib.hid (show Dk w5 w.heap.size b [([97], A, A.length), ([98], [], 0)] 5000 4 [] from ho)
  clear ho hb5 H4 B4
  go_wp2_with fail
  refine (append_dk _ b _ [98] [] 0 5000 _ [] bnName (.slice aoB B.length cB) B w5 H5.out (by omega) rfl (by unfold maxLen; decide) (HB.out.below B5 (Nat.le_refl _)) (fun hx a n c e => by have := HB.out.lt hx a n c e; omega) (by simp [tot]; omega) (by simp [tot]; omega)).mono ?_
  rintro e w6 ⟨rfl, ho, hb6⟩
  have B6 : Below w.heap.size w w6 := B5.trans (hb6.mono (by simp))
  have H6 := Lib.hid (show Dk w6 w.heap.size b [([97], A, A.length), ([98], B, 0)] 5000 5 [] from ho)
  clear ho hb6 H5 B5
  go_wp2_with fail
  refine (create_dk _ b _ 5000 _ [] cnName w6 H6.out (by omega) (by kernel_rfl) (by unfold maxLen; decide) rfl (by unfold maxLen; simp)).mono ?_
  rintro e w7 ⟨rfl, ho, hb7⟩
  have B7 : Below w.heap.size w w7 := B6.trans (hb7.mono (by simp))
  have H7 := Lib.hid (show Dk w7 w.heap.size b [([97], A, A.length), ([98], B, 0), ([99], [], 0)] 5000 6 [] from ho)
  clear ho hb7 H6 B6
  go_wp2_with fail
  refine (rename_dk _ b _ [97] A A.length 5000 _ [] anName bnName w7 H7.out (by omega) rfl (by kernel_rfl) (by kernel_rfl) (by unfold anName bnName; simp) (by unfold maxLen; decide) (by unfold maxLen; decide) (by simp [tot]; omega) (by unfold maxLen; simp)).mono ?_
  rintro e w8 ⟨rfl, ho, hb8⟩
  have B8 : Below w.heap.size w w8 := B7.trans (hb8.mono (by simp))
  have H8 := Lib.hid (show Dk w8 w.heap.size b [([99], [], 0), ([98], A, A.length)] 5000 7 [] from ho)
  clear ho hb8 H7 B7
  go_wp2_with fail
  refine (restart_dk _ b _ 5000 _ [] 0 w8 H8.out (by simp) (by simp [tot]; omega) (by simp) (by simp) (by unfold maxLen; simp)).mono ?_
  rintro e w9 ⟨rfl, ho, hb9⟩
  have B9 : Below w.heap.size w w9 := B8.trans (hb9.mono (by simp))
  have H9 := Lib.hid ho
  clear ho hb9 H8 B8
  go_wp2_with fail
  refine (read_dk _ b _ [98] A A.length 0 _ [] bnName w9 H9.out rfl (by unfold maxLen; decide) (by omega)).mono ?_
  rintro e wr ⟨ao, c, rfl, hown, hg⟩
  have BR : Below w.heap.size w wr := B9.trans ((below_of_grown hg).mono B9.size)
  have HR := Lib.hid (H9.out.new (Turn.of_none hg))
  have HN := Lib.hid (read_none_dk _ b _ 0 _ [] anName wr HR.out rfl (by unfold maxLen; decide))
  unfold theDisk anName at HN
  have HW := Lib.hid hown
  clear hown hg H9 B9
  go_wp2_with fail
  refine HN.out.mono ?_
  rintro e wq ⟨rfl, rfl⟩
  have hown := HW.out
  obtain ⟨sA, hsA⟩ : ∃ sA : ByteArray, sA = ⟨A.toArray⟩ := ⟨_, rfl⟩
  have cv1 : ∀ n, (convert 33 9 (.slice ao A.length c)).run Try.prog (wr.drewN n) = .ok (.string sA) (wr.drewN n) := fun n => by rw [hsA]; exact conv_reads ((owns_reads hown).turn ((Turn.refl [] wr).drewN n) (by simp))
  have cv2 : ∀ n, (convert 33 9 (.slice aoA A.length cA)).run Try.prog (wr.drewN n) = .ok (.string sA) (wr.drewN n) := fun n => by rw [hsA]; exact conv_reads ((HA.out.below BR (Nat.le_refl _)).turn ((Turn.refl [] wr).drewN n) (by simp))
  have dv1 := cv1 0
  have dv2 := cv2 0
  rw [show wr.drewN 0 = wr from rfl] at dv1 dv2
  have HX := Lib.hid (And.intro BR HR.out)
  clear hown HN HW HR BR hsA cv1 cv2
  go_wp2_with (go_at_call 26; refine (num_any _ _).mono ?_; rintro e w' ⟨rfl, rfl⟩)
  refine (files_dk _ b _ 0 _ [] wr HX.out.2 (by simp [tot]; omega) (by simp) (by unfold maxLen; simp)).mono ?_
  rintro e w13 ⟨ao2, c13, rfl, hg13⟩
  have B13 := Lib.hid (HX.out.1.trans ((Turn.of_none (F := []) hg13).below HX.out.1.size (by simp)))
  clear hg13 HX dv1 dv2
  go_wp2_with (go_at_call 13; refine (awake_any _).mono ?_; rintro e w' ⟨rfl, hb9⟩)
  go_ret
  exact ⟨rfl, B13.out.trans (hb9.mono B13.out.size)⟩

set_option maxHeartbeats 1000000 in
set_option maxRecDepth 100000 in
theorem renames_big (aoA aoB : Option Addr) (lA lB cA cB : Nat) (cr : Bool) (w : World) (h : 500 < lA ∨ 500 < lB) (hmA : lA ≤ maxLen) (hmB : lB ≤ maxLen) :
    Calls Try.prog 7 #[.slice aoA lA cA, .slice aoB lB cB, .bool cr] w fun e w' => e = .returned (.bool true) ∧ Below w.heap.size w w' := by
  unfold maxLen at hmA hmB
  by_cases k0 : 500 < lA
  · have k1 : (500 : Int) < (lA : Int) := by omega
    clear h
    go_enter Try.func7, Try.ntmps7
    go_wp2_with (go_at_call 13; refine (awake_any _).mono ?_; rintro e w' ⟨rfl, hb9⟩)
    go_ret
    exact ⟨rfl, hb9⟩
  · have k1 : ¬ (500 : Int) < (lA : Int) := by omega
    have k2 : (500 : Int) < (lB : Int) := by omega
    clear h
    go_enter Try.func7, Try.ntmps7
    go_wp2_with (go_at_call 13; refine (awake_any _).mono ?_; rintro e w' ⟨rfl, hb9⟩)
    go_ret
    exact ⟨rfl, hb9⟩

end Go.Proofs.Ytpojdjigckeccaa
