/- DiskKeeps, walked. Numbers and types by name. -/
import Derived.Test.YtloccomlnnndoaaTwo
import Derived.StillTailTactics
namespace Go.Proofs.Ytloccomlnnndoaa
open Go.RowKit Go.Maps Go.Sort Go.WideMaps

def xName : ByteArray := ⟨#[120]⟩

theorem One.lt {w : World} {base b : Nat} {nm l : List UInt8} {sy : Nat} {cap ca : Int} {keep : List Int} (h : One w base b nm l sy cap ca keep) : b < w.heap.size ∧ base ≤ b := by
  obtain ⟨h0, S, s, f, hR, _⟩ := h
  exact ⟨hR.disk.lt, hR.low b (by simp [foot])⟩
theorem Zero.lt {w : World} {base b : Nat} {cap ca : Int} {keep : List Int} (h : Zero w base b cap ca keep) : b < w.heap.size ∧ base ≤ b := by
  obtain ⟨h0, S, s, hR, _⟩ := h
  exact ⟨hR.disk.lt, hR.low b (by simp [foot])⟩

set_option maxHeartbeats 1000000 in
set_option maxRecDepth 100000 in
theorem keeps_walk (aoA aoB : Option Addr) (cA cB : Nat) (A B : List UInt8) (keep : Int) (w : World) (hA : Reads w (.slice aoA A.length cA) (bv A)) (hB : Reads w (.slice aoB B.length cB) (bv B)) (hlA : A.length ≤ 2000) (hlB : B.length ≤ 2000) (hcapB : B.length ≤ cB) :
    Calls Try.prog 4 #[.slice aoA A.length cA, .slice aoB B.length cB, .int .i64 keep] w fun e w' => e = .returned (.bool true) ∧ Below w.heap.size w w' := by
  have HA := Lib.hid hA
  have HB := Lib.hid hB
  have k1 : ¬ (2000 : Int) < (A.length : Int) := by omega
  have k2 : ¬ (2000 : Int) < (B.length : Int) := by omega
  clear hA hB
  go_enter Try.func4, Try.ntmps4
  go_wp2_with fail
  have hk := Reads.lit w (iv [keep]) 3 (0, 0) 1 rfl
  refine (new_zero 5000 (.slice (some ⟨w.heap.size, 0, none⟩) 1 1) [keep] _ hk (by simp)).mono ?_
  rintro e w1 ⟨b, rfl, hz, hg⟩
  unfold theDisk
  have B1 : Below w.heap.size w w1 := ((Below.refl _ w).alloc (Nat.le_refl _) _).trans ((below_of_grown hg).mono (by simp))
  have HZ := Lib.hid hz
  clear hz hk hg
  go_wp2_with fail
  refine (create_one _ b 5000 0 [keep] xName w1 HZ.out (by omega) (by kernel_rfl) (by unfold maxLen; decide)).mono ?_
  rintro e w2 ⟨rfl, ho, hb2⟩
  have B2 : Below w.heap.size w w2 := B1.trans (hb2.mono (by simp))
  have hlow : w.heap.size < b := by have := ho.lt.2; simp at this; omega
  have HO := Lib.hid ho
  clear ho hb2 HZ B1
  go_wp2_with fail
  refine (append_one _ b _ _ 0 5000 _ [keep] xName (.slice aoA A.length cA) A w2 HO.out (by omega) rfl (by unfold maxLen; decide) (HA.out.below B2 (Nat.le_refl _)) (fun hx a n c e => by have := HA.out.lt hx a n c e; omega) (by simp; omega) (by simp; omega)).mono ?_
  rintro e w3 ⟨rfl, ho, hb3⟩
  have B3 : Below w.heap.size w w3 := B2.trans (hb3.mono (by simp))
  have HO3 := Lib.hid ho
  clear ho hb3 HO B2
  go_wp2_with fail
  refine (sync_one _ b _ _ 0 5000 _ [keep] xName w3 HO3.out (by omega) rfl (by unfold maxLen; decide)).mono ?_
  rintro e w4 ⟨rfl, ho, hb4⟩
  have B4 : Below w.heap.size w w4 := B3.trans (hb4.mono (by simp))
  have HO4 := Lib.hid ho
  clear ho hb4 HO3 B3
  go_wp2_with fail
  refine (append_one _ b _ _ _ 5000 _ [keep] xName (.slice aoB B.length cB) B w4 HO4.out (by omega) rfl (by unfold maxLen; decide) (HB.out.below B4 (Nat.le_refl _)) (fun hx a n c e => by have := HB.out.lt hx a n c e; omega) (by simp; omega) (by simp; omega)).mono ?_
  rintro e w5 ⟨rfl, ho, hb5⟩
  have B5 : Below w.heap.size w w5 := B4.trans (hb5.mono (by simp))
  have HO5 := Lib.hid ho
  clear ho hb5 HO4 B4
  go_wp2_with fail
  refine (restart_one _ b _ _ _ 5000 _ [keep] 0 w5 HO5.out (by unfold maxLen; decide) (by simp; omega) (by simp)).mono ?_
  rintro e w6 ⟨rfl, ho, hb6⟩
  have B6 : Below w.heap.size w w6 := B5.trans (hb6.mono (by simp))
  obtain ⟨m, hm⟩ : ∃ m, m = min keep.toNat B.length := ⟨_, rfl⟩
  have hmB : m ≤ B.length := by omega
  obtain ⟨L, hL⟩ : ∃ L, L = A ++ B.take m := ⟨_, rfl⟩
  have hLl : L.length = A.length + m := by rw [hL]; simp; omega
  have e1 : ([] ++ A).length + min (([keep] : List Int).getD 0 0).toNat (([] ++ A ++ B).length - ([] ++ A).length) = A.length + m := by
    simp [hm]
  have e2 : ([] ++ A ++ B).take (A.length + m) = L := by
    rw [hL]; simp [List.take_append]; exact List.take_of_length_le (by omega)
  rw [e1, e2] at ho
  have HO6 := Lib.hid ho
  have HE := Lib.hid (And.intro hm (And.intro hL hLl))
  clear ho hb6 HO5 B5 e1 e2 hm hL hLl
  go_wp2_with fail
  refine (read_one _ b _ _ _ 0 _ [] xName w6 HO6.out rfl (by unfold maxLen; decide) (by rw [HE.out.2.2]; omega)).mono ?_
  rintro e w7 ⟨ao, c, rfl, hown, hg⟩
  have B7 : Below w.heap.size w w7 := B6.trans ((below_of_grown hg).mono B6.size)
  have HO7 := Lib.hid (And.intro (HO6.out.new (Turn.of_none hg)) hown)
  clear hown hg HO6 B6
  go_wp2_with fail
  refine (files_one _ b _ _ _ 0 _ [] w7 HO7.out.1 (by unfold maxLen; decide) (by rw [HE.out.2.2]; omega)).mono ?_
  rintro e w8 ⟨g, c8, aob, cb, rfl, hg8, x0, x1, x2, hbo, hg⟩
  have B8 : Below w.heap.size w w8 := B7.trans ((below_of_grown hg).mono B7.size)
  have HO8 := Lib.hid (HO7.out.1.new (Turn.of_none hg))
  have hown8 := owns_turn HO7.out.2 (Turn.of_none (F := []) hg) (by simp)
  have hBm : Reads w (.slice aoB m cB) (bv (B.take m)) := by
    have := HB.out.take m hmB
    rw [show (bv B).take m = bv (B.take m) from by simp [bv, List.map_take]] at this
    exact this
  have hadd0 : ∀ W : World, (Op.stringOp .add ⟨A.toArray⟩ ⟨(B.take m).toArray⟩).run Try.prog W = .ok (.string ⟨L.toArray⟩) W := by
    intro W
    rw [HE.out.2.1]
    exact run_string_add_lists (P := Try.prog) W A (B.take m) (by omega) (by simp; omega)
  obtain ⟨sA, hsA⟩ : ∃ sA : ByteArray, sA = ⟨A.toArray⟩ := ⟨_, rfl⟩
  obtain ⟨sB, hsB⟩ : ∃ sB : ByteArray, sB = ⟨(B.take m).toArray⟩ := ⟨_, rfl⟩
  obtain ⟨sc, hsc⟩ : ∃ sc : ByteArray, sc = ⟨L.toArray⟩ := ⟨_, rfl⟩
  have cv1 : ∀ n, (convert 33 9 (.slice ao L.length c)).run Try.prog (w8.drewN n) = .ok (.string sc) (w8.drewN n) := fun n => by rw [hsc]; exact conv_reads ((owns_reads hown8).turn ((Turn.refl [] w8).drewN n) (by simp))
  have cv2 : ∀ n, (convert 33 9 (.slice aoA A.length cA)).run Try.prog (w8.drewN n) = .ok (.string sA) (w8.drewN n) := fun n => by rw [hsA]; exact conv_reads ((HA.out.below B8 (Nat.le_refl _)).turn ((Turn.refl [] w8).drewN n) (by simp))
  have cv3 : ∀ n, (convert 33 9 (.slice aoB m cB)).run Try.prog (w8.drewN n) = .ok (.string sB) (w8.drewN n) := fun n => by rw [hsB]; exact conv_reads ((hBm.below B8 (Nat.le_refl _)).turn ((Turn.refl [] w8).drewN n) (by simp))
  have hadd : ∀ W : World, (Op.stringOp .add sA sB).run Try.prog W = .ok (.string sc) W := by rw [hsA, hsB, hsc]; exact hadd0
  have hmx : max (0 : Int) (min keep (B.length : Int)) = (m : Int) := by have := HE.out.1; omega
  have hcl := fun W : World => fun h : One W (w.alloc (.cells (iv [keep]).toArray 3)).heap.size b xName.data.toList L (A.length + m) 0 0 [] => calls_one _ b _ _ _ _ _ _ W h
  have hcB : m ≤ cB := Nat.le_trans hmB hcapB
  have HX := Lib.hid (And.intro B8 (And.intro hcl hmx))
  rw [← HE.out.2.2] at x2
  clear hadd0 hsA hsB hsc hBm hown8 hbo hg HO7 B7 hcl hmx
  unfold theDisk at HX
  go_wp2_with fail
  rw [HX.out.2.2]
  have cw1 := cv1 1
  have cw2 := cv2 1
  have cw3 := cv3 1
  rw [show w8.drewN 1 = w8.drew from rfl] at cw1 cw2 cw3
  clear cv1 cv2 cv3
  go_still_tail 35, (by kernel_rfl)
  still_call ((num_any _ _).mono fun _ _ h => ⟨h.1, h.2.symm⟩)
  repeat still_step
  still_call ((HX.out.2.1 _ (HO8.out.new ((Turn.refl [] w8).drewN 1))).mono fun _ _ h => ⟨h.1, h.2.symm⟩)
  repeat still_step
  refine wpStill_nil ?_
  change wpList _ _ _ _ _ w8.drew
  have BX : Hid (Below w.heap.size w w8.drew) := Lib.hid HX.out.1.drew
  generalize w8.drew = w9 at *
  clear cw1 cw2 cw3 hadd x0 x1 x2 HX HO8
  go_wp2_with (go_at_call 13; refine (awake_any _).mono ?_; rintro e w' ⟨rfl, hb9⟩)
  go_ret
  exact ⟨rfl, BX.out.trans (hb9.mono BX.out.size)⟩

set_option maxHeartbeats 1000000 in
set_option maxRecDepth 100000 in
theorem keeps_big (aoA aoB : Option Addr) (lA lB cA cB : Nat) (keep : Int) (w : World) (h : 2000 < lA ∨ 2000 < lB) (hmA : lA ≤ maxLen) (hmB : lB ≤ maxLen) :
    Calls Try.prog 4 #[.slice aoA lA cA, .slice aoB lB cB, .int .i64 keep] w fun e w' => e = .returned (.bool true) ∧ Below w.heap.size w w' := by
  unfold maxLen at hmA hmB
  by_cases k0 : 2000 < lA
  · have k1 : (2000 : Int) < (lA : Int) := by omega
    clear h
    go_enter Try.func4, Try.ntmps4
    go_wp2_with (go_at_call 13; refine (awake_any _).mono ?_; rintro e w' ⟨rfl, hb9⟩)
    go_ret
    exact ⟨rfl, hb9⟩
  · have k1 : ¬ (2000 : Int) < (lA : Int) := by omega
    have k2 : (2000 : Int) < (lB : Int) := by omega
    clear h
    go_enter Try.func4, Try.ntmps4
    go_wp2_with (go_at_call 13; refine (awake_any _).mono ?_; rintro e w' ⟨rfl, hb9⟩)
    go_ret
    exact ⟨rfl, hb9⟩

end Go.Proofs.Ytloccomlnnndoaa
