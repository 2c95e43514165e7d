/- DiskCuts, walked. Numbers and types by name. -/
import Derived.Test.YtpojdjigckeccaaCut
import Derived.Test.YtpojdjigckeccaaKee
namespace Go.Proofs.Ytpojdjigckeccaa
open Go.RowKit Go.Maps Go.Sort Go.WideMaps

set_option maxHeartbeats 1000000 in
set_option maxRecDepth 100000 in
theorem cuts_walk0 (aoA aoB : Option Addr) (cA cB : Nat) (A B : List UInt8) (n : Nat) (w : World) (hA : Reads w (.slice aoA A.length cA) (bv A)) (hB : Reads w (.slice aoB B.length cB) (bv B)) (hlA : A.length ≤ 1000) (hlB : B.length ≤ 1000) (hcapA : A.length ≤ cA) (hn : n ≤ 65535) :
    Calls Try.prog 11 #[.slice aoA A.length cA, .slice aoB B.length cB, .int .u16 n, .bool false] w fun e w' => e = .returned (.bool true) ∧ Below w.heap.size w w' := by
  have HA := Lib.hid hA
  have HB := Lib.hid hB
  have k1 : ¬ (1000 : Int) < (A.length : Int) := by omega
  have k2 : ¬ (1000 : Int) < (B.length : Int) := by omega
  clear hA hB
  go_enter Try.func11, Try.ntmps11
  go_wp2_with fail
  have hk := Reads.lit w (iv [5000]) 3 (0, 0) 1 rfl
  refine (new_zero 5000 (.slice (some ⟨w.heap.size, 0, none⟩) 1 1) [5000] _ hk (by simp)).mono ?_
  rintro e w1 ⟨b, rfl, hz, hg⟩
  unfold theDisk
  have B1 : Below w.heap.size w w1 := ((Below.refl _ w).alloc (Nat.le_refl _) _).trans ((below_of_grown hg).mono (by simp))
  have HZ := Lib.hid hz
  clear hz hk hg
  go_wp2_with fail
  obtain ⟨k, hk, hkA⟩ : ∃ k : Nat, ((n : Int) % ((A.length : Int) + 1)) = (k : Int) ∧ k ≤ A.length := ⟨n % (A.length + 1), by push_cast; rfl, Nat.le_of_lt_succ (Nat.mod_lt n (Nat.succ_pos A.length))⟩
  rw [hk]
  clear hk
  refine (create_one _ b 5000 0 [5000] xName w1 HZ.out (by omega) (by kernel_rfl) (by unfold maxLen; decide)).mono ?_
  rintro e w2 ⟨rfl, ho, hb2⟩
  have B2 : Below w.heap.size w w2 := B1.trans (hb2.mono (by simp))
  have hlow : w.heap.size < b := by have := ho.lt.2; simp at this; omega
  have HO := Lib.hid ho
  clear ho hb2 HZ B1
  go_wp2_with fail
  refine (append_one _ b _ _ 0 5000 _ [5000] xName (.slice aoA A.length cA) A w2 HO.out (by omega) rfl (by unfold maxLen; decide) (HA.out.below B2 (Nat.le_refl _)) (fun hx a n c e => by have := HA.out.lt hx a n c e; omega) (by simp; omega) (by simp; omega)).mono ?_
  rintro e w3 ⟨rfl, ho, hb3⟩
  have B3 : Below w.heap.size w w3 := B2.trans (hb3.mono (by simp))
  rw [List.nil_append] at ho
  have HO3 := Lib.hid ho
  clear ho hb3 HO B2
  go_wp2_with fail
  refine (sync_one _ b _ _ 0 5000 _ [5000] xName w3 HO3.out (by omega) rfl (by unfold maxLen; decide)).mono ?_
  rintro e w4 ⟨rfl, ho, hb4⟩
  have B4 : Below w.heap.size w w4 := B3.trans (hb4.mono (by simp))
  have HO4 := Lib.hid ho
  clear ho hb4 HO3 B3
  go_wp2_with fail
  refine (cut_one _ b _ _ _ 5000 _ [5000] xName k w4 HO4.out (by omega) rfl (by unfold maxLen; decide) (by omega) hkA).mono ?_
  rintro e w5 ⟨rfl, ho, hb5⟩
  have B5 : Below w.heap.size w w5 := B4.trans (hb5.mono (by simp))
  rw [Nat.min_eq_right hkA] at ho
  have HO5 := Lib.hid ho
  clear ho hb5 HO4 B4
  go_wp2_with fail
  refine (cut_one_bad _ b _ _ _ 5000 _ [5000] xName ((k : Int) + 1) w5 HO5.out (by omega) rfl (by unfold maxLen; decide) (by omega) (by simp; omega)).mono ?_
  rintro e w6 ⟨rfl, ho, hb6⟩
  have B6 : Below w.heap.size w w6 := B5.trans (hb6.mono (by simp))
  have HO6 := Lib.hid ho
  clear ho hb6 HO5 B5
  go_wp2_with fail
  refine (append_one _ b _ _ _ 5000 _ [5000] xName (.slice aoB B.length cB) B w6 HO6.out (by omega) rfl (by unfold maxLen; decide) (HB.out.below B6 (Nat.le_refl _)) (fun hx a n c e => by have := HB.out.lt hx a n c e; omega) (by simp; omega) (by simp; omega)).mono ?_
  rintro e w8 ⟨rfl, ho, hb8⟩
  have B8 : Below w.heap.size w w8 := B6.trans (hb8.mono (by simp))
  obtain ⟨L, hL⟩ : ∃ L, L = A.take k ++ B := ⟨_, rfl⟩
  have hLl : L.length = k + B.length := by rw [hL]; simp; omega
  rw [← hL] at ho
  have HO8 := Lib.hid ho
  have HE := Lib.hid (And.intro hL hLl)
  clear ho hb8 HO6 B6 hL hLl
  go_wp2_with fail
  refine (read_one _ b _ _ _ 5000 _ [5000] xName w8 HO8.out rfl (by unfold maxLen; decide) (by rw [HE.out.2]; omega)).mono ?_
  rintro e w9 ⟨ao, c, rfl, hown, hg⟩
  have B9 : Below w.heap.size w w9 := B8.trans ((below_of_grown hg).mono B8.size)
  have hAk : Reads w (.slice aoA k cA) (bv (A.take k)) := by
    have := HA.out.take k hkA
    rw [show (bv A).take k = bv (A.take k) from by simp [bv, List.map_take]] at this
    exact this
  have hadd0 : ∀ W : World, (Op.stringOp .add ⟨(A.take k).toArray⟩ ⟨B.toArray⟩).run Try.prog W = .ok (.string ⟨L.toArray⟩) W := by
    intro W
    rw [HE.out.1]
    exact run_string_add_lists (P := Try.prog) W (A.take k) B (by simp; omega) (by omega)
  obtain ⟨sA, hsA⟩ : ∃ sA : ByteArray, sA = ⟨(A.take k).toArray⟩ := ⟨_, rfl⟩
  obtain ⟨sB, hsB⟩ : ∃ sB : ByteArray, sB = ⟨B.toArray⟩ := ⟨_, rfl⟩
  obtain ⟨sc, hsc⟩ : ∃ sc : ByteArray, sc = ⟨L.toArray⟩ := ⟨_, rfl⟩
  have cv1 : ∀ n, (convert 33 9 (.slice ao L.length c)).run Try.prog (w9.drewN n) = .ok (.string sc) (w9.drewN n) := fun n => by rw [hsc]; exact conv_reads ((owns_reads hown).turn ((Turn.refl [] w9).drewN n) (by simp))
  have cv2 : ∀ n, (convert 33 9 (.slice aoA k cA)).run Try.prog (w9.drewN n) = .ok (.string sA) (w9.drewN n) := fun n => by rw [hsA]; exact conv_reads ((hAk.below B9 (Nat.le_refl _)).turn ((Turn.refl [] w9).drewN n) (by simp))
  have cv3 : ∀ n, (convert 33 9 (.slice aoB B.length cB)).run Try.prog (w9.drewN n) = .ok (.string sB) (w9.drewN n) := fun n => by rw [hsB]; exact conv_reads ((HB.out.below B9 (Nat.le_refl _)).turn ((Turn.refl [] w9).drewN n) (by simp))
  have hadd : ∀ W : World, (Op.stringOp .add sA sB).run Try.prog W = .ok (.string sc) W := by rw [hsA, hsB, hsc]; exact hadd0
  have hcA : k ≤ cA := Nat.le_trans hkA hcapA
  have HX := Lib.hid B9
  clear hadd0 hsA hsB hsc hAk hg hown HO8 B8 B9 HE
  go_wp2_with fail
  have cw1 := cv1 1
  have cw2 := cv2 1
  have cw3 := cv3 1
  rw [show w9.drewN 1 = w9.drew from rfl] at cw1 cw2 cw3
  clear cv1 cv2 cv3
  go_still_tail 26, (by kernel_rfl)
  still_call ((num_any _ _).mono fun _ _ h => ⟨h.1, h.2.symm⟩)
  repeat still_step
  still_call ((num_any _ _).mono fun _ _ h => ⟨h.1, h.2.symm⟩)
  repeat still_step
  still_call ((num_any _ _).mono fun _ _ h => ⟨h.1, h.2.symm⟩)
  repeat still_step
  refine wpStill_nil ?_
  change wpList _ _ _ _ _ w9.drew
  have BX : Hid (Below w.heap.size w w9.drew) := Lib.hid HX.out.drew
  generalize w9.drew = w10 at *
  clear cw1 cw2 cw3 hadd HX
  go_wp2_with (go_at_call 13; refine (awake_any _).mono ?_; rintro e w' ⟨rfl, hb9⟩)
  go_ret
  exact ⟨rfl, BX.out.trans (hb9.mono BX.out.size)⟩

set_option maxHeartbeats 1000000 in
set_option maxRecDepth 100000 in
theorem cuts_walk1 (aoA aoB : Option Addr) (cA cB : Nat) (A B : List UInt8) (n : Nat) (w : World) (hA : Reads w (.slice aoA A.length cA) (bv A)) (hB : Reads w (.slice aoB B.length cB) (bv B)) (hlA : A.length ≤ 1000) (hlB : B.length ≤ 1000) (hcapA : A.length ≤ cA) (hn : n ≤ 65535) :
    Calls Try.prog 11 #[.slice aoA A.length cA, .slice aoB B.length cB, .int .u16 n, .bool true] w fun e w' => e = .returned (.bool true) ∧ Below w.heap.size w w' := by
  have HA := Lib.hid hA
  have HB := Lib.hid hB
  have k1 : ¬ (1000 : Int) < (A.length : Int) := by omega
  have k2 : ¬ (1000 : Int) < (B.length : Int) := by omega
  clear hA hB
  go_enter Try.func11, Try.ntmps11
  go_wp2_with fail
  have hk := Reads.lit w (iv [5000]) 3 (0, 0) 1 rfl
  refine (new_zero 5000 (.slice (some ⟨w.heap.size, 0, none⟩) 1 1) [5000] _ hk (by simp)).mono ?_
  rintro e w1 ⟨b, rfl, hz, hg⟩
  unfold theDisk
  have B1 : Below w.heap.size w w1 := ((Below.refl _ w).alloc (Nat.le_refl _) _).trans ((below_of_grown hg).mono (by simp))
  have HZ := Lib.hid hz
  clear hz hk hg
  go_wp2_with fail
  obtain ⟨k, hk, hkA⟩ : ∃ k : Nat, ((n : Int) % ((A.length : Int) + 1)) = (k : Int) ∧ k ≤ A.length := ⟨n % (A.length + 1), by push_cast; rfl, Nat.le_of_lt_succ (Nat.mod_lt n (Nat.succ_pos A.length))⟩
  rw [hk]
  clear hk
  refine (create_one _ b 5000 0 [5000] xName w1 HZ.out (by omega) (by kernel_rfl) (by unfold maxLen; decide)).mono ?_
  rintro e w2 ⟨rfl, ho, hb2⟩
  have B2 : Below w.heap.size w w2 := B1.trans (hb2.mono (by simp))
  have hlow : w.heap.size < b := by have := ho.lt.2; simp at this; omega
  have HO := Lib.hid ho
  clear ho hb2 HZ B1
  go_wp2_with fail
  refine (append_one _ b _ _ 0 5000 _ [5000] xName (.slice aoA A.length cA) A w2 HO.out (by omega) rfl (by unfold maxLen; decide) (HA.out.below B2 (Nat.le_refl _)) (fun hx a n c e => by have := HA.out.lt hx a n c e; omega) (by simp; omega) (by simp; omega)).mono ?_
  rintro e w3 ⟨rfl, ho, hb3⟩
  have B3 : Below w.heap.size w w3 := B2.trans (hb3.mono (by simp))
  rw [List.nil_append] at ho
  have HO3 := Lib.hid ho
  clear ho hb3 HO B2
  go_wp2_with fail
  refine (sync_one _ b _ _ 0 5000 _ [5000] xName w3 HO3.out (by omega) rfl (by unfold maxLen; decide)).mono ?_
  rintro e w4 ⟨rfl, ho, hb4⟩
  have B4 : Below w.heap.size w w4 := B3.trans (hb4.mono (by simp))
  have HO4 := Lib.hid ho
  clear ho hb4 HO3 B3
  go_wp2_with fail
  refine (cut_one _ b _ _ _ 5000 _ [5000] xName k w4 HO4.out (by omega) rfl (by unfold maxLen; decide) (by omega) hkA).mono ?_
  rintro e w5 ⟨rfl, ho, hb5⟩
  have B5 : Below w.heap.size w w5 := B4.trans (hb5.mono (by simp))
  rw [Nat.min_eq_right hkA] at ho
  have HO5 := Lib.hid ho
  clear ho hb5 HO4 B4
  go_wp2_with fail
  refine (cut_one_bad _ b _ _ _ 5000 _ [5000] xName ((k : Int) + 1) w5 HO5.out (by omega) rfl (by unfold maxLen; decide) (by omega) (by simp; omega)).mono ?_
  rintro e w6 ⟨rfl, ho, hb6⟩
  have B6 : Below w.heap.size w w6 := B5.trans (hb6.mono (by simp))
  have HO6 := Lib.hid ho
  clear ho hb6 HO5 B5
  go_wp2_with fail
  refine (restart_one _ b _ _ _ 5000 _ [5000] 5000 w6 HO6.out (by unfold maxLen; decide) (by simp; omega) (by simp)).mono ?_
  rintro e w7 ⟨rfl, ho, hb7⟩
  have B7 : Below w.heap.size w w7 := B6.trans (hb7.mono (by simp))
  have hAkl : (A.take k).length = k := by simp; omega
  have e1 : k + min (([5000] : List Int).getD 0 0).toNat ((A.take k).length - k) = k := by rw [hAkl]; simp
  have e2 : (A.take k).take k = A.take k := by rw [List.take_take, Nat.min_self]
  rw [e1, e2] at ho
  have HO7 := Lib.hid ho
  clear ho hb7 HO6 B6 e1 e2 hAkl
  go_wp2_with fail
  refine (append_one _ b _ _ _ 5000 _ [] xName (.slice aoB B.length cB) B w7 HO7.out (by omega) rfl (by unfold maxLen; decide) (HB.out.below B7 (Nat.le_refl _)) (fun hx a n c e => by have := HB.out.lt hx a n c e; omega) (by simp; omega) (by simp; omega)).mono ?_
  rintro e w8 ⟨rfl, ho, hb8⟩
  have B8 : Below w.heap.size w w8 := B7.trans (hb8.mono (by simp))
  obtain ⟨L, hL⟩ : ∃ L, L = A.take k ++ B := ⟨_, rfl⟩
  have hLl : L.length = k + B.length := by rw [hL]; simp; omega
  rw [← hL] at ho
  have HO8 := Lib.hid ho
  have HE := Lib.hid (And.intro hL hLl)
  clear ho hb8 HO7 B7 hL hLl
  go_wp2_with fail
  refine (read_one _ b _ _ _ 5000 _ [] xName w8 HO8.out rfl (by unfold maxLen; decide) (by rw [HE.out.2]; omega)).mono ?_
  rintro e w9 ⟨ao, c, rfl, hown, hg⟩
  have B9 : Below w.heap.size w w9 := B8.trans ((below_of_grown hg).mono B8.size)
  have hAk : Reads w (.slice aoA k cA) (bv (A.take k)) := by
    have := HA.out.take k hkA
    rw [show (bv A).take k = bv (A.take k) from by simp [bv, List.map_take]] at this
    exact this
  have hadd0 : ∀ W : World, (Op.stringOp .add ⟨(A.take k).toArray⟩ ⟨B.toArray⟩).run Try.prog W = .ok (.string ⟨L.toArray⟩) W := by
    intro W
    rw [HE.out.1]
    exact run_string_add_lists (P := Try.prog) W (A.take k) B (by simp; omega) (by omega)
  obtain ⟨sA, hsA⟩ : ∃ sA : ByteArray, sA = ⟨(A.take k).toArray⟩ := ⟨_, rfl⟩
  obtain ⟨sB, hsB⟩ : ∃ sB : ByteArray, sB = ⟨B.toArray⟩ := ⟨_, rfl⟩
  obtain ⟨sc, hsc⟩ : ∃ sc : ByteArray, sc = ⟨L.toArray⟩ := ⟨_, rfl⟩
  have cv1 : ∀ n, (convert 33 9 (.slice ao L.length c)).run Try.prog (w9.drewN n) = .ok (.string sc) (w9.drewN n) := fun n => by rw [hsc]; exact conv_reads ((owns_reads hown).turn ((Turn.refl [] w9).drewN n) (by simp))
  have cv2 : ∀ n, (convert 33 9 (.slice aoA k cA)).run Try.prog (w9.drewN n) = .ok (.string sA) (w9.drewN n) := fun n => by rw [hsA]; exact conv_reads ((hAk.below B9 (Nat.le_refl _)).turn ((Turn.refl [] w9).drewN n) (by simp))
  have cv3 : ∀ n, (convert 33 9 (.slice aoB B.length cB)).run Try.prog (w9.drewN n) = .ok (.string sB) (w9.drewN n) := fun n => by rw [hsB]; exact conv_reads ((HB.out.below B9 (Nat.le_refl _)).turn ((Turn.refl [] w9).drewN n) (by simp))
  have hadd : ∀ W : World, (Op.stringOp .add sA sB).run Try.prog W = .ok (.string sc) W := by rw [hsA, hsB, hsc]; exact hadd0
  have hcA : k ≤ cA := Nat.le_trans hkA hcapA
  have HX := Lib.hid B9
  clear hadd0 hsA hsB hsc hAk hg hown HO8 B8 B9 HE
  go_wp2_with fail
  have cw1 := cv1 1
  have cw2 := cv2 1
  have cw3 := cv3 1
  rw [show w9.drewN 1 = w9.drew from rfl] at cw1 cw2 cw3
  clear cv1 cv2 cv3
  go_still_tail 26, (by kernel_rfl)
  still_call ((num_any _ _).mono fun _ _ h => ⟨h.1, h.2.symm⟩)
  repeat still_step
  still_call ((num_any _ _).mono fun _ _ h => ⟨h.1, h.2.symm⟩)
  repeat still_step
  still_call ((num_any _ _).mono fun _ _ h => ⟨h.1, h.2.symm⟩)
  repeat still_step
  refine wpStill_nil ?_
  change wpList _ _ _ _ _ w9.drew
  have BX : Hid (Below w.heap.size w w9.drew) := Lib.hid HX.out.drew
  generalize w9.drew = w10 at *
  clear cw1 cw2 cw3 hadd HX
  go_wp2_with (go_at_call 13; refine (awake_any _).mono ?_; rintro e w' ⟨rfl, hb9⟩)
  go_ret
  exact ⟨rfl, BX.out.trans (hb9.mono BX.out.size)⟩

set_option maxHeartbeats 1000000 in
set_option maxRecDepth 100000 in
theorem cuts_big (aoA aoB : Option Addr) (lA lB cA cB : Nat) (n : Int) (cr : Bool) (w : World) (h : 1000 < lA ∨ 1000 < lB) (hmA : lA ≤ maxLen) (hmB : lB ≤ maxLen) :
    Calls Try.prog 11 #[.slice aoA lA cA, .slice aoB lB cB, .int .u16 n, .bool cr] w fun e w' => e = .returned (.bool true) ∧ Below w.heap.size w w' := by
  unfold maxLen at hmA hmB
  by_cases k0 : 1000 < lA
  · have k1 : (1000 : Int) < (lA : Int) := by omega
    clear h
    go_enter Try.func11, Try.ntmps11
    go_wp2_with (go_at_call 13; refine (awake_any _).mono ?_; rintro e w' ⟨rfl, hb9⟩)
    go_ret
    exact ⟨rfl, hb9⟩
  · have k1 : ¬ (1000 : Int) < (lA : Int) := by omega
    have k2 : (1000 : Int) < (lB : Int) := by omega
    clear h
    go_enter Try.func11, Try.ntmps11
    go_wp2_with (go_at_call 13; refine (awake_any _).mono ?_; rintro e w' ⟨rfl, hb9⟩)
    go_ret
    exact ⟨rfl, hb9⟩

end Go.Proofs.Ytpojdjigckeccaa
