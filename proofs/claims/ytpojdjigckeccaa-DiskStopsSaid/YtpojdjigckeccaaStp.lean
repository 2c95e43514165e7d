/- DiskStops, walked. Numbers and types by name. -/
import Derived.Test.YtpojdjigckeccaaMk
import Derived.StillTailTactics
namespace Go.Proofs.Ytpojdjigckeccaa
open Go.RowKit Go.Maps Go.Sort Go.WideMaps

/-- The name of file i. -/
def nmOf (i : Nat) : List UInt8 := [102, UInt8.ofNat (97 + i)]

/-- How many files there are behind j calls. -/
def cntOf (k : Nat) (done : Bool) (j : Nat) : Nat := if j < k then j else if done then k else k - 1

theorem cnt_lt {k j : Nat} (done : Bool) (h : j < k) : cntOf k done j = j := by simp [cntOf, h]
theorem cnt_ge {k j : Nat} (done : Bool) (h : k ≤ j) : cntOf k done j = if done then k else k - 1 := by simp [cntOf, Nat.not_lt.2 h]

def madeBy (k : Nat) (done : Bool) (j : Nat) : List (List UInt8) := (List.range (cntOf k done j)).map nmOf

theorem nmOf_new {m j : Nat} (hm : m ≤ j) (hj : j < 26) : nmOf j ∉ (List.range m).map nmOf := by
  intro h
  obtain ⟨i, hi, he⟩ := List.mem_map.1 h
  have hi' := List.mem_range.1 hi
  simp only [nmOf, List.cons.injEq, and_true, true_and] at he
  have := congrArg UInt8.toNat he
  rw [UInt8.toNat_ofNat', UInt8.toNat_ofNat'] at this
  omega

theorem made_len (k : Nat) (done : Bool) (j : Nat) (hj : j ≤ 25) (hk : k ≤ 20) : (madeBy k done j).length < 100 := by
  unfold madeBy cntOf
  rw [List.length_map, List.length_range]
  split
  · omega
  · split <;> omega

theorem name_ne (j : Nat) : (⟨(nmOf j).toArray⟩ : ByteArray).toList.isEmpty = false := by
  rw [ByteArray.toList_eq]
  rfl

/-- A Create more: what it answers, and what is there then. -/
theorem mk_step (base b : Nat) (k : Nat) (done : Bool) (j : Nat) (w : World) (hk0 : 1 ≤ k) (hk1 : k ≤ 20) (hj : j < 25) (h : Ms w base b (madeBy k done j) k done (min j k : Nat) (decide (k ≤ j))) :
    Calls Try.prog 20 #[theDisk b, .string ⟨(nmOf j).toArray⟩] w fun e w' => e = .returned (.int .i64 (if j + 1 < k then 0 else 7)) ∧ Ms w' base b (madeBy k done (j + 1)) k done (min (j + 1) k : Nat) (decide (k ≤ j + 1)) ∧ Below base w w' := by
  have hl : (⟨(nmOf j).toArray⟩ : ByteArray).size ≤ maxLen := by show (nmOf j).length ≤ _; unfold maxLen nmOf; simp
  have hlen := made_len k done j (by omega) hk1
  have hcn : cntOf k done j ≤ j := by unfold cntOf; split; omega; split <;> omega
  by_cases h1 : j + 1 < k
  · have e1 : decide (k ≤ j) = false := by simp; omega
    have e2 : decide (k ≤ j + 1) = false := by simp; omega
    rw [e1] at h
    rw [e2, if_pos h1]
    refine (mk_run base b _ k done _ ⟨(nmOf j).toArray⟩ w h (by omega) (by omega) (by omega) (name_ne j) hl (nmOf_new hcn (by omega)) (by unfold maxLen; omega)).mono ?_
    rintro e w' ⟨rfl, hm, hb⟩
    refine ⟨rfl, ?_, hb⟩
    have e3 : madeBy k done (j + 1) = madeBy k done j ++ [nmOf j] := by
      unfold madeBy
      rw [cnt_lt done h1, cnt_lt done (by omega), List.range_succ, List.map_append]; rfl
    have e4 : ((min (j + 1) k : Nat) : Int) = ((min j k : Nat) : Int) + 1 := by omega
    rw [e3, e4]
    exact hm
  · rw [if_neg h1]
    by_cases h2 : j + 1 = k
    · have e1 : decide (k ≤ j) = false := by simp; omega
      have e2 : decide (k ≤ j + 1) = true := by simp; omega
      have e4 : ((min (j + 1) k : Nat) : Int) = (k : Int) := by omega
      rw [e1] at h
      rw [e2, e4]
      cases done with
      | false =>
        refine (mk_crash base b _ k _ ⟨(nmOf j).toArray⟩ w h (by omega) (by omega) (by omega)).mono ?_
        rintro e w' ⟨rfl, hm, hb⟩
        have e3 : madeBy k false (j + 1) = madeBy k false j := by
          unfold madeBy
          rw [cnt_ge false (by omega), cnt_lt false (by omega)]
          simp only [Bool.false_eq_true, if_false]
          rw [show k - 1 = j by omega]
        rw [e3]
        exact ⟨rfl, hm, hb⟩
      | true =>
        refine (mk_done base b _ k _ ⟨(nmOf j).toArray⟩ w h (by omega) (by omega) (by omega) (name_ne j) hl (nmOf_new hcn (by omega)) (by unfold maxLen; omega)).mono ?_
        rintro e w' ⟨rfl, hm, hb⟩
        have e3 : madeBy k true (j + 1) = madeBy k true j ++ [nmOf j] := by
          unfold madeBy
          rw [cnt_ge true (by omega), cnt_lt true (by omega)]
          simp only [if_true]
          rw [← h2, List.range_succ, List.map_append]; rfl
        rw [e3]
        exact ⟨rfl, hm, hb⟩
    · have e1 : decide (k ≤ j) = true := by simp; omega
      have e2 : decide (k ≤ j + 1) = true := by simp; omega
      have e4 : ((min (j + 1) k : Nat) : Int) = ((min j k : Nat) : Int) := by omega
      have e3 : madeBy k done (j + 1) = madeBy k done j := by
        unfold madeBy
        rw [cnt_ge done (by omega), cnt_ge done (by omega)]
      rw [e1] at h
      rw [e2, e4, e3]
      exact (mk_down base b _ k done _ ⟨(nmOf j).toArray⟩ w h)

theorem nm_conv (j : Nat) (hj : j < 25) (w : World) : (convert 33 9 (.slice (some ⟨w.heap.size, 0, none⟩) 2 2)).run Try.prog (w.alloc (.cells #[.int .u8 102, .int .u8 (97 + (j : Int))] 5)) = .ok (.string ⟨(nmOf j).toArray⟩) (w.alloc (.cells #[.int .u8 102, .int .u8 (97 + (j : Int))] 5)) := by
  have e : bv (nmOf j) = [.int .u8 102, .int .u8 (97 + (j : Int))] := by
    have h : (UInt8.ofNat (97 + j)).toNat = 97 + j := by rw [UInt8.toNat_ofNat']; omega
    simp only [bv, nmOf, List.map_cons, List.map_nil, h]
    rfl
  have h := Reads.lit w (bv (nmOf j)) 5 (0, 0) 2 rfl
  have h2 := conv_reads h
  rw [e] at h2
  exact h2

theorem down_ms (base b : Nat) (names : List (List UInt8)) (k : Int) (done : Bool) (ca : Int) (dw : Bool) (w : World) (h : Ms w base b names k done ca dw) :
    Calls Try.prog 17 #[theDisk b] w fun e w' => e = .returned (.bool dw) ∧ w = w' := by
  obtain ⟨h0, S, s, hR, hE⟩ := h
  have := down_rep base b S s w hR
  rw [hE.dw] at this
  exact this
theorem calls_ms (base b : Nat) (names : List (List UInt8)) (k : Int) (done : Bool) (ca : Int) (dw : Bool) (w : World) (h : Ms w base b names k done ca dw) :
    Calls Try.prog 18 #[theDisk b] w fun e w' => e = .returned (.int .i64 ca) ∧ w = w' := by
  obtain ⟨h0, S, s, hR, hE⟩ := h
  have := calls_rep base b S s w hR
  rw [hE.ca] at this
  exact this
theorem read_ms (base b : Nat) (names : List (List UInt8)) (k : Int) (done : Bool) (ca : Int) (w : World) (name : Value) (h : Ms w base b names k done ca true) :
    Calls Try.prog 24 #[theDisk b, name] w fun e w' => e = .returned (.tuple #[.slice none 0 0, .int .i64 7]) ∧ w = w' := by
  obtain ⟨h0, S, s, hR, hE⟩ := h
  exact read_down base b S s name w hR hE.dw

set_option maxHeartbeats 1000000 in
set_option maxRecDepth 100000 in
theorem stops_walk (n : Nat) (done : Bool) (w : World) (hn : n ≤ 255) :
    Calls Try.prog 5 #[.int .u8 n, .bool done] w fun e w' => e = .returned (.bool true) ∧ Below w.heap.size w w' := by
  go_enter Try.func5, Try.ntmps5
  go_wp2_with fail
  obtain ⟨k, hk, hk0, hk1⟩ : ∃ k : Nat, (1 + (n : Int) % 20) = (k : Int) ∧ 1 ≤ k ∧ k ≤ 20 := ⟨1 + n % 20, by push_cast; rfl, by omega, by omega⟩
  rw [hk]
  clear hk
  refine (new_ms 1000 k done w).mono ?_
  rintro e w1 ⟨b, rfl, hz, hg⟩
  unfold theDisk
  have B1 : Below w.heap.size w w1 := (below_of_grown hg).mono (Nat.le_refl _)
  have HZ := Lib.hid hz
  clear hz hg
  go_wp2_with fail
  go_loopw [7] (fun i wr => ∃ j : Nat, j ≤ 25 ∧ i = .int .i64 j ∧ Hid (Ms wr w.heap.size b (madeBy k done j) k done (min j k : Nat) (decide (k ≤ j)) ∧ Below w.heap.size w wr))
    (fun i _ => 25 - (intOf i).toNat)
  case atStart =>
    refine ⟨0, by omega, rfl, Lib.hid ⟨?_, B1⟩⟩
    have e1 : madeBy k done 0 = [] := by unfold madeBy cntOf; rw [if_pos (by omega)]; rfl
    have e2 : decide (k ≤ 0) = false := by simp; omega
    have e3 : ((min 0 k : Nat) : Int) = 0 := by omega
    rw [e1, e2, e3]
    exact HZ.out
  case round =>
    obtain ⟨j, hj, rfl, hrel⟩ := hrel
    by_cases hlt2 : j < 25
    · have hM := hrel.out
      have kc := nm_conv j hlt2 wr
      have ta : Turn [] wr (wr.alloc (.cells #[.int .u8 102, .int .u8 (97 + (j : Int))] 5)) := (Turn.refl [] wr).alloc _
      have HS := Lib.hid (mk_step w.heap.size b k done j _ hk0 hk1 hlt2 (hM.1.new ta))
      have HBA := Lib.hid (hM.2.trans (ta.below hM.2.size (by simp)))
      clear HZ B1 hM hrel ta
      go_wp2_with fail
      by_cases hjk : j + 1 < k
      · have q1 : (j : Int) < (k : Int) - 1 := by omega
        have q2 : ¬ ((k : Int) - 1 ≤ (j : Int)) := by omega
        refine HS.out.mono ?_
        rintro e w2 ⟨rfl, hM2, hb2⟩
        rw [if_pos hjk]
        have HM2 := Lib.hid (And.intro hM2 (HBA.out.trans (hb2.mono (Nat.le_refl _))))
        have HD := Lib.hid (down_ms _ _ _ _ _ _ _ _ hM2)
        have q3 : decide (k ≤ j + 1) = false := by simp; omega
        rw [q3] at HD
        unfold theDisk at HD
        clear hM2 hb2 HS HBA kc
        go_wp2_with (first | (go_at_call 26; refine (num_any _ _).mono ?_; rintro e w' ⟨rfl, rfl⟩) | (go_at_call 17; refine HD.out.mono ?_; rintro e w' ⟨rfl, rfl⟩))
        go_roundw
        case rel => exact ⟨j + 1, by omega, by go_num, HM2.out⟩
        case measure => simp [intOf]; omega
      · have q1 : ¬ ((j : Int) < (k : Int) - 1) := by omega
        have q2 : ((k : Int) - 1 ≤ (j : Int)) := by omega
        refine HS.out.mono ?_
        rintro e w2 ⟨rfl, hM2, hb2⟩
        rw [if_neg hjk]
        have HM2 := Lib.hid (And.intro hM2 (HBA.out.trans (hb2.mono (Nat.le_refl _))))
        have HD := Lib.hid (down_ms _ _ _ _ _ _ _ _ hM2)
        have q3 : decide (k ≤ j + 1) = true := by simp; omega
        rw [q3] at HD
        unfold theDisk at HD
        clear hM2 hb2 HS HBA kc
        go_wp2_with (first | (go_at_call 26; refine (num_any _ _).mono ?_; rintro e w' ⟨rfl, rfl⟩) | (go_at_call 17; refine HD.out.mono ?_; rintro e w' ⟨rfl, rfl⟩))
        go_roundw
        case rel => exact ⟨j + 1, by omega, by go_num, HM2.out⟩
        case measure => simp [intOf]; omega
    · obtain rfl : j = 25 := by omega
      have hM := hrel.out
      have e1 : decide (k ≤ 25) = true := by simp; omega
      have e2 : ((min 25 k : Nat) : Int) = (k : Int) := by omega
      rw [e1, e2] at hM
      have HM := Lib.hid hM
      have HD := Lib.hid (read_ms _ _ _ _ _ _ _ (.string ⟨#[102, 97]⟩) hM.1)
      cases done with
      | false =>
        obtain ⟨m, hm⟩ : ∃ m : Nat, (m : Int) = (k : Int) - 1 := ⟨k - 1, by omega⟩
        have e3 : (madeBy k false 25).length = m := by
          unfold madeBy
          rw [cnt_ge false (by omega), List.length_map, List.length_range]
          simp; omega
        have HF := files_ms _ _ _ _ _ _ _ _ hM.1 (by have := made_len k false 25 (by omega) hk1; omega) (fun x hx => by
          obtain ⟨q, _, rfl⟩ := List.mem_map.1 hx
          unfold nmOf maxLen; simp)
        rw [e3] at HF
        have HF := Lib.hid HF
        have HC := Lib.hid (fun (W : World) (t : Turn [] wr W) => calls_ms _ _ _ _ _ _ _ W (hM.1.new t))
        have HB := Lib.hid hM.2
        unfold theDisk at HD HF HC
        clear HZ B1 hM hrel hlt2 e1 e2 e3
        go_wp2_with fail
        refine HD.out.mono ?_
        rintro e w2 ⟨rfl, rfl⟩
        clear HD
        go_wp2_with (go_at_call 26; refine (num_any _ _).mono ?_; rintro e w' ⟨rfl, rfl⟩)
        refine HF.out.mono ?_
        rintro e w3 ⟨ao, c, rfl, hg3⟩
        have T3 : Turn [] wr w3 := Turn.of_none hg3
        have HC3 := Lib.hid (HC.out w3 T3)
        have BX := Lib.hid (HB.out.trans (T3.below HB.out.size (by simp)))
        clear HF HC HB hg3 T3
        go_wp2_with (first | (go_at_call 18; refine HC3.out.mono ?_; rintro e w' ⟨rfl, rfl⟩) | (go_at_call 13; refine (awake_any _).mono ?_; rintro e w' ⟨rfl, hb9⟩))
        go_ret
        exact ⟨rfl, BX.out.trans (hb9.mono BX.out.size)⟩
      | true =>
        obtain ⟨m, hm⟩ : ∃ m : Nat, (m : Int) = (k : Int) := ⟨k, by omega⟩
        have e3 : (madeBy k true 25).length = m := by
          unfold madeBy
          rw [cnt_ge true (by omega), List.length_map, List.length_range]
          simp; omega
        have HF := files_ms _ _ _ _ _ _ _ _ hM.1 (by have := made_len k true 25 (by omega) hk1; omega) (fun x hx => by
          obtain ⟨q, _, rfl⟩ := List.mem_map.1 hx
          unfold nmOf maxLen; simp)
        rw [e3] at HF
        have HF := Lib.hid HF
        have HC := Lib.hid (fun (W : World) (t : Turn [] wr W) => calls_ms _ _ _ _ _ _ _ W (hM.1.new t))
        have HB := Lib.hid hM.2
        unfold theDisk at HD HF HC
        clear HZ B1 hM hrel hlt2 e1 e2 e3
        go_wp2_with fail
        refine HD.out.mono ?_
        rintro e w2 ⟨rfl, rfl⟩
        clear HD
        go_wp2_with (go_at_call 26; refine (num_any _ _).mono ?_; rintro e w' ⟨rfl, rfl⟩)
        refine HF.out.mono ?_
        rintro e w3 ⟨ao, c, rfl, hg3⟩
        have T3 : Turn [] wr w3 := Turn.of_none hg3
        have HC3 := Lib.hid (HC.out w3 T3)
        have BX := Lib.hid (HB.out.trans (T3.below HB.out.size (by simp)))
        clear HF HC HB hg3 T3
        go_wp2_with (first | (go_at_call 18; refine HC3.out.mono ?_; rintro e w' ⟨rfl, rfl⟩) | (go_at_call 13; refine (awake_any _).mono ?_; rintro e w' ⟨rfl, hb9⟩))
        go_ret
        exact ⟨rfl, BX.out.trans (hb9.mono BX.out.size)⟩

end Go.Proofs.Ytpojdjigckeccaa
