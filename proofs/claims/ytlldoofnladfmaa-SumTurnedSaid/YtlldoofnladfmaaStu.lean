/- SumTurned, walked. Numbers and types by name. -/
import Derived.Test.YtlldoofnladfmaaSln
import Derived.Test.YtlldoofnladfmaaBit
namespace Go.Proofs.Ytlldoofnladfmaa
open Go.RowKit Go.Lib

set_option maxHeartbeats 1000000 in
theorem turned_sum (v : Value) (m : Nat) (b : List UInt8) (at_ mask : Int) (w : World) (h1 : Reads w v (bv b)) (e1 : m = b.length) (hat : 0 ≤ at_ ∧ at_ < 65536) (hmk : 0 ≤ mask ∧ mask < 4294967296) (hx1 : Hid (m ≤ maxLen)) :
    Calls Try.prog 5 #[v, .int .u16 at_, .int .u32 mask] w fun e w' => e = .returned (.bool true) ∧ Below w.heap.size w w' := by
  obtain ⟨a1, c1, rfl⟩ : ∃ ao c, v = .slice ao m c := by obtain ⟨ao, c, rfl, _⟩ := h1; exact ⟨ao, c, by rw [bv_length, e1]⟩
  have HA := Lib.hid (And.intro h1 e1)
  clear h1 e1
  by_cases out : 3000 < m ∨ m < 5 ∨ mask = 0
  · by_cases o1 : 3000 < m
    · have o1' : (3000 : Int) < (m : Int) := by omega
      clear out
      go_enter Try.func5, Try.ntmps5
      go_wp2_with (go_at_call 11; refine (awake_sum _).mono ?_; rintro e w' ⟨rfl, hb9⟩)
      go_ret
      exact ⟨rfl, hb9⟩
    have o1' : ¬ (3000 : Int) < (m : Int) := by omega
    by_cases o2 : m < 5
    · have o2' : (m : Int) < 5 := by omega
      clear out
      go_enter Try.func5, Try.ntmps5
      go_wp2_with (go_at_call 11; refine (awake_sum _).mono ?_; rintro e w' ⟨rfl, hb9⟩)
      go_ret
      exact ⟨rfl, hb9⟩
    have o2' : ¬ (m : Int) < 5 := by omega
    obtain rfl : mask = 0 := by omega
    clear out
    go_enter Try.func5, Try.ntmps5
    go_wp2_with (go_at_call 11; refine (awake_sum _).mono ?_; rintro e w' ⟨rfl, hb9⟩)
    go_ret
    exact ⟨rfl, hb9⟩
  · have o1 : ¬ (3000 : Int) < (m : Int) := by omega
    have o2 : ¬ (m : Int) < 5 := by omega
    have o3 : ¬ mask = 0 := by omega
    have F1 : Hid (m ≤ maxLen) := Lib.hid (by unfold maxLen; omega)
    have F2 : Hid (m * 1 ≤ 140737488355328) := Lib.hid (by omega)
    obtain ⟨q, hq⟩ : ∃ q : Nat, at_ = (q : Int) := ⟨at_.toNat, (Int.toNat_of_nonneg hat.1).symm⟩
    obtain ⟨mk, hk⟩ : ∃ mk : Nat, mask = (mk : Int) := ⟨mask.toNat, (Int.toNat_of_nonneg hmk.1).symm⟩
    subst hq hk
    have HQ := Lib.hid (And.intro hat hmk)
    obtain ⟨t, ht⟩ : ∃ t : Nat, (q : Int) % (8 * (m : Int) - 32) = (t : Int) := ⟨((q : Int) % (8 * (m : Int) - 32)).toNat, (Int.toNat_of_nonneg (Int.emod_nonneg _ (by omega))).symm⟩
    have hlt : t + 32 < 8 * m := by
      have := Int.emod_lt_of_pos (q : Int) (show (0 : Int) < 8 * (m : Int) - 32 by omega)
      omega
    have HT := Lib.hid (And.intro hlt (show m ≤ 3000 by omega))
    have htm : (q : Int).tmod (8 * (m : Int) - 32) = (t : Int) := by rw [Int.tmod_eq_emod_of_nonneg (by omega)]; exact ht
    have wq : wrap64 (q : Int) = (q : Int) := wrap64_id _ (by omega)
    clear out hat hmk hlt ht
    go_enter Try.func5, Try.ntmps5
    go_wp2_with (at_builtin; refine wpList_append_bytes rfl (.tmp 24) (.tmp 25) rfl w.heap.size _ 0 [] rfl (Bs.empty w w.heap.size (Nat.le_refl _)) (.slice a1 m c1) m b HA.out.2 rfl (HA.out.1.alloc _) m (by omega) F1 F2 (by simp) ?_; intro ao3 c3 w3 hown3 hb3)
    have H3 := Lib.hid (And.intro hown3 (((Below.refl _ w).alloc (Nat.le_refl _) _).trans hb3))
    clear hown3 hb3 o1 o2 F1 F2 htm wq
    go_loopw [9] (fun i wr => ∃ k : Nat, k ≤ 32 ∧ i = .int .i64 k ∧ Hid (Bs wr w.heap.size (.slice ao3 m c3) m (turnedN b t mk k) ∧ Below w.heap.size w wr))
      (fun i _ => 32 - (intOf i).toNat)
    case atStart => exact ⟨0, by omega, rfl, Lib.hid ⟨by simpa [turnedN] using H3.out.1, H3.out.2⟩⟩
    case round =>
      obtain ⟨k, hk, rfl, hrel⟩ := hrel
      by_cases hlt : k < 32
      · have k0 : (k : Int) < 32 := by omega
        obtain ⟨hlt2, hm3⟩ := HT.out
        obtain ⟨p, hp⟩ : ∃ p, p = t + k := ⟨_, rfl⟩
        obtain ⟨j, hj⟩ : ∃ j, j = p / 8 := ⟨_, rfl⟩
        obtain ⟨r, hr⟩ : ∃ r, r = p % 8 := ⟨_, rfl⟩
        have hjm : j < m := by omega
        have hr8 : r < 8 := by omega
        have HP := Lib.hid (And.intro hp (And.intro hj (And.intro hr hr8)))
        have W : Hid (wrap64 ((t : Int) + (k : Int)) = (p : Int) ∧ wrap64 (j : Int) = (j : Int) ∧ wrap64 (r : Int) = (r : Int)) := Lib.hid ⟨by rw [wrap64_id _ (by omega)]; omega, wrap64_id _ (by omega), wrap64_id _ (by omega)⟩
        have w2 : (p : Int).tdiv 8 = (j : Int) := by rw [hj]; rfl
        have w3 : (p : Int).tmod 8 = (r : Int) := by rw [hr]; rfl
        have w4 : (j : Int) < (m : Int) := by omega
        obtain ⟨g, rfl, hgb⟩ : ∃ g, ao3 = some ⟨g, 0, none⟩ ∧ w.heap.size ≤ g := by
          rcases hrel.out.1.2.2 with ⟨h, _⟩ | ⟨g, cap, cur, h, hb, _⟩
          · simp only [Value.slice.injEq] at h; omega
          · simp only [Value.slice.injEq] at h; exact ⟨g, h.1, hb⟩
        have hlen := turnedN_length b t mk k
        obtain ⟨x, hx⟩ : ∃ x, (turnedN b t mk k)[j]? = some x := ⟨_, List.getElem?_eq_getElem (by have := HA.out.2; omega)⟩
        have cx := hrel.out.1.cell hx
        have cx1 := cx.1
        have cx2 := cx.2
        have tw := turn_word x mk k r (by have := HQ.out.2; omega) hr8
        have hnext : turnedN b t mk (k + 1) = (turnedN b t mk k).set j (x ^^^ UInt8.ofNat ((mk.testBit k).toNat * 2 ^ r)) := by
          show turn (turnedN b t mk k) (t + k) (mk.testBit k) = _
          unfold turn
          rw [← hp, ← hj, ← hr, hx]
          rfl
        generalize x ^^^ UInt8.ofNat ((mk.testBit k).toNat * 2 ^ r) = y at *
        have HS : Hid (Bs (wr.setCell ⟨g, j, none⟩ (.int .u8 (y.toNat : Int))) w.heap.size (.slice (some ⟨g, 0, none⟩) m c3) m (turnedN b t mk (k + 1)) ∧ Below w.heap.size w (wr.setCell ⟨g, j, none⟩ (.int .u8 (y.toNat : Int)))) :=
          Lib.hid ⟨by rw [hnext]; exact hrel.out.1.set j hjm y, below_set hrel.out.2 hgb j _⟩
        have HTW := Lib.hid tw
        clear cx hp hj hr hlt2 hm3 hx hlen hnext hrel H3 tw hgb hjm
        obtain ⟨w1, w5, w6⟩ := W.out
        go_wp2_with fail
        rw [HTW.out]
        exact ⟨⟨k + 1, by omega, by simp, HS⟩, by simp [intOf]; omega⟩
      · obtain rfl : k = 32 := by omega
        have B1 := hrel.out.2
        have L : Hid (m ≤ 1000000000) := Lib.hid (by have := HT.out.2; omega)
        have C1 := sum_any _ m b wr (HA.out.1.later B1) HA.out.2 L
        have C2 := sum_any _ m _ wr hrel.out.1.reads hrel.out.1.1 L
        have hne := sum_turned b t mk (by have := HT.out.1; have := HA.out.2; omega) (by have := HQ.out.2; omega) (by omega)
        have HB := Lib.hid B1
        generalize sumOf 0 b = s1 at *
        generalize sumOf 0 (turnedN b t mk 32) = s2 at *
        clear hrel B1 H3
        go_wp2_with fail
        refine C1.mono ?_
        rintro e w5 ⟨rfl, h5⟩
        subst h5
        go_wp2_with fail
        refine C2.mono ?_
        rintro e w5 ⟨rfl, h5⟩
        subst h5
        have hne2 : (s1 != s2) = true := by simpa using hne
        go_wp2_with (go_at_call 11; refine (awake_sum _).mono ?_; rintro e w' ⟨rfl, hb9⟩)
        go_ret
        exact ⟨rfl, HB.out.trans (hb9.mono HB.out.size)⟩

end Go.Proofs.Ytlldoofnladfmaa
