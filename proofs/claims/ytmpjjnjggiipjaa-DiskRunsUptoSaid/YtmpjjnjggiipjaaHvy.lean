/- Heavy, walked. Numbers and types by name. -/
import Derived.Test.YtmpjjnjggiipjaaOpn
namespace Go.Proofs.Ytmpjjnjggiipjaa
open Go.RowKit Go.Maps Go.Sort Go.WideMaps

/-- An act that is light. -/
def Small (v : AV) : Prop := v.p.zs.length ≤ 200 ∧ v.p.ks.length ≤ 200 ∧ v.nm.size ≤ 100 ∧ v.to.size ≤ 100

theorem add_fld (a : Addr) (m j : Nat) (hj : 0 < j) : a.add (m + j) = ⟨(a.add m).block, (a.add m).off + j, none⟩ := by
  unfold Addr.add
  rw [if_neg (by omega)]
  by_cases hm : m = 0
  · simp [hm]
  · simp [hm]; omega

set_option maxHeartbeats 4000000 in
set_option maxRecDepth 100000 in
theorem heavy_any (ao : Option Addr) (a : Addr) (len cap : Nat) (hao : ao = some a ∨ ao = none ∧ len = 0) (w : World) (hcap : len ≤ maxLen) (A : Nat → AV) (hA : ∀ i, i < len → ActAt w a i (A i)) :
    Calls Try.prog 4 #[.slice ao len cap] w fun e w' => (e = .returned (.bool true) ∨ e = .returned (.bool false) ∧ len ≤ 120 ∧ ∀ i, i < len → Small (A i)) ∧ w = w' := by
  have HA := Lib.hid hA
  have HAO := Lib.hid hao
  have HC := Lib.hid hcap
  unfold maxLen at hcap
  clear hA hao
  go_enter Try.func4, Try.ntmps4
  go_wp2_with fail
  go_loopw [3, 4] (fun nv i wr => ∃ k n : Nat, k ≤ len ∧ k ≤ 200 ∧ i = .int .i64 k ∧ nv = .int .i64 n ∧ n ≤ 5000 * k ∧ Hid (∀ j, j < k → Small (A j)) ∧ w = wr)
    (fun _ i _ => 200 - (intOf i).toNat)
  case atStart => exact ⟨0, 0, Nat.zero_le _, by omega, rfl, rfl, by omega, Lib.hid (fun j hj => absurd hj (Nat.not_lt_zero _)), rfl⟩
  case round =>
    obtain ⟨k, n, hk, hk2, rfl, rfl, hn, hsm, hww⟩ := hrel
    subst hww
    by_cases h1 : k < len
    · obtain rfl : ao = some a := by
        rcases HAO.out with h | ⟨_, h⟩
        · exact h
        · omega
      have h3 : (k : Int) < (len : Int) := by omega
      by_cases h2 : k < 200
      · have h4 : (k : Int) < 200 := by omega
        have hx := HA.out k h1
        have c3 := hx.c3
        have c6 := hx.c6
        have c9 := hx.c9
        have c1 := hx.c1
        have c2 := hx.c2
        obtain ⟨nm, hnm1⟩ : ∃ nm, nm = (A k).nm := ⟨_, rfl⟩
        obtain ⟨to, hto1⟩ : ∃ to, to = (A k).to := ⟨_, rfl⟩
        obtain ⟨aB, haB⟩ : ∃ x, x = (A k).aB := ⟨_, rfl⟩
        obtain ⟨cB, hcB⟩ : ∃ x, x = (A k).cB := ⟨_, rfl⟩
        obtain ⟨lB, hlB1⟩ : ∃ x, x = (A k).l.length := ⟨_, rfl⟩
        obtain ⟨aF, haF⟩ : ∃ x, x = (A k).p.aF := ⟨_, rfl⟩
        obtain ⟨cF, hcF⟩ : ∃ x, x = (A k).p.cF := ⟨_, rfl⟩
        obtain ⟨lF, hlF1⟩ : ∃ x, x = (A k).p.zs.length := ⟨_, rfl⟩
        obtain ⟨aK, haK⟩ : ∃ x, x = (A k).p.aK := ⟨_, rfl⟩
        obtain ⟨cK, hcK⟩ : ∃ x, x = (A k).p.cK := ⟨_, rfl⟩
        obtain ⟨lK, hlK1⟩ : ∃ x, x = (A k).p.ks.length := ⟨_, rfl⟩
        rw [add_fld _ _ _ (by omega)] at c1 c2 c3 c6 c9
        rw [← hnm1] at c1
        rw [← hto1] at c2
        rw [← haB, ← hcB, ← hlB1] at c3
        rw [← haF, ← hcF, ← hlF1] at c6
        rw [← haK, ← hcK, ← hlK1] at c9
        have hlB : lB ≤ maxLen := by have := hx.lB; unfold maxLen; omega
        have hlF : lF ≤ maxLen := by rw [hlF1]; exact hx.plan.lF
        have hlK : lK ≤ maxLen := by rw [hlK1]; exact hx.plan.lK
        have hnm : nm.size ≤ maxLen := by rw [hnm1]; exact hx.nm
        have hto : to.size ≤ maxLen := by rw [hto1]; exact hx.to
        have HX := Lib.hid (And.intro hnm1 (And.intro hto1 (And.intro hlF1 hlK1)))
        have e5 : ∀ o : Nat, o + 5 + 1 = o + 6 := fun o => rfl
        unfold maxLen at hlB hlF hlK hnm hto
        clear hx hnm1 hto1 haB hcB hlB1 haF hcF hlF1 haK hcK hlK1
        by_cases x1 : 200 < lF
        · have y1 : (200 : Int) < (lF : Int) := by omega
          go_wp2_with fail
          go_ret
          exact ⟨.inl rfl, rfl⟩
        have y1 : ¬ (200 : Int) < (lF : Int) := by omega
        by_cases x2 : 200 < lK
        · have y2 : (200 : Int) < (lK : Int) := by omega
          go_wp2_with fail
          go_ret
          exact ⟨.inl rfl, rfl⟩
        have y2 : ¬ (200 : Int) < (lK : Int) := by omega
        by_cases x3 : 100 < nm.size
        · have y3 : (100 : Int) < (nm.size : Int) := by omega
          go_wp2_with fail
          go_ret
          exact ⟨.inl rfl, rfl⟩
        have y3 : ¬ (100 : Int) < (nm.size : Int) := by omega
        by_cases x4 : 100 < to.size
        · have y4 : (100 : Int) < (to.size : Int) := by omega
          go_wp2_with fail
          go_ret
          exact ⟨.inl rfl, rfl⟩
        have y4 : ¬ (100 : Int) < (to.size : Int) := by omega
        go_wp2_with fail
        go_roundw
        case rel =>
          refine ⟨k + 1, n + min lB 5000, by omega, by omega, by go_num, by rw [show ((n + min lB 5000 : Nat) : Int) = (n : Int) + min (lB : Int) 5000 by omega], by omega, Lib.hid (fun j hj => ?_), trivial⟩
          by_cases hjk : j < k
          · exact hsm.out j hjk
          · obtain rfl : j = k := by omega
            obtain ⟨q1, q2, q3, q4⟩ := HX.out
            exact ⟨by rw [← q3]; omega, by rw [← q4]; omega, by rw [← q1]; omega, by rw [← q2]; omega⟩
        case measure => simp [intOf]; omega
      · have h4 : ¬ (k : Int) < 200 := by omega
        have h5 : (120 : Int) < (len : Int) := by omega
        go_wp2_with fail
        go_ret
        exact ⟨.inl rfl, rfl⟩
    · obtain rfl : k = len := by omega
      have h3 : ¬ (k : Int) < (k : Int) := by omega
      by_cases h5 : 120 < k
      · have h6 : (120 : Int) < (k : Int) := by omega
        go_wp2_with fail
        go_ret
        exact ⟨.inl rfl, rfl⟩
      have h6 : ¬ (120 : Int) < (k : Int) := by omega
      by_cases h7 : 20000 < n
      · have h8 : (20000 : Int) < (n : Int) := by omega
        go_wp2_with fail
        go_ret
        exact ⟨.inl rfl, rfl⟩
      have h8 : ¬ (20000 : Int) < (n : Int) := by omega
      go_wp2_with fail
      go_ret
      exact ⟨.inr ⟨rfl, by omega, fun i hi => hsm.out i hi⟩, rfl⟩

end Go.Proofs.Ytmpjjnjggiipjaa
