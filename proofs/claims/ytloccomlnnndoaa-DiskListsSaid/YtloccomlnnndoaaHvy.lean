/- Heavy, walked. Numbers and types by name. -/
import Derived.Test.YtloccomlnnndoaaOpn
namespace Go.Proofs.Ytloccomlnnndoaa
open Go.RowKit Go.Maps Go.Sort Go.WideMaps

/-- What is asked of an act to be light. -/
def Small (w : World) (a : Addr) (j : Nat) : Prop := ∃ d nm to, w.cell? (a.add (j * 10)) = some (.int .i64 d) ∧ w.cell? (a.add (j * 10 + 1)) = some (.string nm) ∧ w.cell? (a.add (j * 10 + 2)) = some (.string to) ∧ nm.size ≤ 100 ∧ to.size ≤ 100

/-- What Heavy leaves: nothing turned; where it says no, the acts are few and their names short. -/
def Light (w : World) (a : Addr) (len : Nat) : Prop := len ≤ 120 ∧ ∀ i, i < len → Small w a i

theorem add_fld (a : Addr) (m j : Nat) (hj : 0 < j) : a.add (m + j) = ⟨(a.add m).block, (a.add m).off + j, none⟩ := by
  unfold Addr.add
  rw [if_neg (by omega)]
  by_cases hm : m = 0
  · simp [hm]
  · simp [hm]; omega

set_option maxHeartbeats 1000000 in
set_option maxRecDepth 100000 in
theorem heavy_any (ao : Option Addr) (a : Addr) (len cap : Nat) (hao : ao = some a ∨ ao = none ∧ len = 0) (w : World) (hcap : len ≤ maxLen) (hA : ∀ i, i < len → ∃ d nm to lB lF lK, ActAt w a i d nm to lB lF lK) :
    Calls Try.prog 12 #[.slice ao len cap] w fun e w' => (e = .returned (.bool true) ∨ e = .returned (.bool false) ∧ Light w a len) ∧ w = w' := by
  have HA := Lib.hid hA
  have HAO := Lib.hid hao
  have HC := Lib.hid hcap
  unfold maxLen at hcap
  clear hA hao
  go_enter Try.func12, Try.ntmps12
  go_wp2_with fail
  go_loopw [3, 4] (fun nv i wr => ∃ k n : Nat, k ≤ len ∧ k ≤ 200 ∧ i = .int .i64 k ∧ nv = .int .i64 n ∧ n ≤ 5000 * k ∧ Hid (∀ j, j < k → Small w a j) ∧ w = wr)
    (fun _ i _ => 200 - (intOf i).toNat)
  case atStart => exact ⟨0, 0, Nat.zero_le _, by omega, rfl, rfl, by omega, Lib.hid (fun j hj => absurd hj (Nat.not_lt_zero _)), rfl⟩
  case round =>
    obtain ⟨k, n, hk, hk2, rfl, rfl, hn, hsm, hww⟩ := hrel
    subst hww
    by_cases h1 : k < len
    · obtain rfl : ao = some a := by
        rcases HAO.out with h | ⟨_, h⟩
        · exact h
        · omega
      have h3 : (k : Int) < (len : Int) := by omega
      by_cases h2 : k < 200
      · have h4 : (k : Int) < 200 := by omega
        obtain ⟨d, nm, to, lB, lF, lK, hx⟩ := HA.out k h1
        obtain ⟨aoB, cB, c3⟩ := hx.c3
        obtain ⟨aoF, cF, c6⟩ := hx.c6
        obtain ⟨aoK, cK, c9⟩ := hx.c9
        have c1 := hx.c1
        have c2 := hx.c2
        rw [add_fld _ _ _ (by omega)] at c1 c2 c3 c6 c9
        have hlB := hx.lB
        have hlF := hx.lF
        have hlK := hx.lK
        have hnm := hx.nm
        have hto := hx.to
        have HX := Lib.hid hx
        have e5 : ∀ o : Nat, o + 5 + 1 = o + 6 := fun o => rfl
        unfold maxLen at hlB hlF hlK hnm hto
        clear hx
        by_cases x1 : 200 < lF
        · have y1 : (200 : Int) < (lF : Int) := by omega
          go_wp2_with fail
          go_ret
          exact ⟨.inl rfl, rfl⟩
        have y1 : ¬ (200 : Int) < (lF : Int) := by omega
        by_cases x2 : 200 < lK
        · have y2 : (200 : Int) < (lK : Int) := by omega
          go_wp2_with fail
          go_ret
          exact ⟨.inl rfl, rfl⟩
        have y2 : ¬ (200 : Int) < (lK : Int) := by omega
        by_cases x3 : 100 < nm.size
        · have y3 : (100 : Int) < (nm.size : Int) := by omega
          go_wp2_with fail
          go_ret
          exact ⟨.inl rfl, rfl⟩
        have y3 : ¬ (100 : Int) < (nm.size : Int) := by omega
        by_cases x4 : 100 < to.size
        · have y4 : (100 : Int) < (to.size : Int) := by omega
          go_wp2_with fail
          go_ret
          exact ⟨.inl rfl, rfl⟩
        have y4 : ¬ (100 : Int) < (to.size : Int) := by omega
        go_wp2_with fail
        go_roundw
        case rel =>
          refine ⟨k + 1, n + min lB 5000, by omega, by omega, by go_num, by rw [show ((n + min lB 5000 : Nat) : Int) = (n : Int) + min (lB : Int) 5000 by omega], by omega, Lib.hid (fun j hj => ?_), trivial⟩
          by_cases hjk : j < k
          · exact hsm.out j hjk
          · obtain rfl : j = k := by omega
            exact ⟨d, nm, to, HX.out.c0, HX.out.c1, HX.out.c2, by omega, by omega⟩
        case measure => simp [intOf]; omega
      · have h4 : ¬ (k : Int) < 200 := by omega
        have h5 : (120 : Int) < (len : Int) := by omega
        go_wp2_with fail
        go_ret
        exact ⟨.inl rfl, rfl⟩
    · obtain rfl : k = len := by omega
      have h3 : ¬ (k : Int) < (k : Int) := by omega
      by_cases h5 : 120 < k
      · have h6 : (120 : Int) < (k : Int) := by omega
        go_wp2_with fail
        go_ret
        exact ⟨.inl rfl, rfl⟩
      have h6 : ¬ (120 : Int) < (k : Int) := by omega
      by_cases h7 : 20000 < n
      · have h8 : (20000 : Int) < (n : Int) := by omega
        go_wp2_with fail
        go_ret
        exact ⟨.inl rfl, rfl⟩
      have h8 : ¬ (20000 : Int) < (n : Int) := by omega
      go_wp2_with fail
      go_ret
      exact ⟨.inr ⟨rfl, by omega, fun i hi => hsm.out i hi⟩, rfl⟩

end Go.Proofs.Ytloccomlnnndoaa
