/- The index laws' heavy, walked. Numbers and types by name. -/
import Derived.Test.YtkeahapgliljoaaIac
import Derived.Test.YtkeahapgliljoaaIxk
namespace Go.Proofs.Ytkeahapgliljoaa
open Go.RowKit Go.Lib
set_option maxRecDepth 100000

def LightI (L : List Iam) : Prop := L.length ≤ 300 ∧ ∀ o ∈ L, o.key.size ≤ 200 ∧ o.val.size ≤ 200

def HeavyI (L : List Iam) (w : World) (e : Ending) (w' : World) : Prop := ∃ g, e = .returned (.bool g) ∧ w' = w ∧ (g = false → LightI L)

theorem heavy_index (v : Value) (n : Nat) (L : List Iam) (w : World) (hr : Iar w v n L) :
    Calls Try.prog 6 #[v] w (HeavyI L w) := by
  obtain ⟨ao, c, rfl⟩ := hr.shape
  have HR := Lib.hid hr
  have hm := hr.2.1
  unfold maxLen at hm
  clear hr
  go_enter Try.func6, Try.ntmps6
  go_wp2_with fail
  go_loopw [3] (fun i wr => ∃ k : Nat, k ≤ n ∧ k ≤ 400 ∧ i = .int .i64 k ∧ w = wr ∧ Hid (∀ j o, j < k → L[j]? = some o → o.key.size ≤ 200 ∧ o.val.size ≤ 200)) (fun i _ => n - (RowKit.intOf i).toNat)
  case atStart => exact ⟨0, Nat.zero_le _, Nat.zero_le _, rfl, rfl, Lib.hid fun j o hj => absurd hj (Nat.not_lt_zero _)⟩
  case round =>
    obtain ⟨k, hk, hk4, rfl, rfl, hs⟩ := hrel
    by_cases h1 : k < n
    · have h3 : (k : Int) < (n : Int) := by omega
      by_cases h4 : k < 400
      · have h5 : (k : Int) < 400 := by omega
        obtain ⟨a, o, rfl, ho, c0, c1, c2, s1, s2⟩ := HR.out.at h1
        have HO := Lib.hid ho
        clear ho
        have e1 : o.key.toList.length = o.key.size := by rw [ByteArray.toList_eq]; exact Array.length_toList
        have e2 : o.val.toList.length = o.val.size := by rw [ByteArray.toList_eq]; exact Array.length_toList
        by_cases x1 : 200 < o.key.size
        · have y1 : (200 : Int) < (o.key.size : Int) := by omega
          go_wp2_with fail
          go_ret
          exact ⟨true, rfl, rfl, fun h => by cases h⟩
        have y1 : ¬ (200 : Int) < (o.key.size : Int) := by omega
        by_cases x2 : 200 < o.val.size
        · have y2 : (200 : Int) < (o.val.size : Int) := by omega
          go_wp2_with fail
          go_ret
          exact ⟨true, rfl, rfl, fun h => by cases h⟩
        have y2 : ¬ (200 : Int) < (o.val.size : Int) := by omega
        have hs' : Hid (∀ j o, j < k + 1 → L[j]? = some o → o.key.size ≤ 200 ∧ o.val.size ≤ 200) := Lib.hid fun j o' hj hjo => by
          by_cases hjk : j < k
          · exact hs.out j o' hjk hjo
          · obtain rfl : j = k := by omega
            rw [HO.out] at hjo
            cases hjo
            exact ⟨by omega, by omega⟩
        have hk9 : k < 9223372036854775807 := by omega
        go_wp2_with fail
        exact ⟨⟨k + 1, by omega, by omega, by rw [Int.natCast_succ], trivial, hs'⟩, by simp [RowKit.intOf]; omega⟩
      · have h5 : ¬ (k : Int) < 400 := by omega
        have h6 : (300 : Int) < (n : Int) := by omega
        go_wp2_with fail
        go_ret
        exact ⟨true, rfl, rfl, fun h => by cases h⟩
    · have h3 : ¬ (k : Int) < (n : Int) := by omega
      obtain rfl : k = n := by omega
      have hall : Hid (∀ o ∈ L, o.key.size ≤ 200 ∧ o.val.size ≤ 200) := Lib.hid fun o ho => by
        obtain ⟨j, hj, rfl⟩ := List.getElem_of_mem ho
        exact hs.out j _ (by have := HR.out.1; omega) (List.getElem?_eq_getElem hj)
      by_cases x1 : 300 < k
      · have y1 : (300 : Int) < (k : Int) := by omega
        go_wp2_with fail
        go_ret
        exact ⟨true, rfl, rfl, fun h => by cases h⟩
      · have y1 : ¬ (300 : Int) < (k : Int) := by omega
        go_wp2_with fail
        go_ret
        exact ⟨false, rfl, rfl, fun _ => ⟨by have := HR.out.1; omega, hall.out⟩⟩

end Go.Proofs.Ytkeahapgliljoaa
