/- A number as four bytes, and back: plain facts. Numbers and types by name. -/
import Derived.Test.YtcefcfipomfpkaaDoorBas
namespace Go.Proofs.YtcefcfipomfpkaaDoor
open Go.RowKit Go.Lib

def byteOf (k : Int) : UInt8 := UInt8.ofNat (k % 256).toNat
/-- A number's four bytes. -/
def be4 (n : Int) : List UInt8 := [byteOf (n / 16777216), byteOf (n / 65536), byteOf (n / 256), byteOf n]

theorem byteOf_int (k : Int) : ((byteOf k).toNat : Int) = k % 256 := by
  have h1 : (k % 256).toNat % 2 ^ 8 = (k % 256).toNat := Nat.mod_eq_of_lt (by have := Int.emod_lt_of_pos k (b := 256) (by decide); have := Int.emod_nonneg k (b := 256) (by decide); omega)
  have h2 : (byteOf k).toNat = (k % 256).toNat := by show (UInt8.ofNat _).toNat = _; rw [UInt8.toNat_ofNat']; exact h1
  rw [h2]
  exact Int.toNat_of_nonneg (Int.emod_nonneg k (by decide))

theorem bv_be4 (n : Int) : bv (be4 n) = [.int .u8 (n / 16777216 % 256), .int .u8 (n / 65536 % 256), .int .u8 (n / 256 % 256), .int .u8 (n % 256)] := by
  simp [bv, be4, byteOf_int]

theorem be4_length (n : Int) : (be4 n).length = 4 := rfl

/-- The number that four bytes are. -/
def numOf (l : List UInt8) : Int := l.foldl (fun n b => n * 256 + b.toNat) 0

theorem numOf_snoc (l : List UInt8) (x : UInt8) : numOf (l ++ [x]) = numOf l * 256 + x.toNat := by simp [numOf, List.foldl_append]

theorem numOf_bound_at : ∀ (l : List UInt8) (k : Nat) (a : Int), 0 ≤ a → a < 256 ^ k → 0 ≤ l.foldl (fun n b => n * 256 + (b.toNat : Int)) a ∧ l.foldl (fun n b => n * 256 + (b.toNat : Int)) a < 256 ^ (k + l.length)
  | [], k, a, h0, h1 => ⟨h0, h1⟩
  | x :: l, k, a, h0, h1 => by
    have hx := x.toNat_lt
    have h2 : a * 256 + (x.toNat : Int) < 256 ^ (k + 1) := by rw [Int.pow_succ]; omega
    have := numOf_bound_at l (k + 1) (a * 256 + x.toNat) (by omega) h2
    rw [List.length_cons, show k + (l.length + 1) = k + 1 + l.length by omega]
    exact this

theorem numOf_bound (l : List UInt8) : 0 ≤ numOf l ∧ numOf l < 256 ^ l.length := by
  have := numOf_bound_at l 0 0 (by omega) (by simp)
  simpa [numOf] using this

theorem numOf_be4 (n : Int) : numOf (be4 n) = n % 4294967296 := by
  simp only [numOf, be4, List.foldl_cons, List.foldl_nil, byteOf_int]
  omega

/-- A number off the bytes. -/
def num? (b : List UInt8) : Option (Nat × List UInt8) := if 4 ≤ b.length then some ((numOf (b.take 4)).toNat, b.drop 4) else none
theorem num_be4 (n : Nat) (hn : n < 4294967296) (s : List UInt8) : num? (be4 n ++ s) = some (n, s) := by
  have h1 : (be4 n ++ s).take 4 = be4 n := List.take_left' rfl
  have h2 : (be4 n ++ s).drop 4 = s := List.drop_left' rfl
  unfold num?
  rw [if_pos (by simp [be4_length]), h1, h2, numOf_be4]
  congr 2
  omega
theorem num_more {b r : List UInt8} {n : Nat} (s : List UInt8) (h : num? b = some (n, r)) : num? (b ++ s) = some (n, r ++ s) := by
  unfold num? at h ⊢
  split at h
  · next hl =>
    rw [if_pos (by simp; omega)]
    simp only [Option.some.injEq, Prod.mk.injEq] at h ⊢
    rw [List.take_append_of_le_length hl, List.drop_append_of_le_length hl]
    exact ⟨h.1, by rw [h.2]⟩
  · cases h
theorem be4_mod {a b : Int} (h : a % 4294967296 = b % 4294967296) : be4 a = be4 b := by
  have hb : ∀ x y : Int, x % 256 = y % 256 → byteOf x = byteOf y := fun x y e => by unfold byteOf; rw [e]
  unfold be4
  rw [hb (a / 16777216) (b / 16777216) (by omega), hb (a / 65536) (b / 65536) (by omega), hb (a / 256) (b / 256) (by omega), hb a b (by omega)]

theorem num_drop {l : List UInt8} {k : Nat} (h : k + 4 ≤ l.length) : num? (l.drop k) = some ((numOf ((l.drop k).take 4)).toNat, l.drop (k + 4)) := by
  unfold num?
  rw [if_pos (by simp; omega), List.drop_drop]
theorem num_drop_no {l : List UInt8} {k : Nat} (h : ¬ k + 4 ≤ l.length) : num? (l.drop k) = none := by
  unfold num?
  rw [if_neg (by simp; omega)]

theorem num_under {l : List UInt8} (h : l.length ≤ 4) : numOf l < 4294967296 := by
  have h1 := (numOf_bound l).2
  have h2 : 256 ^ l.length ≤ 4294967296 := Nat.le_trans (Nat.pow_le_pow_right (by decide) h) (by decide)
  have h3 : (256 : Int) ^ l.length = ((256 ^ l.length : Nat) : Int) := by rw [Int.natCast_pow]; rfl
  omega

theorem hid_small {m : Nat} (h : Hid (m ≤ 1000000000)) : Hid (m ≤ maxLen) := Lib.hid (by have := h.out; unfold maxLen; omega)

end Go.Proofs.YtcefcfipomfpkaaDoor
