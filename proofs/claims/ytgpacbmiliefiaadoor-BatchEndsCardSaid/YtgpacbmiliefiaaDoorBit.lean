/- Bits of lists of bytes; bits that are turned. Numbers and types by name. -/
import Derived.Test.YtgpacbmiliefiaaDoorCrc
namespace Go.Proofs.YtgpacbmiliefiaaDoor
open Go.RowKit Go.Lib

def bitAt (l : List UInt8) (p : Nat) : Bool := ((l[p / 8]?).getD 0).toNat.testBit (p % 8)

theorem bitsOf_length (x : UInt8) : (bitsOf x).length = 8 := by simp [bitsOf]
theorem flat_length : ∀ l : List UInt8, (l.flatMap bitsOf).length = 8 * l.length
  | [] => rfl
  | x :: l => by rw [List.flatMap_cons, List.length_append, flat_length l, bitsOf_length, List.length_cons]; omega

theorem flat_get : ∀ (l : List UInt8) (p : Nat), p < 8 * l.length → (l.flatMap bitsOf)[p]? = some (bitAt l p)
  | [], p, h => by simp at h
  | x :: l, p, h => by
    rw [List.flatMap_cons]
    by_cases hp : p < 8
    · rw [List.getElem?_append_left (by rw [bitsOf_length]; exact hp)]
      have h0 : p / 8 = 0 := by omega
      have h1 : p % 8 = p := by omega
      simp [bitsOf, bitAt, h0, h1, hp]
    · rw [List.getElem?_append_right (by rw [bitsOf_length]; omega), bitsOf_length, flat_get l (p - 8) (by simp at h; omega)]
      obtain ⟨q, rfl⟩ : ∃ q, p = q + 8 := ⟨p - 8, by omega⟩
      have h0 : (q + 8) / 8 = q / 8 + 1 := by omega
      have h1 : (q + 8) % 8 = q % 8 := by omega
      simp [bitAt, h0, h1]

/-- A bit is turned, or not. -/
def turn (l : List UInt8) (k : Nat) (bt : Bool) : List UInt8 := l.set (k / 8) ((l[k / 8]?).getD 0 ^^^ UInt8.ofNat (bt.toNat * 2 ^ (k % 8)))

theorem turn_length (l : List UInt8) (k : Nat) (bt : Bool) : (turn l k bt).length = l.length := by simp [turn]

theorem pow_bit (bt : Bool) (r : Nat) (hr : r < 8) : (UInt8.ofNat (bt.toNat * 2 ^ r)).toNat = bt.toNat * 2 ^ r := by
  rw [UInt8.toNat_ofNat']
  have : ∀ r : Fin 8, ∀ bt : Bool, bt.toNat * 2 ^ r.val % 2 ^ 8 = bt.toNat * 2 ^ r.val := by decide
  exact this ⟨r, hr⟩ bt

theorem bit_turn (l : List UInt8) (k p : Nat) (bt : Bool) (hk : k < 8 * l.length) : bitAt (turn l k bt) p = (bitAt l p ^^ (decide (p = k) && bt)) := by
  unfold bitAt turn
  rw [List.getElem?_set]
  by_cases h : k / 8 = p / 8
  · have hl : k / 8 < l.length := by omega
    rw [if_pos h, if_pos (by omega)]
    rw [← h]
    simp only [Option.getD_some]
    rw [UInt8.toNat_xor, Nat.testBit_xor, pow_bit _ _ (by omega)]
    congr 1
    cases bt with
    | false => simp
    | true =>
      simp only [Bool.toNat_true, Nat.one_mul, Bool.and_true, Nat.testBit_two_pow]
      by_cases e : p = k
      · subst e; simp
      · have : k % 8 ≠ p % 8 := by omega
        simp [e, this]
  · rw [if_neg h]
    have e : p ≠ k := by rintro rfl; exact h rfl
    simp [e]

def turnedN (b : List UInt8) (t mk : Nat) : Nat → List UInt8
  | 0 => b
  | i + 1 => turn (turnedN b t mk i) (t + i) (mk.testBit i)

theorem turnedN_length (b : List UInt8) (t mk : Nat) : ∀ i, (turnedN b t mk i).length = b.length
  | 0 => rfl
  | i + 1 => by rw [turnedN, turn_length]; exact turnedN_length b t mk i

theorem turnedN_bit (b : List UInt8) (t mk p : Nat) : ∀ i, t + i ≤ 8 * b.length → bitAt (turnedN b t mk i) p = (bitAt b p ^^ (decide (t ≤ p ∧ p < t + i) && mk.testBit (p - t)))
  | 0, _ => by
    have : ¬ (t ≤ p ∧ p < t + 0) := by omega
    rw [decide_eq_false this]
    simp [turnedN]
  | i + 1, h => by
    rw [turnedN, bit_turn _ _ _ _ (by rw [turnedN_length]; omega), turnedN_bit b t mk p i (by omega)]
    by_cases e : p = t + i
    · subst e
      have h1 : ¬ (t ≤ t + i ∧ t + i < t + i) := by omega
      have h2 : t ≤ t + i ∧ t + i < t + (i + 1) := by omega
      rw [decide_eq_false h1, decide_eq_true h2]
      simp
    · have h1 : (t ≤ p ∧ p < t + i) ↔ (t ≤ p ∧ p < t + (i + 1)) := by omega
      simp only [e, decide_false, Bool.false_and, Bool.xor_false, h1]

def mask32 (mk : Nat) : List Bool := (List.range 32).map mk.testBit

theorem pack_range (n : Nat) : ∀ m : Nat, pack ((List.range n).map m.testBit) = m % 2 ^ n := by
  induction n with
  | zero => intro m; simp [pack, Nat.mod_one]
  | succ n ih =>
    intro m
    rw [List.range_succ_eq_map, List.map_cons, List.map_map, pack]
    have e : (List.range n).map (m.testBit ∘ Nat.succ) = (List.range n).map (m / 2).testBit := by
      apply List.map_congr_left
      intro i _
      simp [Function.comp, Nat.testBit_succ]
    rw [e, ih (m / 2), Nat.testBit_zero]
    have h2 : m % 2 = 0 ∨ m % 2 = 1 := by omega
    have h3 : m % 2 ^ (n + 1) = m % 2 + 2 * (m / 2 % 2 ^ n) := by rw [Nat.pow_succ, Nat.mul_comm, Nat.mod_mul]
    rw [h3]
    rcases h2 with h | h <;> simp [h]

theorem turned_bits (b : List UInt8) (t mk : Nat) (h : t + 32 ≤ 8 * b.length) :
    (turnedN b t mk 32).flatMap bitsOf = List.zipWith (· ^^ ·) (b.flatMap bitsOf) (List.replicate t false ++ mask32 mk ++ List.replicate (8 * b.length - (t + 32)) false) := by
  apply List.ext_getElem?
  intro p
  by_cases hp : p < 8 * b.length
  · rw [flat_get _ _ (by rw [turnedN_length]; exact hp), turnedN_bit _ _ _ _ _ h, List.getElem?_zipWith, flat_get _ _ hp]
    have e : (List.replicate t false ++ mask32 mk ++ List.replicate (8 * b.length - (t + 32)) false)[p]? = some (decide (t ≤ p ∧ p < t + 32) && mk.testBit (p - t)) := by
      by_cases h1 : p < t
      · rw [List.append_assoc, List.getElem?_append_left (by simp; omega), List.getElem?_replicate, if_pos h1]
        have : ¬ (t ≤ p ∧ p < t + 32) := by omega
        rw [decide_eq_false this]
        simp
      · by_cases h2 : p < t + 32
        · rw [List.getElem?_append_left (by simp [mask32]; omega), List.getElem?_append_right (by simp; omega)]
          have h3 : t ≤ p ∧ p < t + 32 := by omega
          have h4 : p - t < 32 := by omega
          simp [mask32, h3, h4]
        · rw [List.getElem?_append_right (by simp [mask32]; omega), List.getElem?_replicate, if_pos (by simp [mask32]; omega)]
          have : ¬ (t ≤ p ∧ p < t + 32) := by omega
          rw [decide_eq_false this]
          simp
    rw [e]
  · rw [List.getElem?_eq_none (by rw [flat_length, turnedN_length]; omega), List.getElem?_eq_none (by rw [List.length_zipWith, flat_length]; omega)]

theorem sum_turned (b : List UInt8) (t mk : Nat) (h : t + 32 ≤ 8 * b.length) (hm : mk < 4294967296) (h0 : mk ≠ 0) : sumOf 0 b ≠ sumOf 0 (turnedN b t mk 32) := by
  intro e
  have h32 : (2 : Nat) ^ 32 = 4294967296 := by decide
  have hb := burst t (8 * b.length - (t + 32)) (mask32 mk) (by simp [mask32]) (by unfold mask32; rw [pack_range, Nat.mod_eq_of_lt (by omega)]; exact h0)
  have hx := bcrc_xor (b.flatMap bitsOf) (List.replicate t false ++ mask32 mk ++ List.replicate (8 * b.length - (t + 32)) false) (begun 0) 0 (by rw [flat_length]; simp [mask32]; omega)
  rw [← turned_bits b t mk h, show begun 0 ^^^ (0 : BitVec 32) = begun 0 from BitVec.xor_zero, ← crc_bits, ← crc_bits] at hx
  unfold sumOf at e
  have e2 : crc (begun 0) b ^^^ ones = crc (begun 0) (turnedN b t mk 32) ^^^ ones := BitVec.eq_of_toNat_eq (by omega)
  have e3 : crc (begun 0) b = crc (begun 0) (turnedN b t mk 32) := by
    have := congrArg (· ^^^ ones) e2
    simpa [BitVec.xor_assoc] using this
  rw [← e3] at hx
  apply hb
  have := congrArg (crc (begun 0) b ^^^ ·) hx
  simp only [BitVec.xor_self, ← BitVec.xor_assoc, BitVec.zero_xor] at this
  exact this.symm

/-- The machine's words for it. -/
theorem turn_word (x : UInt8) (mk k r : Nat) (hm : mk < 4294967296) (hr : r < 8) :
    bits .xor .u8 (x.toNat : Int) (bits .and .u32 ((mk : Int) / 2 ^ k) 1 % 256 * 2 ^ r % 256) = ((x ^^^ UInt8.ofNat ((mk.testBit k).toNat * 2 ^ r)).toNat : Int) := by
  have hdiv : ((mk : Int) / 2 ^ k) = ((mk / 2 ^ k : Nat) : Int) := by simp
  have h32 : (2 : Nat) ^ 32 = 4294967296 := by decide
  have hlt : mk / 2 ^ k < 2 ^ 32 := Nat.lt_of_le_of_lt (Nat.div_le_self _ _) (by omega)
  have hand := (bits_nat .u32 32 (by decide) wrap_u32_small (mk / 2 ^ k) 1 hlt (by decide)).1
  have hb : (mk / 2 ^ k) &&& 1 = (mk.testBit k).toNat := by
    rw [Nat.and_one_is_mod, Nat.testBit_eq_decide_div_mod_eq]
    have : mk / 2 ^ k % 2 = 0 ∨ mk / 2 ^ k % 2 = 1 := by omega
    rcases this with h | h <;> simp [h]
  rw [hdiv, show (1 : Int) = ((1 : Nat) : Int) from rfl, hand, hb]
  have hw : (((mk.testBit k).toNat : Nat) : Int) % 256 * 2 ^ r % 256 = ((UInt8.ofNat ((mk.testBit k).toNat * 2 ^ r)).toNat : Int) := by
    rw [pow_bit _ _ hr]
    have all : ∀ r : Fin 8, ∀ bt : Bool, ((bt.toNat : Nat) : Int) % 256 * 2 ^ r.val % 256 = ((bt.toNat * 2 ^ r.val : Nat) : Int) := by decide
    exact all ⟨r, hr⟩ _
  rw [hw]
  exact bits_xor_u8 x _

end Go.Proofs.YtgpacbmiliefiaaDoor
