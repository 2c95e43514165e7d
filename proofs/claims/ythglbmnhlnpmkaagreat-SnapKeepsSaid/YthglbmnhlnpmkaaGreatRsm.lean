/- The reference's More and Sum. Numbers and types by name. -/
import Derived.Test.YthglbmnhlnpmkaaGreatCrc
import Derived.Test.YthglbmnhlnpmkaaGreatBe4
import Derived.Test.YthglbmnhlnpmkaaGreatRdp
/- Bits of lists of bytes; bits that are turned. Numbers and types by name. -/
namespace Go.Proofs.YthglbmnhlnpmkaaGreat
open Go.RowKit Go.Lib

def bitAt (l : List UInt8) (p : Nat) : Bool := ((l[p / 8]?).getD 0).toNat.testBit (p % 8)

theorem bitsOf_length (x : UInt8) : (bitsOf x).length = 8 := by simp [bitsOf]
theorem flat_length : ∀ l : List UInt8, (l.flatMap bitsOf).length = 8 * l.length
  | [] => rfl
  | x :: l => by rw [List.flatMap_cons, List.length_append, flat_length l, bitsOf_length, List.length_cons]; omega

theorem flat_get : ∀ (l : List UInt8) (p : Nat), p < 8 * l.length → (l.flatMap bitsOf)[p]? = some (bitAt l p)
  | [], p, h => by simp at h
  | x :: l, p, h => by
    rw [List.flatMap_cons]
    by_cases hp : p < 8
    · rw [List.getElem?_append_left (by rw [bitsOf_length]; exact hp)]
      have h0 : p / 8 = 0 := by omega
      have h1 : p % 8 = p := by omega
      simp [bitsOf, bitAt, h0, h1, hp]
    · rw [List.getElem?_append_right (by rw [bitsOf_length]; omega), bitsOf_length, flat_get l (p - 8) (by simp at h; omega)]
      obtain ⟨q, rfl⟩ : ∃ q, p = q + 8 := ⟨p - 8, by omega⟩
      have h0 : (q + 8) / 8 = q / 8 + 1 := by omega
      have h1 : (q + 8) % 8 = q % 8 := by omega
      simp [bitAt, h0, h1]

/-- A bit is turned, or not. -/
def turn (l : List UInt8) (k : Nat) (bt : Bool) : List UInt8 := l.set (k / 8) ((l[k / 8]?).getD 0 ^^^ UInt8.ofNat (bt.toNat * 2 ^ (k % 8)))

theorem turn_length (l : List UInt8) (k : Nat) (bt : Bool) : (turn l k bt).length = l.length := by simp [turn]

theorem pow_bit (bt : Bool) (r : Nat) (hr : r < 8) : (UInt8.ofNat (bt.toNat * 2 ^ r)).toNat = bt.toNat * 2 ^ r := by
  rw [UInt8.toNat_ofNat']
  have : ∀ r : Fin 8, ∀ bt : Bool, bt.toNat * 2 ^ r.val % 2 ^ 8 = bt.toNat * 2 ^ r.val := by decide
  exact this ⟨r, hr⟩ bt

theorem bit_turn (l : List UInt8) (k p : Nat) (bt : Bool) (hk : k < 8 * l.length) : bitAt (turn l k bt) p = (bitAt l p ^^ (decide (p = k) && bt)) := by
  unfold bitAt turn
  rw [List.getElem?_set]
  by_cases h : k / 8 = p / 8
  · have hl : k / 8 < l.length := by omega
    rw [if_pos h, if_pos (by omega)]
    rw [← h]
    simp only [Option.getD_some]
    rw [UInt8.toNat_xor, Nat.testBit_xor, pow_bit _ _ (by omega)]
    congr 1
    cases bt with
    | false => simp
    | true =>
      simp only [Bool.toNat_true, Nat.one_mul, Bool.and_true, Nat.testBit_two_pow]
      by_cases e : p = k
      · subst e; simp
      · have : k % 8 ≠ p % 8 := by omega
        simp [e, this]
  · rw [if_neg h]
    have e : p ≠ k := by rintro rfl; exact h rfl
    simp [e]

def turnedN (b : List UInt8) (t mk : Nat) : Nat → List UInt8
  | 0 => b
  | i + 1 => turn (turnedN b t mk i) (t + i) (mk.testBit i)

theorem turnedN_length (b : List UInt8) (t mk : Nat) : ∀ i, (turnedN b t mk i).length = b.length
  | 0 => rfl
  | i + 1 => by rw [turnedN, turn_length]; exact turnedN_length b t mk i

theorem turnedN_bit (b : List UInt8) (t mk p : Nat) : ∀ i, t + i ≤ 8 * b.length → bitAt (turnedN b t mk i) p = (bitAt b p ^^ (decide (t ≤ p ∧ p < t + i) && mk.testBit (p - t)))
  | 0, _ => by
    have : ¬ (t ≤ p ∧ p < t + 0) := by omega
    rw [decide_eq_false this]
    simp [turnedN]
  | i + 1, h => by
    rw [turnedN, bit_turn _ _ _ _ (by rw [turnedN_length]; omega), turnedN_bit b t mk p i (by omega)]
    by_cases e : p = t + i
    · subst e
      have h1 : ¬ (t ≤ t + i ∧ t + i < t + i) := by omega
      have h2 : t ≤ t + i ∧ t + i < t + (i + 1) := by omega
      rw [decide_eq_false h1, decide_eq_true h2]
      simp
    · have h1 : (t ≤ p ∧ p < t + i) ↔ (t ≤ p ∧ p < t + (i + 1)) := by omega
      simp only [e, decide_false, Bool.false_and, Bool.xor_false, h1]

def mask32 (mk : Nat) : List Bool := (List.range 32).map mk.testBit

theorem pack_range (n : Nat) : ∀ m : Nat, pack ((List.range n).map m.testBit) = m % 2 ^ n := by
  induction n with
  | zero => intro m; simp [pack, Nat.mod_one]
  | succ n ih =>
    intro m
    rw [List.range_succ_eq_map, List.map_cons, List.map_map, pack]
    have e : (List.range n).map (m.testBit ∘ Nat.succ) = (List.range n).map (m / 2).testBit := by
      apply List.map_congr_left
      intro i _
      simp [Function.comp, Nat.testBit_succ]
    rw [e, ih (m / 2), Nat.testBit_zero]
    have h2 : m % 2 = 0 ∨ m % 2 = 1 := by omega
    have h3 : m % 2 ^ (n + 1) = m % 2 + 2 * (m / 2 % 2 ^ n) := by rw [Nat.pow_succ, Nat.mul_comm, Nat.mod_mul]
    rw [h3]
    rcases h2 with h | h <;> simp [h]

theorem turned_bits (b : List UInt8) (t mk : Nat) (h : t + 32 ≤ 8 * b.length) :
    (turnedN b t mk 32).flatMap bitsOf = List.zipWith (· ^^ ·) (b.flatMap bitsOf) (List.replicate t false ++ mask32 mk ++ List.replicate (8 * b.length - (t + 32)) false) := by
  apply List.ext_getElem?
  intro p
  by_cases hp : p < 8 * b.length
  · rw [flat_get _ _ (by rw [turnedN_length]; exact hp), turnedN_bit _ _ _ _ _ h, List.getElem?_zipWith, flat_get _ _ hp]
    have e : (List.replicate t false ++ mask32 mk ++ List.replicate (8 * b.length - (t + 32)) false)[p]? = some (decide (t ≤ p ∧ p < t + 32) && mk.testBit (p - t)) := by
      by_cases h1 : p < t
      · rw [List.append_assoc, List.getElem?_append_left (by simp; omega), List.getElem?_replicate, if_pos h1]
        have : ¬ (t ≤ p ∧ p < t + 32) := by omega
        rw [decide_eq_false this]
        simp
      · by_cases h2 : p < t + 32
        · rw [List.getElem?_append_left (by simp [mask32]; omega), List.getElem?_append_right (by simp; omega)]
          have h3 : t ≤ p ∧ p < t + 32 := by omega
          have h4 : p - t < 32 := by omega
          simp [mask32, h3, h4]
        · rw [List.getElem?_append_right (by simp [mask32]; omega), List.getElem?_replicate, if_pos (by simp [mask32]; omega)]
          have : ¬ (t ≤ p ∧ p < t + 32) := by omega
          rw [decide_eq_false this]
          simp
    rw [e]
  · rw [List.getElem?_eq_none (by rw [flat_length, turnedN_length]; omega), List.getElem?_eq_none (by rw [List.length_zipWith, flat_length]; omega)]

theorem sum_turned (b : List UInt8) (t mk : Nat) (h : t + 32 ≤ 8 * b.length) (hm : mk < 4294967296) (h0 : mk ≠ 0) : sumOf 0 b ≠ sumOf 0 (turnedN b t mk 32) := by
  intro e
  have h32 : (2 : Nat) ^ 32 = 4294967296 := by decide
  have hb := burst t (8 * b.length - (t + 32)) (mask32 mk) (by simp [mask32]) (by unfold mask32; rw [pack_range, Nat.mod_eq_of_lt (by omega)]; exact h0)
  have hx := bcrc_xor (b.flatMap bitsOf) (List.replicate t false ++ mask32 mk ++ List.replicate (8 * b.length - (t + 32)) false) (begun 0) 0 (by rw [flat_length]; simp [mask32]; omega)
  rw [← turned_bits b t mk h, show begun 0 ^^^ (0 : BitVec 32) = begun 0 from BitVec.xor_zero, ← crc_bits, ← crc_bits] at hx
  unfold sumOf at e
  have e2 : crc (begun 0) b ^^^ ones = crc (begun 0) (turnedN b t mk 32) ^^^ ones := BitVec.eq_of_toNat_eq (by omega)
  have e3 : crc (begun 0) b = crc (begun 0) (turnedN b t mk 32) := by
    have := congrArg (· ^^^ ones) e2
    simpa [BitVec.xor_assoc] using this
  rw [← e3] at hx
  apply hb
  have := congrArg (crc (begun 0) b ^^^ ·) hx
  simp only [BitVec.xor_self, ← BitVec.xor_assoc, BitVec.zero_xor] at this
  exact this.symm

/-- The machine's words for it. -/
theorem turn_word (x : UInt8) (mk k r : Nat) (hm : mk < 4294967296) (hr : r < 8) :
    bits .xor .u8 (x.toNat : Int) (bits .and .u32 ((mk : Int) / 2 ^ k) 1 % 256 * 2 ^ r % 256) = ((x ^^^ UInt8.ofNat ((mk.testBit k).toNat * 2 ^ r)).toNat : Int) := by
  have hdiv : ((mk : Int) / 2 ^ k) = ((mk / 2 ^ k : Nat) : Int) := by simp
  have h32 : (2 : Nat) ^ 32 = 4294967296 := by decide
  have hlt : mk / 2 ^ k < 2 ^ 32 := Nat.lt_of_le_of_lt (Nat.div_le_self _ _) (by omega)
  have hand := (bits_nat .u32 32 (by decide) wrap_u32_small (mk / 2 ^ k) 1 hlt (by decide)).1
  have hb : (mk / 2 ^ k) &&& 1 = (mk.testBit k).toNat := by
    rw [Nat.and_one_is_mod, Nat.testBit_eq_decide_div_mod_eq]
    have : mk / 2 ^ k % 2 = 0 ∨ mk / 2 ^ k % 2 = 1 := by omega
    rcases this with h | h <;> simp [h]
  rw [hdiv, show (1 : Int) = ((1 : Nat) : Int) from rfl, hand, hb]
  have hw : (((mk.testBit k).toNat : Nat) : Int) % 256 * 2 ^ r % 256 = ((UInt8.ofNat ((mk.testBit k).toNat * 2 ^ r)).toNat : Int) := by
    rw [pow_bit _ _ hr]
    have all : ∀ r : Fin 8, ∀ bt : Bool, ((bt.toNat : Nat) : Int) % 256 * 2 ^ r.val % 256 = ((bt.toNat * 2 ^ r.val : Nat) : Int) := by decide
    exact all ⟨r, hr⟩ _
  rw [hw]
  exact bits_xor_u8 x _

end Go.Proofs.YthglbmnhlnpmkaaGreat

/- Records with sums: plain facts. Numbers and types by name. -/
namespace Go.Proofs.YthglbmnhlnpmkaaGreat
open Go.RowKit Go.Lib

def frm (p : List UInt8) : List UInt8 := be4 p.length ++ be4 (sumOf 0 p) ++ p
def frms (l : List (List UInt8)) : List UInt8 := l.flatMap frm

theorem frm_length (p : List UInt8) : (frm p).length = 8 + p.length := by simp [frm, be4_length]; omega

/-- A record off the bytes. -/
def one? (b : List UInt8) : Option (List UInt8 × List UInt8) :=
  match num? b with
  | none => none
  | some (n, r) => match num? r with
    | none => none
    | some (s, q) => if n ≤ 1048576 ∧ n ≤ q.length ∧ sumOf 0 (q.take n) = s then some (q.take n, q.drop n) else none

/-- The records at the beginning of b, and how many bytes they are. -/
inductive Scans : List UInt8 → List (List UInt8) → Nat → Prop
  | stop {b : List UInt8} : one? b = none → Scans b [] 0
  | more {b p r : List UInt8} {l : List (List UInt8)} {n : Nat} : one? b = some (p, r) → Scans r l n → Scans b (p :: l) (8 + p.length + n)

theorem scans_det {b : List UInt8} {l : List (List UInt8)} {n : Nat} (h : Scans b l n) : ∀ {l' : List (List UInt8)} {n' : Nat}, Scans b l' n' → l = l' ∧ n = n' := by
  induction h with
  | stop h0 =>
    intro l' n' h'
    cases h' with
    | stop _ => exact ⟨rfl, rfl⟩
    | more h1 _ => rw [h0] at h1; cases h1
  | more h0 _ ih =>
    intro l' n' h'
    cases h' with
    | stop h1 => rw [h0] at h1; cases h1
    | more h1 h2 =>
      rw [h0] at h1
      cases h1
      obtain ⟨rfl, rfl⟩ := ih h2
      exact ⟨rfl, rfl⟩

theorem one_frm (p s : List UInt8) (hp : p.length ≤ 1048576) : one? (frm p ++ s) = some (p, s) := by
  have hb := sumOf_bound 0 p
  obtain ⟨k, hk⟩ : ∃ k : Nat, sumOf 0 p = k := ⟨(sumOf 0 p).toNat, (Int.toNat_of_nonneg hb.1).symm⟩
  unfold one? frm
  rw [hk, List.append_assoc, List.append_assoc, num_be4 p.length (by omega)]
  simp only
  rw [num_be4 k (by omega)]
  simp only
  rw [List.take_left' rfl, List.drop_left' rfl, if_pos ⟨hp, by simp, hk⟩]

theorem scans_frms {s : List UInt8} {m : List (List UInt8)} {n : Nat} (h : Scans s m n) : ∀ l : List (List UInt8), (∀ p ∈ l, p.length ≤ 1048576) → Scans (frms l ++ s) (l ++ m) ((frms l).length + n)
  | [], _ => by simpa [frms] using h
  | p :: l, hl => by
    have ih := scans_frms h l fun q hq => hl q (by simp [hq])
    have e : frms (p :: l) = frm p ++ frms l := by simp [frms]
    rw [e, List.append_assoc, List.length_append, frm_length, show 8 + p.length + (frms l).length + n = 8 + p.length + ((frms l).length + n) by omega]
    exact .more (one_frm p _ (hl p (by simp))) ih

theorem scans_nil : Scans [] [] 0 := .stop rfl

/-- A record that is cut is none. -/
theorem one_cut (p : List UInt8) (k : Nat) (hp : p.length ≤ 1048576) (hk : k < (frm p).length) : one? ((frm p).take k) = none := by
  rw [frm_length] at hk
  unfold one?
  by_cases h4 : k < 4
  · have : num? ((frm p).take k) = none := by
      unfold num?
      rw [if_neg (by rw [List.length_take, frm_length]; omega)]
    rw [this]
  · have e : (frm p).take k = be4 p.length ++ (be4 (sumOf 0 p) ++ p).take (k - 4) := by
      unfold frm
      rw [List.append_assoc, List.take_append, List.take_of_length_le (by rw [be4_length]; omega), be4_length]
    rw [e, num_be4 p.length (by omega)]
    simp only
    by_cases h8 : k < 8
    · have : num? ((be4 (sumOf 0 p) ++ p).take (k - 4)) = none := by
        unfold num?
        rw [if_neg (by rw [List.length_take]; omega)]
      rw [this]
    · have e2 : (be4 (sumOf 0 p) ++ p).take (k - 4) = be4 (sumOf 0 p) ++ p.take (k - 4 - 4) := by
        rw [List.take_append, List.take_of_length_le (by rw [be4_length]; omega), be4_length]
      have hb := sumOf_bound 0 p
      obtain ⟨s, hs⟩ : ∃ s : Nat, sumOf 0 p = s := ⟨(sumOf 0 p).toNat, (Int.toNat_of_nonneg hb.1).symm⟩
      rw [e2, hs, num_be4 s (by omega)]
      simp only
      rw [if_neg]
      rintro ⟨_, h, _⟩
      rw [List.length_take] at h
      omega

/-- Records one behind the other, cut in the middle of one, or behind all. -/
theorem scans_cut (l : List (List UInt8)) (p q : List UInt8) (hl : ∀ x ∈ l, x.length ≤ 1048576) (hq : q = [] ∨ ∃ k, k < (frm p).length ∧ p.length ≤ 1048576 ∧ q = (frm p).take k) : Scans (frms l ++ q) l (frms l).length := by
  have h0 : Scans q [] 0 := by
    rcases hq with rfl | ⟨k, h1, h2, rfl⟩
    · exact scans_nil
    · exact .stop (one_cut p k h2 h1)
  have := scans_frms h0 l hl
  simpa using this

theorem bits_zero : bitsOf 0 = List.replicate 8 false := by decide
theorem flat_zeros : ∀ n : Nat, (List.replicate n (0 : UInt8)).flatMap bitsOf = List.replicate (8 * n) false
  | 0 => rfl
  | n + 1 => by rw [List.replicate_succ, List.flatMap_cons, flat_zeros n, bits_zero, List.replicate_append_replicate]; congr 1; omega

/-- One byte that is turned turns the sum. -/
theorem sum_byte (b : List UInt8) (j : Nat) (x y : UInt8) (hx : b[j]? = some x) (hy : y ≠ 0) : sumOf 0 (b.set j (x ^^^ y)) ≠ sumOf 0 b := by
  have hj : j < b.length := (List.getElem?_eq_some_iff.1 hx).1
  have he : b.set j (x ^^^ y) = List.zipWith (· ^^^ ·) b (List.replicate j 0 ++ [y] ++ List.replicate (b.length - j - 1) 0) := by
    apply List.ext_getElem?
    intro i
    rw [List.getElem?_set, List.getElem?_zipWith]
    by_cases h : j = i
    · subst h
      rw [if_pos rfl, if_pos hj, hx, List.getElem?_append_left (by simp), List.getElem?_append_right (by simp)]
      simp
    · rw [if_neg h]
      by_cases hi : i < j
      · rw [List.append_assoc, List.getElem?_append_left (by simp; omega), List.getElem?_replicate, if_pos hi, List.getElem?_eq_getElem (by omega)]
        simp
      · by_cases hb : i < b.length
        · rw [List.getElem?_append_right (by simp; omega), List.getElem?_replicate, if_pos (by simp; omega), List.getElem?_eq_getElem hb]
          simp
        · rw [List.getElem?_eq_none (by omega)]
  have hz : begun 0 ^^^ (0 : BitVec 32) = begun 0 := BitVec.xor_zero
  have hc := crc_xor b (List.replicate j 0 ++ [y] ++ List.replicate (b.length - j - 1) 0) (begun 0) 0 (by simp; omega)
  rw [← he, hz] at hc
  have hb : crc 0 (List.replicate j 0 ++ [y] ++ List.replicate (b.length - j - 1) 0) ≠ 0 := by
    rw [crc_bits, List.flatMap_append, List.flatMap_append, flat_zeros, flat_zeros]
    simp only [List.flatMap_cons, List.flatMap_nil, List.append_nil]
    refine burst _ _ _ (by rw [bitsOf_length]; omega) ?_
    rw [pack_bits]
    intro e
    exact hy (UInt8.toNat_inj.1 e)
  intro e
  apply hb
  unfold sumOf at e
  have e2 : crc (begun 0) (b.set j (x ^^^ y)) ^^^ ones = crc (begun 0) b ^^^ ones := BitVec.eq_of_toNat_eq (by omega)
  have e3 : crc (begun 0) (b.set j (x ^^^ y)) = crc (begun 0) b := by
    have := congrArg (· ^^^ ones) e2
    simpa [BitVec.xor_assoc] using this
  rw [e3] at hc
  have := congrArg (crc (begun 0) b ^^^ ·) hc
  simp only [BitVec.xor_self, ← BitVec.xor_assoc, BitVec.zero_xor] at this
  exact this.symm

theorem byteOf_eq {k : Int} {x : UInt8} (h : k % 256 = x.toNat) : byteOf k = x := by
  apply UInt8.toNat_inj.1
  have := byteOf_int k
  omega
theorem be4_numOf (x y z u : UInt8) : be4 (numOf [x, y, z, u]) = [x, y, z, u] := by
  have h1 := x.toNat_lt
  have h2 := y.toNat_lt
  have h3 := z.toNat_lt
  have h4 := u.toNat_lt
  unfold be4 numOf
  simp only [List.foldl_cons, List.foldl_nil]
  rw [byteOf_eq (x := x) (by omega), byteOf_eq (x := y) (by omega), byteOf_eq (x := z) (by omega), byteOf_eq (x := u) (by omega)]
theorem numOf_inj {l m : List UInt8} (hl : l.length = 4) (hm : m.length = 4) (h : numOf l = numOf m) : l = m := by
  match l, m, hl, hm with
  | [x, y, z, u], [x', y', z', u'], _, _ =>
    rw [← be4_numOf x y z u, ← be4_numOf x' y' z' u', h]

theorem num_any4 (l s : List UInt8) (h : l.length = 4) : num? (l ++ s) = some ((numOf l).toNat, s) := by
  unfold num?
  rw [if_pos (by simp; omega), List.take_left' h, List.drop_left' h]

theorem set_ne {l : List UInt8} {j : Nat} {x y : UInt8} (hx : l[j]? = some x) (hy : y ≠ 0) : l.set j (x ^^^ y) ≠ l := by
  intro e
  have := congrArg (·[j]?) e
  have hj : j < l.length := (List.getElem?_eq_some_iff.1 hx).1
  simp only [List.getElem?_set, if_pos hj, if_true, hx, Option.some.injEq] at this
  apply hy
  have h2 := congrArg (x ^^^ ·) this
  simpa [← UInt8.xor_assoc] using h2

/-- A record of which one byte behind its length is turned is none. -/
theorem one_turned (p : List UInt8) (j : Nat) (x y : UInt8) (s : List UInt8) (hp : p.length ≤ 1048576) (hx : (be4 (sumOf 0 p) ++ p)[j]? = some x) (hy : y ≠ 0) :
    one? (be4 p.length ++ (be4 (sumOf 0 p) ++ p).set j (x ^^^ y) ++ s) = none := by
  have hb := sumOf_bound 0 p
  unfold one?
  rw [List.append_assoc, num_be4 p.length (by omega)]
  simp only
  by_cases hj : j < 4
  · rw [List.set_append_left _ _ (by rw [be4_length]; exact hj), List.append_assoc, num_any4 _ _ (by rw [List.length_set, be4_length])]
    simp only
    rw [List.getElem?_append_left (by rw [be4_length]; exact hj)] at hx
    rw [if_neg]
    rintro ⟨_, _, h⟩
    rw [List.take_left' rfl] at h
    have hn := numOf_bound ((be4 (sumOf 0 p)).set j (x ^^^ y))
    rw [Int.toNat_of_nonneg hn.1] at h
    have h2 : numOf (be4 (sumOf 0 p)) = sumOf 0 p := by rw [numOf_be4]; omega
    exact set_ne hx hy (numOf_inj (by rw [List.length_set, be4_length]) (be4_length _) (by rw [← h, h2]))
  · rw [List.set_append_right _ _ (by rw [be4_length]; omega), be4_length]
    rw [List.getElem?_append_right (by rw [be4_length]; omega), be4_length] at hx
    obtain ⟨k, hk⟩ : ∃ k : Nat, sumOf 0 p = k := ⟨(sumOf 0 p).toNat, (Int.toNat_of_nonneg hb.1).symm⟩
    rw [hk, List.append_assoc, num_be4 k (by omega)]
    simp only
    rw [if_neg]
    rintro ⟨_, _, h⟩
    rw [List.take_left' (by rw [List.length_set])] at h
    exact sum_byte p (j - 4) x y hx hy (h.trans hk.symm)

end Go.Proofs.YthglbmnhlnpmkaaGreat

/- Lists of lists of bytes. Numbers and types by name. -/
namespace Go.Proofs.YthglbmnhlnpmkaaGreat
open Go.RowKit Go.Lib

/-- A list of lists of bytes can be read. -/
def Rws (w : World) (v : Value) (n : Nat) (ps : List (List UInt8)) : Prop :=
  n = ps.length ∧ n ≤ maxLen ∧ ∃ vs : List Value, Reads w v vs ∧ vs.length = n ∧ ∀ (j : Nat) (p : List UInt8), ps[j]? = some p → ∃ ao c, vs[j]? = some (Value.slice ao p.length c) ∧ Reads w (.slice ao p.length c) (bv p) ∧ p.length ≤ maxLen

theorem Rws.shape {w : World} {v : Value} {n : Nat} {ps : List (List UInt8)} (h : Rws w v n ps) : ∃ ao c, v = .slice ao n c := by
  obtain ⟨_, _, vs, ⟨ao, c, rfl, _⟩, hl, _⟩ := h
  exact ⟨ao, c, by rw [hl]⟩

theorem Rws.later {w w' : World} {v : Value} {n : Nat} {ps : List (List UInt8)} (h : Rws w v n ps) (hg : Grow w w') : Rws w' v n ps := by
  obtain ⟨h1, h2, vs, hr, hl, hp⟩ := h
  exact ⟨h1, h2, vs, hr.later hg, hl, fun j p hj => by obtain ⟨ao, c, e1, e2, e3⟩ := hp j p hj; exact ⟨ao, c, e1, e2.later hg, e3⟩⟩

theorem Rws.nil (w : World) : Rws w (.slice none 0 0) 0 [] := ⟨rfl, Nat.zero_le _, [], Reads.nil w, rfl, fun j p h => by cases h⟩

theorem Rws.at {w : World} {ao : Option Addr} {n c : Nat} {ps : List (List UInt8)} (h : Rws w (.slice ao n c) n ps) {k : Nat} (hk : k < n) :
    ∃ a p ap cp, ao = some a ∧ ps[k]? = some p ∧ w.cell? (a.add k) = some (.slice ap p.length cp) ∧ Reads w (.slice ap p.length cp) (bv p) ∧ p.length ≤ maxLen := by
  obtain ⟨h1, h2, vs, ⟨ao', c', e, _, hn, hc⟩, hl, hp⟩ := h
  simp only [Value.slice.injEq] at e
  obtain ⟨rfl, _, _⟩ := e
  have hx : ps[k]? = some (ps[k]'(by omega)) := List.getElem?_eq_getElem (by omega)
  obtain ⟨ap, cp, e1, e2, e3⟩ := hp k _ hx
  cases ao with
  | none => have := (hn rfl).1; subst this; simp at hl; omega
  | some a => exact ⟨a, _, ap, cp, rfl, hx, hc a rfl k _ e1, e2, e3⟩

def bulkR (ps : List (List UInt8)) : Nat := (ps.map fun p => 1 + p.length).sum

theorem bulkR_cons (p : List UInt8) (ps : List (List UInt8)) : bulkR (p :: ps) = 1 + p.length + bulkR ps := by simp [bulkR]

theorem bulkR_append (ps qs : List (List UInt8)) : bulkR (ps ++ qs) = bulkR ps + bulkR qs := by simp [bulkR]

theorem bulkR_length (ps : List (List UInt8)) : ps.length ≤ bulkR ps := by
  induction ps with
  | nil => simp
  | cons p ps ih => rw [bulkR_cons, List.length_cons]; omega

theorem bulkR_mem {ps : List (List UInt8)} {p : List UInt8} (h : p ∈ ps) : 1 + p.length ≤ bulkR ps := by
  induction ps with
  | nil => cases h
  | cons q ps ih =>
    rw [bulkR_cons]
    rcases List.mem_cons.1 h with rfl | h
    · omega
    · have := ih h; omega

theorem take_more {α : Type} {L : List α} {k : Nat} {s : α} (h : L[k]? = some s) : L.take (k + 1) = L.take k ++ [s] := by rw [List.take_add_one, h]; rfl

end Go.Proofs.YthglbmnhlnpmkaaGreat

namespace Go.Proofs.YthglbmnhlnpmkaaGreat
open Go.RowKit Go.Lib

theorem crc_take {l : List UInt8} {k : Nat} {x : UInt8} (c : BitVec 32) (h : l[k]? = some x) : crc c (l.take (k + 1)) = feed (crc c (l.take k)) x := by
  have : l.take (k + 1) = l.take k ++ [x] := by rw [List.take_add_one, h]; rfl
  rw [this, crc_append]
  rfl

theorem ref_more (s : Int) (v : Value) (m : Nat) (l : List UInt8) (w : World) (hr : Reads w v (bv l)) (hm : m = l.length) (hl : Hid (m ≤ 1000000000)) :
    Calls Tryz.prog 99 #[.int .i64 s, v] w fun e w' => e = .returned (.int .i64 (sumOf s l)) ∧ w' = w := by
  obtain ⟨ao, c, rfl⟩ : ∃ ao c, v = .slice ao m c := by obtain ⟨ao, c, rfl, _⟩ := hr; exact ⟨ao, c, by rw [bv_length, hm]⟩
  have hb := begun_xor s
  have hl' := hl.out
  have HR := Lib.hid (And.intro hr hm)
  clear hr hm
  go_enter Tryz.func99, Tryz.ntmps99
  go_wp2_with fail
  clear hb
  go_loopw [5, 6] (fun cv i wr => ∃ k : Nat, k ≤ m ∧ i = .int .i64 k ∧ cv = .int .u32 ((crc (begun s) (l.take k)).toNat : Int) ∧ w = wr)
    (fun _ i _ => m - (intOf i).toNat)
  case atStart => exact ⟨0, Nat.zero_le _, rfl, rfl, rfl⟩
  case round =>
    obtain ⟨k, hk, rfl, rfl, rfl⟩ := hrel
    by_cases hlt : k < m
    · have h3 : (k : Int) < (m : Int) := by omega
      obtain ⟨x, hx⟩ : ∃ x, l[k]? = some x := ⟨l[k]'(by have := HR.out.2; omega), List.getElem?_eq_getElem (by have := HR.out.2; omega)⟩
      obtain ⟨a, rfl, hc⟩ : ∃ a, ao = some a ∧ w.cell? (a.add k) = some (.int .u8 (x.toNat : Int)) := by
        obtain ⟨ao', c', e, _, hn, h2⟩ := HR.out.1
        simp only [Value.slice.injEq] at e
        obtain ⟨rfl, _, _⟩ := e
        cases ao with
        | none => have := (hn rfl).1; have : l = [] := by simpa [bv] using this
                  subst this; simp at hx
        | some a => exact ⟨a, rfl, h2 a rfl k _ (by simp [bv, hx])⟩
      have hxor := byte_xor (crc (begun s) (l.take k)) x
      have HN := Lib.hid (crc_take (begun s) hx)
      have hx256 := x.toNat_lt
      clear hx
      generalize crc (begun s) (l.take k) = c0 at *
      generalize hd : c0 ^^^ BitVec.ofNat 32 x.toNat = d at *
      have HD := Lib.hid hd
      clear hd
      go_wp2_with fail
      clear hxor hc
      go_loopw [5, 7] (fun cv i wr => ∃ j : Nat, j ≤ 8 ∧ i = .int .i64 j ∧ cv = .int .u32 ((shs j d).toNat : Int) ∧ w = wr)
        (fun _ i _ => 8 - (intOf i).toNat)
      case atStart => exact ⟨0, by omega, rfl, rfl, rfl⟩
      case round =>
        obtain ⟨j, hj, rfl, rfl, rfl⟩ := hrel
        by_cases hj8 : j < 8
        · have h4 : (j : Int) < 8 := by omega
          have hsucc := shs_succ j d
          generalize shs j d = e at *
          cases hlow : e.getLsbD 0 with
          | true =>
            have f1 := low_one hlow
            have f2 := step_one hlow
            rw [← hsucc] at f2
            have HF := Lib.hid hsucc
            clear hsucc hlow
            go_wp2_with fail
            exact ⟨⟨j + 1, by omega, by simp, rfl, trivial⟩, by simp [intOf]; omega⟩
          | false =>
            have f1 := low_none hlow
            have f2 := step_none hlow
            rw [← hsucc] at f2
            clear hsucc hlow
            go_wp2_with fail
            exact ⟨⟨j + 1, by omega, by simp, rfl, trivial⟩, by simp [intOf]; omega⟩
        · obtain rfl : j = 8 := by omega
          go_wp2_with fail
          refine ⟨⟨k + 1, by omega, by simp, ?_, trivial⟩, by simp [intOf]; omega⟩
          rw [HN.out]
          unfold feed
          rw [HD.out]
    · obtain rfl : k = m := by omega
      have h3 : ¬ (k : Int) < (k : Int) := by omega
      have hk2 : l.take k = l := List.take_of_length_le (by have := HR.out.2; omega)
      rw [hk2]
      have he := ended_xor (crc (begun s) l)
      have hbd := sumOf_bound s l
      rw [show ((crc (begun s) l ^^^ ones).toNat : Int) = sumOf s l from rfl] at he
      have hwz : wrap64 (sumOf s l) = sumOf s l := by unfold wrap64; omega
      generalize hz : sumOf s l = z at *
      have HZ := Lib.hid hz
      clear hbd hz
      go_wp2_with fail
      go_ret
      rw [HZ.out]
      exact ⟨rfl, rfl⟩

theorem ref_sum (v : Value) (m : Nat) (l : List UInt8) (w : World) (hr : Reads w v (bv l)) (hm : m = l.length) (hl : Hid (m ≤ 1000000000)) :
    Calls Tryz.prog 78 #[v] w fun e w' => e = .returned (.int .i64 (sumOf 0 l)) ∧ w' = w := by
  have G := ref_more 0 v m l w hr hm hl
  go_enter Tryz.func78, Tryz.ntmps78
  go_wp2_with (go_at_call 99; refine G.mono ?_; rintro e w' ⟨rfl, rfl⟩)
  go_ret
  first | exact rfl | exact ⟨rfl, rfl⟩

end Go.Proofs.YthglbmnhlnpmkaaGreat
