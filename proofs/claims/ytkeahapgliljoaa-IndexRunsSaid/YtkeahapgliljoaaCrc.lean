/- A checksum's steps: plain facts. Numbers and types by name. -/
import Derived.Test.YtkeahapgliljoaaBas
namespace Go.Proofs.Ytkeahapgliljoaa
open Go.RowKit Go.Lib

def poly : BitVec 32 := 0xedb88320#32
/-- One step. -/
def sh (c : BitVec 32) : BitVec 32 := if c.getLsbD 0 = true then (c >>> 1) ^^^ poly else c >>> 1

theorem sh_xor (c d : BitVec 32) : sh (c ^^^ d) = sh c ^^^ sh d := by
  unfold sh
  rw [BitVec.getLsbD_xor, BitVec.ushiftRight_xor_distrib]
  cases h1 : c.getLsbD 0 <;> cases h2 : d.getLsbD 0 <;> simp
  · ac_rfl
  · ac_rfl
  · rw [show c >>> 1 ^^^ poly ^^^ (d >>> 1 ^^^ poly) = (c >>> 1 ^^^ d >>> 1) ^^^ (poly ^^^ poly) by ac_rfl]
    simp

theorem sh_zero : sh 0 = 0 := by decide

theorem sh_nonzero {c : BitVec 32} (h : c ≠ 0) : sh c ≠ 0 := by
  intro e
  apply h
  unfold sh at e
  have hc := c.isLt
  split at e
  · have e2 : c >>> 1 = poly := by
      have := congrArg (· ^^^ poly) e
      simp only [BitVec.xor_assoc, BitVec.xor_self, BitVec.xor_zero, BitVec.zero_xor] at this
      exact this
    have e3 := congrArg BitVec.toNat e2
    simp [poly, Nat.shiftRight_eq_div_pow] at e3
    omega
  · next hl =>
    have e3 := congrArg BitVec.toNat e
    simp [Nat.shiftRight_eq_div_pow] at e3
    have h0 : c.toNat % 2 = 0 := by
      have : c.getLsbD 0 = false := by simpa using hl
      rw [BitVec.getLsbD, Nat.testBit_zero] at this
      simpa using this
    apply BitVec.eq_of_toNat_eq
    simp
    omega

/-- A bit. -/
def bfeed (c : BitVec 32) (b : Bool) : BitVec 32 := sh (c ^^^ (if b then 1 else 0))
def bcrc (c : BitVec 32) (l : List Bool) : BitVec 32 := l.foldl bfeed c

theorem bfeed_xor (c d : BitVec 32) (x y : Bool) : bfeed (c ^^^ d) (x ^^ y) = bfeed c x ^^^ bfeed d y := by
  unfold bfeed
  rw [← sh_xor]
  congr 1
  cases x <;> cases y <;> simp
  · ac_rfl
  · ac_rfl
  · rw [show c ^^^ 1#32 ^^^ (d ^^^ 1#32) = (c ^^^ d) ^^^ (1#32 ^^^ 1#32) by ac_rfl]; simp

theorem bcrc_xor : ∀ (l m : List Bool) (c d : BitVec 32), l.length = m.length → bcrc (c ^^^ d) (List.zipWith (· ^^ ·) l m) = bcrc c l ^^^ bcrc d m
  | [], [], _, _, _ => rfl
  | x :: l, y :: m, c, d, h => by
    show bcrc (bfeed (c ^^^ d) (x ^^ y)) _ = bcrc (bfeed c x) l ^^^ bcrc (bfeed d y) m
    rw [bfeed_xor]
    exact bcrc_xor l m _ _ (by simpa using h)
  | [], _ :: _, _, _, h => by simp at h
  | _ :: _, [], _, _, h => by simp at h

theorem bcrc_append (c : BitVec 32) (l m : List Bool) : bcrc c (l ++ m) = bcrc (bcrc c l) m := List.foldl_append

def shs : Nat → BitVec 32 → BitVec 32
  | 0, c => c
  | n + 1, c => shs n (sh c)

theorem shs_xor : ∀ (n : Nat) (c d : BitVec 32), shs n (c ^^^ d) = shs n c ^^^ shs n d
  | 0, _, _ => rfl
  | n + 1, c, d => by show shs n (sh (c ^^^ d)) = _; rw [sh_xor, shs_xor n]; rfl
theorem shs_nonzero : ∀ (n : Nat) {c : BitVec 32}, c ≠ 0 → shs n c ≠ 0
  | 0, _, h => h
  | n + 1, _, h => shs_nonzero n (sh_nonzero h)
theorem shs_zero : ∀ n, shs n 0 = 0
  | 0 => rfl
  | n + 1 => by show shs n (sh 0) = 0; rw [sh_zero]; exact shs_zero n

/-- The number that bits are, the lowest first. -/
def pack : List Bool → Nat
  | [] => 0
  | b :: t => b.toNat + 2 * pack t

theorem pack_lt : ∀ l : List Bool, pack l < 2 ^ l.length
  | [] => by simp [pack]
  | b :: t => by
    have := pack_lt t
    have hb : b.toNat ≤ 1 := Bool.toNat_le b
    rw [pack, List.length_cons, Nat.pow_succ]
    omega

theorem xor_low (b : Bool) (p : Nat) : b.toNat + 2 * p = b.toNat ^^^ (2 * p) := by
  cases b with
  | false => simp
  | true =>
    apply Nat.eq_of_testBit_eq
    intro i
    cases i with
    | zero => rw [Nat.testBit_xor, Nat.testBit_zero, Nat.testBit_zero, Nat.testBit_zero]; simp [Nat.add_mod, Nat.mul_mod]
    | succ i =>
      rw [Nat.testBit_xor, Nat.testBit_succ, Nat.testBit_succ, Nat.testBit_succ]
      have h1 : (true.toNat + 2 * p) / 2 = p := by simp; omega
      have h2 : true.toNat / 2 = 0 := rfl
      have h3 : 2 * p / 2 = p := by omega
      rw [h1, h2, h3]
      simp

theorem sh_double (p : Nat) (hp : p < 2 ^ 31) : sh (BitVec.ofNat 32 (2 * p)) = BitVec.ofNat 32 p := by
  unfold sh
  have h0 : (BitVec.ofNat 32 (2 * p)).getLsbD 0 = false := by
    simp [BitVec.getLsbD, Nat.testBit_zero]
  rw [if_neg (by rw [h0]; simp)]
  apply BitVec.eq_of_toNat_eq
  simp [Nat.shiftRight_eq_div_pow]
  omega

/-- Up to 32 bits, one by one, are as one number at once. -/
theorem bcrc_pack : ∀ (l : List Bool) (c : BitVec 32), l.length ≤ 32 → bcrc c l = shs l.length (c ^^^ BitVec.ofNat 32 (pack l))
  | [], c, _ => by simp [bcrc, shs, pack]
  | b :: t, c, h => by
    have ht : t.length ≤ 31 := by simpa using h
    have hp : pack t < 2 ^ 31 := Nat.lt_of_lt_of_le (pack_lt t) (Nat.pow_le_pow_right (by decide) ht)
    show bcrc (bfeed c b) t = shs t.length (sh (c ^^^ BitVec.ofNat 32 (b.toNat + 2 * pack t)))
    rw [bcrc_pack t _ (by omega), xor_low, BitVec.ofNat_xor, ← BitVec.xor_assoc, sh_xor, sh_double _ hp]
    congr 2
    unfold bfeed
    cases b <;> simp

theorem bcrc_zeros : ∀ (n : Nat) (c : BitVec 32), bcrc c (List.replicate n false) = shs n c
  | 0, _ => rfl
  | n + 1, c => by
    rw [List.replicate_succ]
    show bcrc (bfeed c false) _ = shs n (sh c)
    rw [bcrc_zeros n]
    simp [bfeed]

/-- Bits side by side, up to 32 of them, not all of them none, make a sum that is not none. -/
theorem burst (n m : Nat) (l : List Bool) (hl : l.length ≤ 32) (h : pack l ≠ 0) : bcrc 0 (List.replicate n false ++ l ++ List.replicate m false) ≠ 0 := by
  rw [bcrc_append, bcrc_append, bcrc_zeros, bcrc_zeros, shs_zero, bcrc_pack l _ hl]
  refine shs_nonzero _ (shs_nonzero _ ?_)
  intro e
  have e2 := congrArg BitVec.toNat e
  have hp := Nat.lt_of_lt_of_le (pack_lt l) (Nat.pow_le_pow_right (n := 2) (by decide) hl)
  simp at e2
  omega

/-- A byte's bits, the lowest first. -/
def bitsOf (x : UInt8) : List Bool := (List.range 8).map fun i => x.toNat.testBit i
def feed (c : BitVec 32) (x : UInt8) : BitVec 32 := shs 8 (c ^^^ BitVec.ofNat 32 x.toNat)
def crc (c : BitVec 32) (l : List UInt8) : BitVec 32 := l.foldl feed c

theorem pack_bits (x : UInt8) : pack (bitsOf x) = x.toNat := by
  have all : ∀ n : Fin 256, pack ((List.range 8).map fun i => n.val.testBit i) = n.val := by decide +kernel
  exact all ⟨x.toNat, x.toNat_lt⟩

theorem feed_bits (c : BitVec 32) (x : UInt8) : feed c x = bcrc c (bitsOf x) := by
  rw [bcrc_pack _ _ (by simp [bitsOf]), pack_bits]
  rfl
theorem crc_bits : ∀ (l : List UInt8) (c : BitVec 32), crc c l = bcrc c (l.flatMap bitsOf)
  | [], _ => rfl
  | x :: l, c => by
    show crc (feed c x) l = _
    rw [crc_bits l, feed_bits, List.flatMap_cons, bcrc_append]

theorem crc_append (c : BitVec 32) (l m : List UInt8) : crc c (l ++ m) = crc (crc c l) m := List.foldl_append

/-! The machine's words for them. -/
theorem bits_xor_nat (k : IntKind) (j : Nat) (hj : j ≤ k.bits) (hk : ∀ n : Int, 0 ≤ n → n < 2 ^ j → k.wrap n = n) (a b : Nat) (ha : a < 2 ^ j) (hb : b < 2 ^ j) :
    bits .xor k a b = ((a ^^^ b : Nat) : Int) := by
  have hp : 2 ^ j ≤ 2 ^ k.bits := Nat.pow_le_pow_right (by decide) hj
  have ha' : a % 2 ^ k.bits = a := Nat.mod_eq_of_lt (Nat.lt_of_lt_of_le ha hp)
  have hb' : b % 2 ^ k.bits = b := Nat.mod_eq_of_lt (Nat.lt_of_lt_of_le hb hp)
  have cast : ∀ n : Nat, n < 2 ^ j → ((n : Nat) : Int) < 2 ^ j := fun n h => by exact_mod_cast h
  simp only [bits, BitVec.ofInt_natCast, BitVec.toNat_xor, BitVec.toNat_ofNat, ha', hb']
  exact hk _ (Int.natCast_nonneg _) (cast _ (Nat.xor_lt_two_pow ha hb))

theorem wrap_u32_small (n : Int) (h0 : 0 ≤ n) (h1 : n < 2 ^ 32) : IntKind.u32.wrap n = n := by
  have : (2 : Int) ^ 32 = 4294967296 := by decide
  simp [IntKind.wrap, IntKind.bits, IntKind.signed]
  omega
theorem wrap_i64_small (n : Int) (h0 : 0 ≤ n) (h1 : n < 2 ^ 62) : IntKind.i64.wrap n = n := by
  have : (2 : Int) ^ 62 = 4611686018427387904 := by decide
  rw [IntKind.wrap_i64]
  omega

theorem bits_xor_u32 (c d : BitVec 32) : bits .xor .u32 (c.toNat : Int) (d.toNat : Int) = ((c ^^^ d).toNat : Int) := by
  rw [bits_xor_nat .u32 32 (by decide) wrap_u32_small _ _ c.isLt d.isLt, BitVec.toNat_xor]
theorem bits_xor_i64 (c d : BitVec 32) : bits .xor .i64 (c.toNat : Int) (d.toNat : Int) = ((c ^^^ d).toNat : Int) := by
  rw [bits_xor_nat .i64 62 (by decide) wrap_i64_small _ _ (Nat.lt_of_lt_of_le c.isLt (by decide)) (Nat.lt_of_lt_of_le d.isLt (by decide)), BitVec.toNat_xor]
theorem bits_and_u32 (c d : BitVec 32) : bits .and .u32 (c.toNat : Int) (d.toNat : Int) = ((c &&& d).toNat : Int) := by
  rw [(bits_nat .u32 32 (by decide) wrap_u32_small _ _ c.isLt d.isLt).1, BitVec.toNat_and]
theorem bits_and_i64 (c d : BitVec 32) : bits .and .i64 (c.toNat : Int) (d.toNat : Int) = ((c &&& d).toNat : Int) := by
  rw [(bits_nat .i64 62 (by decide) wrap_i64_small _ _ (Nat.lt_of_lt_of_le c.isLt (by decide)) (Nat.lt_of_lt_of_le d.isLt (by decide))).1, BitVec.toNat_and]

theorem shs_succ : ∀ (n : Nat) (c : BitVec 32), shs (n + 1) c = sh (shs n c)
  | 0, _ => rfl
  | n + 1, c => by show shs (n + 1) (sh c) = sh (shs n (sh c)); exact shs_succ n (sh c)

/-- The state that a sum begins with. -/
def ones : BitVec 32 := 0xffffffff#32
def begun (s : Int) : BitVec 32 := BitVec.ofInt 32 s ^^^ ones
/-- The sum of l behind s. -/
def sumOf (s : Int) (l : List UInt8) : Int := ((crc (begun s) l ^^^ ones).toNat : Int)

theorem ofInt_mod (s : Int) : ((BitVec.ofInt 32 s).toNat : Int) = s % 4294967296 := by
  rw [BitVec.toNat_ofInt]
  have : ((2 ^ 32 : Nat) : Int) = 4294967296 := by decide
  rw [this]
  exact Int.toNat_of_nonneg (Int.emod_nonneg _ (by decide))

/-- Which arm is taken. -/
theorem low_one {c : BitVec 32} (h : c.getLsbD 0 = true) : bits .and .u32 (c.toNat : Int) 1 = 1 := by
  have := bits_and_u32 c 1
  have e : c &&& 1 = 1 := by
    apply BitVec.eq_of_toNat_eq
    rw [BitVec.getLsbD, Nat.testBit_zero] at h
    simp only [decide_eq_true_eq] at h
    simp [Nat.and_one_is_mod, h]
  rw [e] at this
  exact this
theorem low_none {c : BitVec 32} (h : c.getLsbD 0 = false) : bits .and .u32 (c.toNat : Int) 1 = 0 := by
  have := bits_and_u32 c 1
  have e : c &&& 1 = 0 := by
    apply BitVec.eq_of_toNat_eq
    rw [BitVec.getLsbD, Nat.testBit_zero] at h
    simp only [decide_eq_false_iff_not] at h
    simp [Nat.and_one_is_mod]
    omega
  rw [e] at this
  exact this
theorem half_nat (c : BitVec 32) : (c.toNat : Int) / (2 : Int) = ((c >>> 1).toNat : Int) := by
  simp [Nat.shiftRight_eq_div_pow]
theorem step_one {c : BitVec 32} (h : c.getLsbD 0 = true) : bits .xor .u32 ((c.toNat : Int) / (2 : Int)) 3988292384 = ((sh c).toNat : Int) := by
  rw [half_nat]
  have := bits_xor_u32 (c >>> 1) poly
  unfold sh
  rw [if_pos h]
  exact this
theorem step_none {c : BitVec 32} (h : c.getLsbD 0 = false) : (c.toNat : Int) / (2 : Int) = ((sh c).toNat : Int) := by
  rw [half_nat]
  unfold sh
  rw [if_neg (by rw [h]; simp)]
theorem byte_xor (c : BitVec 32) (x : UInt8) : bits .xor .u32 (c.toNat : Int) (x.toNat : Int) = ((c ^^^ BitVec.ofNat 32 x.toNat).toNat : Int) := by
  have := bits_xor_u32 c (BitVec.ofNat 32 x.toNat)
  have e : (BitVec.ofNat 32 x.toNat).toNat = x.toNat := by
    have := x.toNat_lt
    simp
  rw [e] at this
  exact this
theorem begun_xor (s : Int) : bits .xor .u32 (s % 4294967296) 4294967295 = ((begun s).toNat : Int) := by
  rw [← ofInt_mod]
  exact bits_xor_u32 (BitVec.ofInt 32 s) ones
theorem ended_xor (c : BitVec 32) : bits .xor .u32 (c.toNat : Int) 4294967295 = ((c ^^^ ones).toNat : Int) := bits_xor_u32 c ones

theorem begun_not (s : Int) : bits .xor .u32 IntKind.u32.max (s % 4294967296) = ((begun s).toNat : Int) := by
  rw [← ofInt_mod]
  have := bits_xor_u32 ones (BitVec.ofInt 32 s)
  rw [BitVec.xor_comm] at this
  exact this
theorem ended_not (c : BitVec 32) : bits .xor .u32 IntKind.u32.max (c.toNat : Int) = ((c ^^^ ones).toNat : Int) := by
  have := bits_xor_u32 ones c
  rw [BitVec.xor_comm] at this
  exact this

theorem sumOf_bound (s : Int) (l : List UInt8) : 0 ≤ sumOf s l ∧ sumOf s l < 4294967296 := by
  have := (crc (begun s) l ^^^ ones).isLt
  unfold sumOf
  omega
theorem begun_sum (s : Int) (l : List UInt8) : begun (sumOf s l) = crc (begun s) l := by
  show BitVec.ofInt 32 (((crc (begun s) l ^^^ ones).toNat : Nat) : Int) ^^^ ones = _
  rw [BitVec.ofInt_natCast, BitVec.ofNat_toNat, BitVec.setWidth_eq, BitVec.xor_assoc, BitVec.xor_self, BitVec.xor_zero]
/-- The sum of one text and then another. -/
theorem sumOf_append (s : Int) (a b : List UInt8) : sumOf (sumOf s a) b = sumOf s (a ++ b) := by
  show ((crc (begun (sumOf s a)) b ^^^ ones).toNat : Int) = _
  rw [begun_sum, ← crc_append]
  rfl
theorem sumOf_nil (s : Int) (h : 0 ≤ s ∧ s < 4294967296) : sumOf s [] = s := by
  show ((begun s ^^^ ones).toNat : Int) = s
  unfold begun
  rw [BitVec.xor_assoc, BitVec.xor_self, BitVec.xor_zero, ofInt_mod]
  omega

theorem feed_xor (c d : BitVec 32) (x y : UInt8) : feed (c ^^^ d) (x ^^^ y) = feed c x ^^^ feed d y := by
  unfold feed
  rw [← shs_xor, UInt8.toNat_xor, BitVec.ofNat_xor]
  congr 1
  ac_rfl
theorem crc_xor : ∀ (l m : List UInt8) (c d : BitVec 32), l.length = m.length → crc (c ^^^ d) (List.zipWith (· ^^^ ·) l m) = crc c l ^^^ crc d m
  | [], [], _, _, _ => rfl
  | x :: l, y :: m, c, d, h => by
    show crc (feed (c ^^^ d) (x ^^^ y)) _ = crc (feed c x) l ^^^ crc (feed d y) m
    rw [feed_xor]
    exact crc_xor l m _ _ (by simpa using h)
  | [], _ :: _, _, _, h => by simp at h
  | _ :: _, [], _, _, h => by simp at h

/-- Three lists turned together. -/
def three (a b c : List UInt8) : List UInt8 := List.zipWith (· ^^^ ·) (List.zipWith (· ^^^ ·) a b) c

theorem sum_three (a b c : List UInt8) (h1 : a.length = b.length) (h2 : a.length = c.length) :
    bits .xor .i64 (bits .xor .i64 (sumOf 0 a) (sumOf 0 b)) (sumOf 0 c) = sumOf 0 (three a b c) := by
  have hz : begun 0 ^^^ begun 0 ^^^ begun 0 = begun 0 := by rw [BitVec.xor_self, BitVec.zero_xor]
  have e : crc (begun 0) (three a b c) = crc (begun 0) a ^^^ crc (begun 0) b ^^^ crc (begun 0) c := by
    unfold three
    conv => lhs; rw [← hz]
    rw [crc_xor _ _ _ _ (by simp; omega), crc_xor _ _ _ _ h1]
  unfold sumOf
  rw [e, bits_xor_i64, bits_xor_i64]
  congr 2
  rw [show crc (begun 0) a ^^^ ones ^^^ (crc (begun 0) b ^^^ ones) ^^^ (crc (begun 0) c ^^^ ones) = crc (begun 0) a ^^^ crc (begun 0) b ^^^ crc (begun 0) c ^^^ ones ^^^ (ones ^^^ ones) by ac_rfl, BitVec.xor_self, BitVec.xor_zero]

theorem bits_xor_u8 (x y : UInt8) : bits .xor .u8 (x.toNat : Int) (y.toNat : Int) = ((x ^^^ y).toNat : Int) := by
  have hw : ∀ n : Int, 0 ≤ n → n < 2 ^ 8 → IntKind.u8.wrap n = n := by
    intro n h0 h1
    have : (2 : Int) ^ 8 = 256 := by decide
    simp [IntKind.wrap, IntKind.bits, IntKind.signed]
    omega
  rw [bits_xor_nat .u8 8 (by decide) hw _ _ x.toNat_lt y.toNat_lt, UInt8.toNat_xor]

end Go.Proofs.Ytkeahapgliljoaa
