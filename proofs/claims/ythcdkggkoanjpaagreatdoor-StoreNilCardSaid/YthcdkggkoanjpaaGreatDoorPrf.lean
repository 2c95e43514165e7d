/- The reference's RightPairs and Find; Great of pairs. Numbers and types by name. -/
import Derived.Test.YthcdkggkoanjpaaGreatDoorPrl
import Derived.Lib.Bytealg
import Derived.Sort.Grow
import Derived.Shelf.SlSortCmp.QuietGrown
import Derived.Sort.Walk0
import Derived.Test.YthcdkggkoanjpaaGreatDoorChecked
import Derived.WalkKit
import Derived.WalkLawsBesides
import Derived.Lib.Hide
import Derived.BigQuiet
import Derived.Deep.QuietTactic
import Derived.ArgAppend
import Derived.OwnWalk
import Derived.Deep.RegionLaw
import Derived.Deep.AppendLies
import Derived.Lib.AppendStr
import Derived.Laws.IdiomStrings
import Derived.Lib.SlBytesConst
import Derived.Test.YthcdkggkoanjpaaGreatDoorBe4
import Derived.Test.YthcdkggkoanjpaaGreatDoorTxt
import Derived.Laws.BitsLemmas
/- Tables of the code: Right, find, Get. Numbers and types by name. -/
namespace Go.Proofs.YthcdkggkoanjpaaGreatDoor
open Go.RowKit Go.Lib Go.Sort
set_option maxRecDepth 100000 in
set_option maxHeartbeats 4000000 in
theorem tright_draws (v : Value) (n : Nat) (L : List Prm) (w : World) (hr : Prr w v n L) :
    Calls Tryz.prog 106 #[v] w fun e w' => ∃ q, e = .returned (.bool (decide (Rise L))) ∧ w' = w.drewN q := by
  obtain ⟨ao, c, rfl⟩ := hr.shape
  have HR := Lib.hid hr
  have hm := hr.2.1
  unfold maxLen at hm
  clear hr
  go_enter Tryz.func106, Tryz.ntmps106
  go_wp2_with fail
  go_loopw [3] (fun i wr => ∃ m q : Nat, i = .int .i64 m ∧ 1 ≤ m ∧ (m = 1 ∨ m ≤ n) ∧ Hid (∀ j a b, j + 1 < m → L[j]? = some a → L[j + 1]? = some b → kOf a < kOf b) ∧ wr = w.drewN q)
    (fun i _ => n + 1 - (RowKit.intOf i).toNat)
  case atStart => exact ⟨1, 0, rfl, Nat.le_refl _, .inl rfl, Lib.hid (fun j a b h => by omega), rfl⟩
  case round =>
    obtain ⟨m, q, rfl, hm1, hk, hs, hw⟩ := hrel
    by_cases hlt : m < n
    · have h3 : (m : Int) < (n : Int) := by omega
      obtain ⟨k, hkm⟩ : ∃ k, m = k + 1 := ⟨m - 1, by omega⟩
      have h4 : (k : Int) < (n : Int) := by omega
      have h5 : k < n := by omega
      have u1 : IntKind.i64.wrap ((m : Int) - 1) = (k : Int) := by rw [IntKind.wrap_i64]; omega
      have HR' : Prr wr (.slice ao n c) n L := by rw [hw]; exact HR.out
      obtain ⟨a, o, rfl, ho, c0, _, _, _⟩ := HR'.at hlt
      obtain ⟨a', o', e, ho', d0, _, _, _⟩ := HR'.at (k := k) (by omega)
      cases e
      rw [hkm] at ho
      have HO := Lib.hid (And.intro ho (And.intro ho' (And.intro hw hkm)))
      clear ho ho' hw HR' hkm
      by_cases hb : Op.bytesLess o'.key.toList o.key.toList = true
      case neg =>
        have HN : Hid (¬ Rise L) := Lib.hid (fun hR => by
          have h1 := rise_next hR HO.out.2.1 HO.out.1
          unfold kOf at h1
          exact hb (by rw [bytesLess_eq]; simpa using h1))
        rw [Bool.not_eq_true] at hb
        go_wp2_with fail
        go_quiet (fail)
        go_wp2
        go_ret
        exact ⟨q + nq, by rw [decide_eq_false HN.out]; rfl, by rw [HO.out.2.2.1, World.drewN_drewN]⟩
      case pos =>
        have HN : Hid (kOf o' < kOf o) := Lib.hid (by
          unfold kOf
          rw [bytesLess_eq] at hb
          simpa using hb)
        go_wp2_with fail
        go_quiet (fail)
        go_wp2
        refine ⟨⟨m + 1, q + nq, by go_num, by omega, .inr (by omega), Lib.hid (fun j a b hj h1 h2 => ?_), by rw [HO.out.2.2.1, World.drewN_drewN]⟩, by simp [RowKit.intOf]; omega⟩
        have hkm := HO.out.2.2.2
        by_cases hjk : j + 1 < m
        · exact hs.out j a b hjk h1 h2
        · obtain rfl : j = k := by omega
          rw [HO.out.2.1] at h1
          rw [HO.out.1] at h2
          cases h1; cases h2
          exact HN.out
    · have h3 : ¬ (m : Int) < (n : Int) := by omega
      have HW := Lib.hid hw
      have HN : Hid (Rise L) := Lib.hid (rise_steps fun j a b h1 h2 => hs.out j a b (by
        have := (List.getElem?_eq_some_iff.1 h2).1
        have := HR.out.1
        omega) h1 h2)
      clear hw
      go_wp2_with fail
      go_ret
      exact ⟨by rw [decide_eq_true HN.out]; rfl, q, HW.out⟩
theorem below_draws (w : World) (q : Nat) : Below w.heap.size w (w.drewN q) := ⟨rfl, rfl, rfl, Nat.le_refl _, fun _ _ => rfl⟩
theorem tright_any (v : Value) (n : Nat) (L : List Prm) (w : World) (hr : Prr w v n L) :
    Calls Tryz.prog 106 #[v] w fun e w' => e = .returned (.bool (decide (Rise L))) ∧ Below w.heap.size w w' :=
  (tright_draws v n L w hr).mono fun e w' ⟨q, he, hw⟩ => ⟨he, by rw [hw]; exact below_draws w q⟩
end Go.Proofs.YthcdkggkoanjpaaGreatDoor

/- A checksum's steps: plain facts. Numbers and types by name. -/
namespace Go.Proofs.YthcdkggkoanjpaaGreatDoor
open Go.RowKit Go.Lib
def poly : BitVec 32 := 0xedb88320#32
def sh (c : BitVec 32) : BitVec 32 := if c.getLsbD 0 = true then (c >>> 1) ^^^ poly else c >>> 1
def shs : Nat → BitVec 32 → BitVec 32
  | 0, c => c
  | n + 1, c => shs n (sh c)
def feed (c : BitVec 32) (x : UInt8) : BitVec 32 := shs 8 (c ^^^ BitVec.ofNat 32 x.toNat)
def crc (c : BitVec 32) (l : List UInt8) : BitVec 32 := l.foldl feed c
theorem crc_append (c : BitVec 32) (l m : List UInt8) : crc c (l ++ m) = crc (crc c l) m := List.foldl_append
theorem bits_xor_nat (k : IntKind) (j : Nat) (hj : j ≤ k.bits) (hk : ∀ n : Int, 0 ≤ n → n < 2 ^ j → k.wrap n = n) (a b : Nat) (ha : a < 2 ^ j) (hb : b < 2 ^ j) :
    bits .xor k a b = ((a ^^^ b : Nat) : Int) := by
  have hp : 2 ^ j ≤ 2 ^ k.bits := Nat.pow_le_pow_right (by decide) hj
  have ha' : a % 2 ^ k.bits = a := Nat.mod_eq_of_lt (Nat.lt_of_lt_of_le ha hp)
  have hb' : b % 2 ^ k.bits = b := Nat.mod_eq_of_lt (Nat.lt_of_lt_of_le hb hp)
  have cast : ∀ n : Nat, n < 2 ^ j → ((n : Nat) : Int) < 2 ^ j := fun n h => by exact_mod_cast h
  simp only [bits, BitVec.ofInt_natCast, BitVec.toNat_xor, BitVec.toNat_ofNat, ha', hb']
  exact hk _ (Int.natCast_nonneg _) (cast _ (Nat.xor_lt_two_pow ha hb))
theorem wrap_u32_small (n : Int) (h0 : 0 ≤ n) (h1 : n < 2 ^ 32) : IntKind.u32.wrap n = n := by
  have : (2 : Int) ^ 32 = 4294967296 := by decide
  simp [IntKind.wrap, IntKind.bits, IntKind.signed]
  omega
theorem bits_xor_u32 (c d : BitVec 32) : bits .xor .u32 (c.toNat : Int) (d.toNat : Int) = ((c ^^^ d).toNat : Int) := by
  rw [bits_xor_nat .u32 32 (by decide) wrap_u32_small _ _ c.isLt d.isLt, BitVec.toNat_xor]
theorem bits_and_u32 (c d : BitVec 32) : bits .and .u32 (c.toNat : Int) (d.toNat : Int) = ((c &&& d).toNat : Int) := by
  rw [(bits_nat .u32 32 (by decide) wrap_u32_small _ _ c.isLt d.isLt).1, BitVec.toNat_and]
theorem shs_succ : ∀ (n : Nat) (c : BitVec 32), shs (n + 1) c = sh (shs n c)
  | 0, _ => rfl
  | n + 1, c => by show shs (n + 1) (sh c) = sh (shs n (sh c)); exact shs_succ n (sh c)
def ones : BitVec 32 := 0xffffffff#32
def begun (s : Int) : BitVec 32 := BitVec.ofInt 32 s ^^^ ones
def sumOf (s : Int) (l : List UInt8) : Int := ((crc (begun s) l ^^^ ones).toNat : Int)
theorem ofInt_mod (s : Int) : ((BitVec.ofInt 32 s).toNat : Int) = s % 4294967296 := by
  rw [BitVec.toNat_ofInt]
  have : ((2 ^ 32 : Nat) : Int) = 4294967296 := by decide
  rw [this]
  exact Int.toNat_of_nonneg (Int.emod_nonneg _ (by decide))
theorem low_one {c : BitVec 32} (h : c.getLsbD 0 = true) : bits .and .u32 (c.toNat : Int) 1 = 1 := by
  have := bits_and_u32 c 1
  have e : c &&& 1 = 1 := by
    apply BitVec.eq_of_toNat_eq
    rw [BitVec.getLsbD, Nat.testBit_zero] at h
    simp only [decide_eq_true_eq] at h
    simp [Nat.and_one_is_mod, h]
  rw [e] at this
  exact this
theorem low_none {c : BitVec 32} (h : c.getLsbD 0 = false) : bits .and .u32 (c.toNat : Int) 1 = 0 := by
  have := bits_and_u32 c 1
  have e : c &&& 1 = 0 := by
    apply BitVec.eq_of_toNat_eq
    rw [BitVec.getLsbD, Nat.testBit_zero] at h
    simp only [decide_eq_false_iff_not] at h
    simp [Nat.and_one_is_mod]
    omega
  rw [e] at this
  exact this
theorem half_nat (c : BitVec 32) : (c.toNat : Int) / (2 : Int) = ((c >>> 1).toNat : Int) := by
  simp [Nat.shiftRight_eq_div_pow]
theorem step_one {c : BitVec 32} (h : c.getLsbD 0 = true) : bits .xor .u32 ((c.toNat : Int) / (2 : Int)) 3988292384 = ((sh c).toNat : Int) := by
  rw [half_nat]
  have := bits_xor_u32 (c >>> 1) poly
  unfold sh
  rw [if_pos h]
  exact this
theorem step_none {c : BitVec 32} (h : c.getLsbD 0 = false) : (c.toNat : Int) / (2 : Int) = ((sh c).toNat : Int) := by
  rw [half_nat]
  unfold sh
  rw [if_neg (by rw [h]; simp)]
theorem byte_xor (c : BitVec 32) (x : UInt8) : bits .xor .u32 (c.toNat : Int) (x.toNat : Int) = ((c ^^^ BitVec.ofNat 32 x.toNat).toNat : Int) := by
  have := bits_xor_u32 c (BitVec.ofNat 32 x.toNat)
  have e : (BitVec.ofNat 32 x.toNat).toNat = x.toNat := by
    have := x.toNat_lt
    simp
  rw [e] at this
  exact this
theorem begun_not (s : Int) : bits .xor .u32 IntKind.u32.max (s % 4294967296) = ((begun s).toNat : Int) := by
  rw [← ofInt_mod]
  have := bits_xor_u32 ones (BitVec.ofInt 32 s)
  rw [BitVec.xor_comm] at this
  exact this
theorem ended_not (c : BitVec 32) : bits .xor .u32 IntKind.u32.max (c.toNat : Int) = ((c ^^^ ones).toNat : Int) := by
  have := bits_xor_u32 ones c
  rw [BitVec.xor_comm] at this
  exact this
theorem sumOf_bound (s : Int) (l : List UInt8) : 0 ≤ sumOf s l ∧ sumOf s l < 4294967296 := by
  have := (crc (begun s) l ^^^ ones).isLt
  unfold sumOf
  omega
end Go.Proofs.YthcdkggkoanjpaaGreatDoor

/- Records with sums: plain facts. Numbers and types by name. -/
namespace Go.Proofs.YthcdkggkoanjpaaGreatDoor
open Go.RowKit Go.Lib
def frm (p : List UInt8) : List UInt8 := be4 p.length ++ be4 (sumOf 0 p) ++ p
def frms (l : List (List UInt8)) : List UInt8 := l.flatMap frm
theorem frm_length (p : List UInt8) : (frm p).length = 8 + p.length := by simp [frm, be4_length]; omega
def one? (b : List UInt8) : Option (List UInt8 × List UInt8) :=
  match num? b with
  | none => none
  | some (n, r) => match num? r with
    | none => none
    | some (s, q) => if n ≤ 1048576 ∧ n ≤ q.length ∧ sumOf 0 (q.take n) = s then some (q.take n, q.drop n) else none
inductive Scans : List UInt8 → List (List UInt8) → Nat → Prop
  | stop {b : List UInt8} : one? b = none → Scans b [] 0
  | more {b p r : List UInt8} {l : List (List UInt8)} {n : Nat} : one? b = some (p, r) → Scans r l n → Scans b (p :: l) (8 + p.length + n)
theorem scans_det {b : List UInt8} {l : List (List UInt8)} {n : Nat} (h : Scans b l n) : ∀ {l' : List (List UInt8)} {n' : Nat}, Scans b l' n' → l = l' ∧ n = n' := by
  induction h with
  | stop h0 =>
    intro l' n' h'
    cases h' with
    | stop _ => exact ⟨rfl, rfl⟩
    | more h1 _ => rw [h0] at h1; cases h1
  | more h0 _ ih =>
    intro l' n' h'
    cases h' with
    | stop h1 => rw [h0] at h1; cases h1
    | more h1 h2 =>
      rw [h0] at h1
      cases h1
      obtain ⟨rfl, rfl⟩ := ih h2
      exact ⟨rfl, rfl⟩
theorem one_frm (p s : List UInt8) (hp : p.length ≤ 1048576) : one? (frm p ++ s) = some (p, s) := by
  have hb := sumOf_bound 0 p
  obtain ⟨k, hk⟩ : ∃ k : Nat, sumOf 0 p = k := ⟨(sumOf 0 p).toNat, (Int.toNat_of_nonneg hb.1).symm⟩
  unfold one? frm
  rw [hk, List.append_assoc, List.append_assoc, num_be4 p.length (by omega)]
  simp only
  rw [num_be4 k (by omega)]
  simp only
  rw [List.take_left' rfl, List.drop_left' rfl, if_pos ⟨hp, by simp, hk⟩]
theorem scans_frms {s : List UInt8} {m : List (List UInt8)} {n : Nat} (h : Scans s m n) : ∀ l : List (List UInt8), (∀ p ∈ l, p.length ≤ 1048576) → Scans (frms l ++ s) (l ++ m) ((frms l).length + n)
  | [], _ => by simpa [frms] using h
  | p :: l, hl => by
    have ih := scans_frms h l fun q hq => hl q (by simp [hq])
    have e : frms (p :: l) = frm p ++ frms l := by simp [frms]
    rw [e, List.append_assoc, List.length_append, frm_length, show 8 + p.length + (frms l).length + n = 8 + p.length + ((frms l).length + n) by omega]
    exact .more (one_frm p _ (hl p (by simp))) ih
theorem scans_nil : Scans [] [] 0 := .stop rfl
theorem one_cut (p : List UInt8) (k : Nat) (hp : p.length ≤ 1048576) (hk : k < (frm p).length) : one? ((frm p).take k) = none := by
  rw [frm_length] at hk
  unfold one?
  by_cases h4 : k < 4
  · have : num? ((frm p).take k) = none := by
      unfold num?
      rw [if_neg (by rw [List.length_take, frm_length]; omega)]
    rw [this]
  · have e : (frm p).take k = be4 p.length ++ (be4 (sumOf 0 p) ++ p).take (k - 4) := by
      unfold frm
      rw [List.append_assoc, List.take_append, List.take_of_length_le (by rw [be4_length]; omega), be4_length]
    rw [e, num_be4 p.length (by omega)]
    simp only
    by_cases h8 : k < 8
    · have : num? ((be4 (sumOf 0 p) ++ p).take (k - 4)) = none := by
        unfold num?
        rw [if_neg (by rw [List.length_take]; omega)]
      rw [this]
    · have e2 : (be4 (sumOf 0 p) ++ p).take (k - 4) = be4 (sumOf 0 p) ++ p.take (k - 4 - 4) := by
        rw [List.take_append, List.take_of_length_le (by rw [be4_length]; omega), be4_length]
      have hb := sumOf_bound 0 p
      obtain ⟨s, hs⟩ : ∃ s : Nat, sumOf 0 p = s := ⟨(sumOf 0 p).toNat, (Int.toNat_of_nonneg hb.1).symm⟩
      rw [e2, hs, num_be4 s (by omega)]
      simp only
      rw [if_neg]
      rintro ⟨_, h, _⟩
      rw [List.length_take] at h
      omega
theorem scans_cut (l : List (List UInt8)) (p q : List UInt8) (hl : ∀ x ∈ l, x.length ≤ 1048576) (hq : q = [] ∨ ∃ k, k < (frm p).length ∧ p.length ≤ 1048576 ∧ q = (frm p).take k) : Scans (frms l ++ q) l (frms l).length := by
  have h0 : Scans q [] 0 := by
    rcases hq with rfl | ⟨k, h1, h2, rfl⟩
    · exact scans_nil
    · exact .stop (one_cut p k h2 h1)
  have := scans_frms h0 l hl
  simpa using this
end Go.Proofs.YthcdkggkoanjpaaGreatDoor

/- Lists of lists of bytes. Numbers and types by name. -/
namespace Go.Proofs.YthcdkggkoanjpaaGreatDoor
open Go.RowKit Go.Lib
def Rws (w : World) (v : Value) (n : Nat) (ps : List (List UInt8)) : Prop :=
  n = ps.length ∧ n ≤ maxLen ∧ ∃ vs : List Value, Reads w v vs ∧ vs.length = n ∧ ∀ (j : Nat) (p : List UInt8), ps[j]? = some p → ∃ ao c, vs[j]? = some (Value.slice ao p.length c) ∧ Reads w (.slice ao p.length c) (bv p) ∧ p.length ≤ maxLen
theorem Rws.shape {w : World} {v : Value} {n : Nat} {ps : List (List UInt8)} (h : Rws w v n ps) : ∃ ao c, v = .slice ao n c := by
  obtain ⟨_, _, vs, ⟨ao, c, rfl, _⟩, hl, _⟩ := h
  exact ⟨ao, c, by rw [hl]⟩
theorem Rws.later {w w' : World} {v : Value} {n : Nat} {ps : List (List UInt8)} (h : Rws w v n ps) (hg : Grow w w') : Rws w' v n ps := by
  obtain ⟨h1, h2, vs, hr, hl, hp⟩ := h
  exact ⟨h1, h2, vs, hr.later hg, hl, fun j p hj => by obtain ⟨ao, c, e1, e2, e3⟩ := hp j p hj; exact ⟨ao, c, e1, e2.later hg, e3⟩⟩
theorem Rws.at {w : World} {ao : Option Addr} {n c : Nat} {ps : List (List UInt8)} (h : Rws w (.slice ao n c) n ps) {k : Nat} (hk : k < n) :
    ∃ a p ap cp, ao = some a ∧ ps[k]? = some p ∧ w.cell? (a.add k) = some (.slice ap p.length cp) ∧ Reads w (.slice ap p.length cp) (bv p) ∧ p.length ≤ maxLen := by
  obtain ⟨h1, h2, vs, ⟨ao', c', e, _, hn, hc⟩, hl, hp⟩ := h
  simp only [Value.slice.injEq] at e
  obtain ⟨rfl, _, _⟩ := e
  have hx : ps[k]? = some (ps[k]'(by omega)) := List.getElem?_eq_getElem (by omega)
  obtain ⟨ap, cp, e1, e2, e3⟩ := hp k _ hx
  cases ao with
  | none => have := (hn rfl).1; subst this; simp at hl; omega
  | some a => exact ⟨a, _, ap, cp, rfl, hx, hc a rfl k _ e1, e2, e3⟩
theorem take_more {α : Type} {L : List α} {k : Nat} {s : α} (h : L[k]? = some s) : L.take (k + 1) = L.take k ++ [s] := by rw [List.take_add_one, h]; rfl
end Go.Proofs.YthcdkggkoanjpaaGreatDoor

/- An own list of lists of bytes, and append to it. Numbers and types by name. -/
namespace Go.Proofs.YthcdkggkoanjpaaGreatDoor
open Go.RowKit Go.Lib
theorem info_row : (Tryz.prog.info? 24).map (fun i => (i.zero, i.size, i.bytes)) = some (some (.slice none 0 0), 1, 24) := by kernel_rfl
def Ows (w : World) (base : Nat) (v : Value) (n : Nat) (ps : List (List UInt8)) : Prop :=
  n = ps.length ∧ ∃ vs : List Value, w.ownsRow base 24 1 v n vs ∧ ∀ (j : Nat) (p : List UInt8), ps[j]? = some p → ∃ ao c, vs[j]? = some (Value.slice ao p.length c) ∧ Reads w (.slice ao p.length c) (bv p) ∧ p.length ≤ maxLen ∧ (∀ a, ao = some a → some a.block ≠ v.ownBlock ∧ a.block < w.heap.size)
theorem Ows.rows {w : World} {base : Nat} {v : Value} {n : Nat} {ps : List (List UInt8)} (h : Ows w base v n ps) (hn : n ≤ maxLen) : Rws w v n ps := by
  obtain ⟨h1, vs, h2, h3⟩ := h
  have hl : vs.length = n := by simpa using h2.1
  refine ⟨h1, hn, vs, Reads.own (by rw [hl]; exact h2), hl, fun j p hj => ?_⟩
  obtain ⟨ao, c, e1, e2, e3, _⟩ := h3 j p hj
  exact ⟨ao, c, e1, e2, e3⟩
theorem Ows.nil (w : World) (base : Nat) : Ows w base (.slice none 0 0) 0 [] := ⟨rfl, [], World.ownsRow_nil _ _ _ _, fun j p h => by cases h⟩
theorem Ows.later {w w' : World} {base : Nat} {v : Value} {n : Nat} {ps : List (List UInt8)} (h : Ows w base v n ps) (hg : Grow w w') : Ows w' base v n ps := by
  obtain ⟨h1, vs, h2, h3⟩ := h
  refine ⟨h1, vs, ⟨h2.1, h2.2.imp id ?_⟩, fun j p hj => ?_⟩
  · rintro ⟨g, cap, cur, e1, e2, e3, e4⟩
    refine ⟨g, cap, cur, e1, e2, ?_, e4⟩
    rw [hg.block g (by have := (h2.lt g (by rw [e1]; rfl)).2; omega)]
    exact e3
  · obtain ⟨ao, c, e1, e2, e3, e4⟩ := h3 j p hj
    exact ⟨ao, c, e1, e2.later hg, e3, fun a ha => ⟨(e4 a ha).1, Nat.lt_of_lt_of_le (e4 a ha).2 hg.size⟩⟩
theorem wpList_append_row {ops : Array Oper} {rest : List Oper} {o : Oper} {a : Act} {w : World} {Q : Exit → Act → World → Prop} (hgd : o.guard = none) (s x : Operand)
    (ho : o.op = .call { callee := .builtin .append, args := #[s, x], argTypes := #[131, 131] })
    (base : Nat) (v : Value) (n : Nat) (ps : List (List UInt8)) (hs : a.eval s = v) (hown : Ows w base v n ps) (ad : Addr) (p : List UInt8) (m : Nat) (ap : Option Addr) (cp : Nat) (hm : m = p.length) (hx : a.eval x = .slice (some ad) 1 1)
    (hc : w.cell? ad = some (.slice ap m cp)) (hr : Reads w (.slice ap m cp) (bv p)) (hap : ∀ a, ap = some a → some a.block ≠ v.ownBlock ∧ a.block < w.heap.size) (hpl : Hid (m ≤ maxLen))
    (q : Nat) (hq : q = n + 1) (h63 : Hid (q ≤ 1000000000)) (hbase : base ≤ w.heap.size)
    (h : ∀ ao c w', Ows w' base (.slice ao q c) q (ps ++ [p]) → Below base w w' → wpList Tryz.prog ops Q rest (a.put o.dst (.slice ao q c)) w') : wpList Tryz.prog ops Q (o :: rest) a w := by
  subst hm hq
  obtain ⟨hn, vs, h2, h3⟩ := hown
  obtain ⟨i0, hi, hz0, hz1, hz2⟩ := info_parts info_row
  have hvl : vs.length = n := by simpa using h2.1
  have hb := h63.out
  refine wpList_plain hgd fun K hK => ?_
  obtain ⟨v', w', hr', e2, e3, _, e5⟩ := run_append_own_at (P := Tryz.prog) w base 131 o.type 24 i0 (.slice none 0 0) 1 24 Tryz.underlying131 hi hz0 hz1 hz2 rfl (by decide) v n vs h2 ad 1 1 [.slice ap p.length cp] rfl
    (fun j u hj => by
      cases j with
      | zero => simp at hj; subst hj; simpa [Addr.add] using hc
      | succ j => simp at hj) (by intro u hu; simp at hu; subst hu; rfl) (by unfold maxLen; omega) (by omega) hbase
  obtain ⟨ao, c, rfl⟩ := owns_shape e2
  unfold Oper.wp execOp
  simp only [ho, resolve, invoke, builtin, Sem.run_bind, Sem.run_pure, Result.andThen_ok, List.map_toArray, List.map_cons, List.map_nil, hs, hx, hr']
  have keep : ∀ (bo : Option Addr) (k c' : Nat) (l : List UInt8), Reads w (.slice bo k c') (bv l) → (∀ a, bo = some a → some a.block ≠ v.ownBlock ∧ a.block < w.heap.size) →
      Reads w' (.slice bo k c') (bv l) ∧ ∀ a, bo = some a → some a.block ≠ (Value.slice ao (n + 1) c).ownBlock ∧ a.block < w'.heap.size := by
    intro bo k c' l hrd hbo
    refine ⟨hrd.grown e3 (fun a n c e => ?_), fun a ha => ⟨?_, Nat.lt_of_lt_of_le (hbo a ha).2 e3.size⟩⟩
    · simp only [Value.slice.injEq] at e
      exact (hbo a e.1).1
    · rcases e5 with e | e
      · rw [e]; exact (hbo a ha).1
      · rw [e]
        intro e6
        have := (hbo a ha).2
        simp only [Option.some.injEq] at e6
        omega
  refine hK _ _ (h ao c w' ⟨by rw [hn, List.length_append]; rfl, vs ++ [.slice ap p.length cp], e2, fun j q' hj => ?_⟩ (below_grown_own h2 e3 hbase))
  by_cases hjn : j < n
  · rw [List.getElem?_append_left (by omega)] at hj
    obtain ⟨bo, c', f1, f2, f3, f4⟩ := h3 j q' hj
    obtain ⟨g1, g2⟩ := keep bo _ c' q' f2 f4
    exact ⟨bo, c', by rw [List.getElem?_append_left (by omega)]; exact f1, g1, f3, g2⟩
  · have hjl := (List.getElem?_eq_some_iff.1 hj).1
    simp only [List.length_append, List.length_cons, List.length_nil] at hjl
    obtain rfl : j = n := by omega
    rw [List.getElem?_append_right (by omega)] at hj
    have h0 : j - ps.length = 0 := by omega
    rw [h0] at hj
    simp only [List.getElem?_cons_zero, Option.some.injEq] at hj
    subst hj
    obtain ⟨g1, g2⟩ := keep ap _ cp p hr hap
    refine ⟨ap, cp, ?_, g1, hpl.out, g2⟩
    rw [List.getElem?_append_right (by omega), hvl, Nat.sub_self]
    rfl
end Go.Proofs.YthcdkggkoanjpaaGreatDoor

/- The reference's Scan. Numbers and types by name. -/
namespace Go.Proofs.YthcdkggkoanjpaaGreatDoor
open Go.RowKit Go.Lib
theorem one_drop {b : List UInt8} {k : Nat} (h : k + 8 ≤ b.length) (q s : Nat) (hq : numOf ((b.drop k).take 4) = q) (hs : numOf ((b.drop (k + 4)).take 4) = s) :
    one? (b.drop k) = if q ≤ 1048576 ∧ q ≤ b.length - (k + 8) ∧ sumOf 0 ((b.drop (k + 8)).take q) = s then some ((b.drop (k + 8)).take q, b.drop (k + 8 + q)) else none := by
  have h1 := num_drop (l := b) (k := k) (by omega)
  have h2 := num_drop (l := b) (k := k + 4) (by omega)
  rw [hq, Int.toNat_natCast] at h1
  rw [hs, Int.toNat_natCast] at h2
  unfold one?
  rw [h1]
  simp only
  rw [h2]
  simp only [List.length_drop, List.drop_drop]
theorem one_short {b : List UInt8} {k : Nat} (h : ¬ k + 8 ≤ b.length) : one? (b.drop k) = none := by
  unfold one?
  by_cases h4 : k + 4 ≤ b.length
  · rw [num_drop h4]
    simp only
    rw [num_drop_no (by omega)]
  · rw [num_drop_no h4]
def ScanDone (b : List UInt8) (w : World) (e : Ending) (w' : World) : Prop :=
  Below w.heap.size w w' ∧ ∃ l n ao c, Scans b l n ∧ n ≤ b.length ∧ e = .returned (.tuple #[.slice ao l.length c, .int .i64 ((n : Nat) : Int)]) ∧ Ows w' w.heap.size (.slice ao l.length c) l.length l
def ScanAt (b : List UInt8) (w wr : World) (lv : Value) (k m : Nat) : Prop :=
  ∃ ao j c ps, lv = .slice ao j c ∧ Ows wr w.heap.size (.slice ao j c) j ps ∧ Below w.heap.size w wr ∧ k ≤ m ∧ 8 * j ≤ k ∧ ∀ l n, Scans (b.drop k) l n → Scans b (ps ++ l) (k + n)
theorem scan_stops {b : List UInt8} {w wr : World} {lv : Value} {k m : Nat} (h : ScanAt b w wr lv k m) (hm : m = b.length) (h0 : one? (b.drop k) = none) (w' : World) (hg : Grow wr w') : ScanDone b w (.returned (.tuple #[lv, .int .i64 (k : Int)])) w' := by
  obtain ⟨ao, j, c, ps, rfl, ho, hb, hk, _, hs⟩ := h
  have hj := ho.1
  subst hj
  have := hs [] 0 (.stop h0)
  rw [List.append_nil, Nat.add_zero] at this
  exact ⟨hb.trans (hg.mono hb.size), ps, k, ao, c, this, by omega, rfl, ho.later hg⟩
end Go.Proofs.YthcdkggkoanjpaaGreatDoor

namespace Go.Proofs.YthcdkggkoanjpaaGreatDoor
open Go.RowKit Go.Lib Go.Sort
def findP (L : List Prm) (k : ByteArray) : ByteArray × Bool := match L.find? (fun o => decide (o.key = k)) with
  | none => (⟨#[]⟩, false)
  | some o => (o.val, true)
end Go.Proofs.YthcdkggkoanjpaaGreatDoor
