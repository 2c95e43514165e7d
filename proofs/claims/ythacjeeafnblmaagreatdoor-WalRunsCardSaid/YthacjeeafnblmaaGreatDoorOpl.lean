/- Lists of ops: are they right, are they one? Numbers and types by name. -/
import Derived.Test.YthacjeeafnblmaaGreatDoorBe4
import Derived.Test.YthacjeeafnblmaaGreatDoorBit
import Derived.Test.YthacjeeafnblmaaGreatDoorBel
import Derived.Test.YthacjeeafnblmaaGreatDoorOo
/- Records with sums: plain facts. Numbers and types by name. -/
namespace Go.Proofs.YthacjeeafnblmaaGreatDoor
open Go.RowKit Go.Lib

def frm (p : List UInt8) : List UInt8 := be4 p.length ++ be4 (sumOf 0 p) ++ p
def frms (l : List (List UInt8)) : List UInt8 := l.flatMap frm

theorem frm_length (p : List UInt8) : (frm p).length = 8 + p.length := by simp [frm, be4_length]; omega

/-- A record off the bytes. -/
def one? (b : List UInt8) : Option (List UInt8 × List UInt8) :=
  match num? b with
  | none => none
  | some (n, r) => match num? r with
    | none => none
    | some (s, q) => if n ≤ 1048576 ∧ n ≤ q.length ∧ sumOf 0 (q.take n) = s then some (q.take n, q.drop n) else none

/-- The records at the beginning of b, and how many bytes they are. -/
inductive Scans : List UInt8 → List (List UInt8) → Nat → Prop
  | stop {b : List UInt8} : one? b = none → Scans b [] 0
  | more {b p r : List UInt8} {l : List (List UInt8)} {n : Nat} : one? b = some (p, r) → Scans r l n → Scans b (p :: l) (8 + p.length + n)

theorem scans_det {b : List UInt8} {l : List (List UInt8)} {n : Nat} (h : Scans b l n) : ∀ {l' : List (List UInt8)} {n' : Nat}, Scans b l' n' → l = l' ∧ n = n' := by
  induction h with
  | stop h0 =>
    intro l' n' h'
    cases h' with
    | stop _ => exact ⟨rfl, rfl⟩
    | more h1 _ => rw [h0] at h1; cases h1
  | more h0 _ ih =>
    intro l' n' h'
    cases h' with
    | stop h1 => rw [h0] at h1; cases h1
    | more h1 h2 =>
      rw [h0] at h1
      cases h1
      obtain ⟨rfl, rfl⟩ := ih h2
      exact ⟨rfl, rfl⟩

theorem one_frm (p s : List UInt8) (hp : p.length ≤ 1048576) : one? (frm p ++ s) = some (p, s) := by
  have hb := sumOf_bound 0 p
  obtain ⟨k, hk⟩ : ∃ k : Nat, sumOf 0 p = k := ⟨(sumOf 0 p).toNat, (Int.toNat_of_nonneg hb.1).symm⟩
  unfold one? frm
  rw [hk, List.append_assoc, List.append_assoc, num_be4 p.length (by omega)]
  simp only
  rw [num_be4 k (by omega)]
  simp only
  rw [List.take_left' rfl, List.drop_left' rfl, if_pos ⟨hp, by simp, hk⟩]

theorem scans_frms {s : List UInt8} {m : List (List UInt8)} {n : Nat} (h : Scans s m n) : ∀ l : List (List UInt8), (∀ p ∈ l, p.length ≤ 1048576) → Scans (frms l ++ s) (l ++ m) ((frms l).length + n)
  | [], _ => by simpa [frms] using h
  | p :: l, hl => by
    have ih := scans_frms h l fun q hq => hl q (by simp [hq])
    have e : frms (p :: l) = frm p ++ frms l := by simp [frms]
    rw [e, List.append_assoc, List.length_append, frm_length, show 8 + p.length + (frms l).length + n = 8 + p.length + ((frms l).length + n) by omega]
    exact .more (one_frm p _ (hl p (by simp))) ih

theorem scans_nil : Scans [] [] 0 := .stop rfl

/-- A record that is cut is none. -/
theorem one_cut (p : List UInt8) (k : Nat) (hp : p.length ≤ 1048576) (hk : k < (frm p).length) : one? ((frm p).take k) = none := by
  rw [frm_length] at hk
  unfold one?
  by_cases h4 : k < 4
  · have : num? ((frm p).take k) = none := by
      unfold num?
      rw [if_neg (by rw [List.length_take, frm_length]; omega)]
    rw [this]
  · have e : (frm p).take k = be4 p.length ++ (be4 (sumOf 0 p) ++ p).take (k - 4) := by
      unfold frm
      rw [List.append_assoc, List.take_append, List.take_of_length_le (by rw [be4_length]; omega), be4_length]
    rw [e, num_be4 p.length (by omega)]
    simp only
    by_cases h8 : k < 8
    · have : num? ((be4 (sumOf 0 p) ++ p).take (k - 4)) = none := by
        unfold num?
        rw [if_neg (by rw [List.length_take]; omega)]
      rw [this]
    · have e2 : (be4 (sumOf 0 p) ++ p).take (k - 4) = be4 (sumOf 0 p) ++ p.take (k - 4 - 4) := by
        rw [List.take_append, List.take_of_length_le (by rw [be4_length]; omega), be4_length]
      have hb := sumOf_bound 0 p
      obtain ⟨s, hs⟩ : ∃ s : Nat, sumOf 0 p = s := ⟨(sumOf 0 p).toNat, (Int.toNat_of_nonneg hb.1).symm⟩
      rw [e2, hs, num_be4 s (by omega)]
      simp only
      rw [if_neg]
      rintro ⟨_, h, _⟩
      rw [List.length_take] at h
      omega

/-- Records one behind the other, cut in the middle of one, or behind all. -/
theorem scans_cut (l : List (List UInt8)) (p q : List UInt8) (hl : ∀ x ∈ l, x.length ≤ 1048576) (hq : q = [] ∨ ∃ k, k < (frm p).length ∧ p.length ≤ 1048576 ∧ q = (frm p).take k) : Scans (frms l ++ q) l (frms l).length := by
  have h0 : Scans q [] 0 := by
    rcases hq with rfl | ⟨k, h1, h2, rfl⟩
    · exact scans_nil
    · exact .stop (one_cut p k h2 h1)
  have := scans_frms h0 l hl
  simpa using this

theorem bits_zero : bitsOf 0 = List.replicate 8 false := by decide
theorem flat_zeros : ∀ n : Nat, (List.replicate n (0 : UInt8)).flatMap bitsOf = List.replicate (8 * n) false
  | 0 => rfl
  | n + 1 => by rw [List.replicate_succ, List.flatMap_cons, flat_zeros n, bits_zero, List.replicate_append_replicate]; congr 1; omega

/-- One byte that is turned turns the sum. -/
theorem sum_byte (b : List UInt8) (j : Nat) (x y : UInt8) (hx : b[j]? = some x) (hy : y ≠ 0) : sumOf 0 (b.set j (x ^^^ y)) ≠ sumOf 0 b := by
  have hj : j < b.length := (List.getElem?_eq_some_iff.1 hx).1
  have he : b.set j (x ^^^ y) = List.zipWith (· ^^^ ·) b (List.replicate j 0 ++ [y] ++ List.replicate (b.length - j - 1) 0) := by
    apply List.ext_getElem?
    intro i
    rw [List.getElem?_set, List.getElem?_zipWith]
    by_cases h : j = i
    · subst h
      rw [if_pos rfl, if_pos hj, hx, List.getElem?_append_left (by simp), List.getElem?_append_right (by simp)]
      simp
    · rw [if_neg h]
      by_cases hi : i < j
      · rw [List.append_assoc, List.getElem?_append_left (by simp; omega), List.getElem?_replicate, if_pos hi, List.getElem?_eq_getElem (by omega)]
        simp
      · by_cases hb : i < b.length
        · rw [List.getElem?_append_right (by simp; omega), List.getElem?_replicate, if_pos (by simp; omega), List.getElem?_eq_getElem hb]
          simp
        · rw [List.getElem?_eq_none (by omega)]
  have hz : begun 0 ^^^ (0 : BitVec 32) = begun 0 := BitVec.xor_zero
  have hc := crc_xor b (List.replicate j 0 ++ [y] ++ List.replicate (b.length - j - 1) 0) (begun 0) 0 (by simp; omega)
  rw [← he, hz] at hc
  have hb : crc 0 (List.replicate j 0 ++ [y] ++ List.replicate (b.length - j - 1) 0) ≠ 0 := by
    rw [crc_bits, List.flatMap_append, List.flatMap_append, flat_zeros, flat_zeros]
    simp only [List.flatMap_cons, List.flatMap_nil, List.append_nil]
    refine burst _ _ _ (by rw [bitsOf_length]; omega) ?_
    rw [pack_bits]
    intro e
    exact hy (UInt8.toNat_inj.1 e)
  intro e
  apply hb
  unfold sumOf at e
  have e2 : crc (begun 0) (b.set j (x ^^^ y)) ^^^ ones = crc (begun 0) b ^^^ ones := BitVec.eq_of_toNat_eq (by omega)
  have e3 : crc (begun 0) (b.set j (x ^^^ y)) = crc (begun 0) b := by
    have := congrArg (· ^^^ ones) e2
    simpa [BitVec.xor_assoc] using this
  rw [e3] at hc
  have := congrArg (crc (begun 0) b ^^^ ·) hc
  simp only [BitVec.xor_self, ← BitVec.xor_assoc, BitVec.zero_xor] at this
  exact this.symm

theorem byteOf_eq {k : Int} {x : UInt8} (h : k % 256 = x.toNat) : byteOf k = x := by
  apply UInt8.toNat_inj.1
  have := byteOf_int k
  omega
theorem be4_numOf (x y z u : UInt8) : be4 (numOf [x, y, z, u]) = [x, y, z, u] := by
  have h1 := x.toNat_lt
  have h2 := y.toNat_lt
  have h3 := z.toNat_lt
  have h4 := u.toNat_lt
  unfold be4 numOf
  simp only [List.foldl_cons, List.foldl_nil]
  rw [byteOf_eq (x := x) (by omega), byteOf_eq (x := y) (by omega), byteOf_eq (x := z) (by omega), byteOf_eq (x := u) (by omega)]
theorem numOf_inj {l m : List UInt8} (hl : l.length = 4) (hm : m.length = 4) (h : numOf l = numOf m) : l = m := by
  match l, m, hl, hm with
  | [x, y, z, u], [x', y', z', u'], _, _ =>
    rw [← be4_numOf x y z u, ← be4_numOf x' y' z' u', h]

theorem num_any4 (l s : List UInt8) (h : l.length = 4) : num? (l ++ s) = some ((numOf l).toNat, s) := by
  unfold num?
  rw [if_pos (by simp; omega), List.take_left' h, List.drop_left' h]

theorem set_ne {l : List UInt8} {j : Nat} {x y : UInt8} (hx : l[j]? = some x) (hy : y ≠ 0) : l.set j (x ^^^ y) ≠ l := by
  intro e
  have := congrArg (·[j]?) e
  have hj : j < l.length := (List.getElem?_eq_some_iff.1 hx).1
  simp only [List.getElem?_set, if_pos hj, if_true, hx, Option.some.injEq] at this
  apply hy
  have h2 := congrArg (x ^^^ ·) this
  simpa [← UInt8.xor_assoc] using h2

/-- A record of which one byte behind its length is turned is none. -/
theorem one_turned (p : List UInt8) (j : Nat) (x y : UInt8) (s : List UInt8) (hp : p.length ≤ 1048576) (hx : (be4 (sumOf 0 p) ++ p)[j]? = some x) (hy : y ≠ 0) :
    one? (be4 p.length ++ (be4 (sumOf 0 p) ++ p).set j (x ^^^ y) ++ s) = none := by
  have hb := sumOf_bound 0 p
  unfold one?
  rw [List.append_assoc, num_be4 p.length (by omega)]
  simp only
  by_cases hj : j < 4
  · rw [List.set_append_left _ _ (by rw [be4_length]; exact hj), List.append_assoc, num_any4 _ _ (by rw [List.length_set, be4_length])]
    simp only
    rw [List.getElem?_append_left (by rw [be4_length]; exact hj)] at hx
    rw [if_neg]
    rintro ⟨_, _, h⟩
    rw [List.take_left' rfl] at h
    have hn := numOf_bound ((be4 (sumOf 0 p)).set j (x ^^^ y))
    rw [Int.toNat_of_nonneg hn.1] at h
    have h2 : numOf (be4 (sumOf 0 p)) = sumOf 0 p := by rw [numOf_be4]; omega
    exact set_ne hx hy (numOf_inj (by rw [List.length_set, be4_length]) (be4_length _) (by rw [← h, h2]))
  · rw [List.set_append_right _ _ (by rw [be4_length]; omega), be4_length]
    rw [List.getElem?_append_right (by rw [be4_length]; omega), be4_length] at hx
    obtain ⟨k, hk⟩ : ∃ k : Nat, sumOf 0 p = k := ⟨(sumOf 0 p).toNat, (Int.toNat_of_nonneg hb.1).symm⟩
    rw [hk, List.append_assoc, num_be4 k (by omega)]
    simp only
    rw [if_neg]
    rintro ⟨_, _, h⟩
    rw [List.take_left' (by rw [List.length_set])] at h
    exact sum_byte p (j - 4) x y hx hy (h.trans hk.symm)

end Go.Proofs.YthacjeeafnblmaaGreatDoor

/- Lists of lists of bytes. Numbers and types by name. -/
namespace Go.Proofs.YthacjeeafnblmaaGreatDoor
open Go.RowKit Go.Lib

/-- A list of lists of bytes can be read. -/
def Rws (w : World) (v : Value) (n : Nat) (ps : List (List UInt8)) : Prop :=
  n = ps.length ∧ n ≤ maxLen ∧ ∃ vs : List Value, Reads w v vs ∧ vs.length = n ∧ ∀ (j : Nat) (p : List UInt8), ps[j]? = some p → ∃ ao c, vs[j]? = some (Value.slice ao p.length c) ∧ Reads w (.slice ao p.length c) (bv p) ∧ p.length ≤ maxLen

theorem Rws.shape {w : World} {v : Value} {n : Nat} {ps : List (List UInt8)} (h : Rws w v n ps) : ∃ ao c, v = .slice ao n c := by
  obtain ⟨_, _, vs, ⟨ao, c, rfl, _⟩, hl, _⟩ := h
  exact ⟨ao, c, by rw [hl]⟩

theorem Rws.later {w w' : World} {v : Value} {n : Nat} {ps : List (List UInt8)} (h : Rws w v n ps) (hg : Grow w w') : Rws w' v n ps := by
  obtain ⟨h1, h2, vs, hr, hl, hp⟩ := h
  exact ⟨h1, h2, vs, hr.later hg, hl, fun j p hj => by obtain ⟨ao, c, e1, e2, e3⟩ := hp j p hj; exact ⟨ao, c, e1, e2.later hg, e3⟩⟩

theorem Rws.nil (w : World) : Rws w (.slice none 0 0) 0 [] := ⟨rfl, Nat.zero_le _, [], Reads.nil w, rfl, fun j p h => by cases h⟩

theorem Rws.at {w : World} {ao : Option Addr} {n c : Nat} {ps : List (List UInt8)} (h : Rws w (.slice ao n c) n ps) {k : Nat} (hk : k < n) :
    ∃ a p ap cp, ao = some a ∧ ps[k]? = some p ∧ w.cell? (a.add k) = some (.slice ap p.length cp) ∧ Reads w (.slice ap p.length cp) (bv p) ∧ p.length ≤ maxLen := by
  obtain ⟨h1, h2, vs, ⟨ao', c', e, _, hn, hc⟩, hl, hp⟩ := h
  simp only [Value.slice.injEq] at e
  obtain ⟨rfl, _, _⟩ := e
  have hx : ps[k]? = some (ps[k]'(by omega)) := List.getElem?_eq_getElem (by omega)
  obtain ⟨ap, cp, e1, e2, e3⟩ := hp k _ hx
  cases ao with
  | none => have := (hn rfl).1; subst this; simp at hl; omega
  | some a => exact ⟨a, _, ap, cp, rfl, hx, hc a rfl k _ e1, e2, e3⟩

def bulkR (ps : List (List UInt8)) : Nat := (ps.map fun p => 1 + p.length).sum

theorem bulkR_cons (p : List UInt8) (ps : List (List UInt8)) : bulkR (p :: ps) = 1 + p.length + bulkR ps := by simp [bulkR]

theorem bulkR_append (ps qs : List (List UInt8)) : bulkR (ps ++ qs) = bulkR ps + bulkR qs := by simp [bulkR]

theorem bulkR_length (ps : List (List UInt8)) : ps.length ≤ bulkR ps := by
  induction ps with
  | nil => simp
  | cons p ps ih => rw [bulkR_cons, List.length_cons]; omega

theorem bulkR_mem {ps : List (List UInt8)} {p : List UInt8} (h : p ∈ ps) : 1 + p.length ≤ bulkR ps := by
  induction ps with
  | nil => cases h
  | cons q ps ih =>
    rw [bulkR_cons]
    rcases List.mem_cons.1 h with rfl | h
    · omega
    · have := ih h; omega

theorem take_more {α : Type} {L : List α} {k : Nat} {s : α} (h : L[k]? = some s) : L.take (k + 1) = L.take k ++ [s] := by rw [List.take_add_one, h]; rfl

end Go.Proofs.YthacjeeafnblmaaGreatDoor

/- Lists of lists of bytes that came in. Numbers and types by name. -/
namespace Go.Proofs.YthacjeeafnblmaaGreatDoor
open Go.ChangeShapes Go.WideShapes Go.ChangeAt Go.RowKit Go.Lib Go.Deep

theorem cellsRowK : Tryz.prog.cellsOf 24 = 1 := by kernel_rfl

/-- A [][]byte that came in reads as lists of bytes. -/
theorem open_rows {H : Type} {enc : TypeId × Value → H} {W : World} {base : Nat} {spare : Nat → Bool} {held : Bool} {fuel : Nat} {a0 : Option Addr} {len cap : Nat} {x : DataW H × List MemPlace}
    (h : DataW.trod enc Tryz.prog W base spare held fuel 58 [.slice a0 len cap] = some x) : ∃ L : List (List UInt8), Rws W (.slice a0 len cap) len L := by
  rcases open_slice1 Tryz.underlying58 cellsRowK h with ⟨hcs, _⟩ | ⟨a, len', cap', m, n, V, D, Pl, hcs, _, hl, hm, hmm, _, hcell⟩
  · simp only [List.cons.injEq, Value.slice.injEq, and_true] at hcs
    obtain ⟨rfl, rfl, rfl⟩ := hcs
    exact ⟨[], Rws.nil W⟩
  · simp only [List.cons.injEq, Value.slice.injEq, and_true] at hcs
    obtain ⟨rfl, rfl, rfl⟩ := hcs
    have hlm : len ≤ m := by rw [hmm]; split <;> omega
    have each : ∀ i, i < len → ∃ y : Option Addr × Nat × List UInt8, V i = .slice y.1 y.2.2.length y.2.1 ∧ Reads W (.slice y.1 y.2.2.length y.2.1) (bv y.2.2) ∧ y.2.2.length ≤ maxLen := by
      intro i hi
      have h2 := (hcell i (by omega)).2
      obtain ⟨ai, li, ci, hv⟩ : ∃ ai li ci, V i = .slice ai li ci := by
        rcases open_ints Tryz.underlying24 Tryz.underlying5 cellsByteK h2 with ⟨e, _⟩ | ⟨b, l2, c2, zs, e, _⟩
        · exact ⟨none, 0, 0, by simpa using e⟩
        · exact ⟨some b, l2, c2, by simpa using e⟩
      rw [hv] at h2
      obtain ⟨A, rfl, hr, hz⟩ := open_bytes h2
      exact ⟨(ai, ci, A), hv, hr, hz⟩
    obtain ⟨y, hy⟩ := choose_lt each
    refine ⟨(List.range len).map fun i => (y i).2.2, by simp, Nat.le_trans hl hm, (List.range len).map V, ⟨some a, cap, by simp, by simpa using hl, (fun e => by cases e), fun a' ha j u hj => ?_⟩, by simp, fun j p hj => ?_⟩
    · cases ha
      have hj1 : j < len := by
        have := (List.getElem?_eq_some_iff.1 hj).1
        simpa using this
      rw [(hcell j (by omega)).1]
      simpa [hj1] using hj
    · have hj1 : j < len := by
        have := (List.getElem?_eq_some_iff.1 hj).1
        simpa using this
      have e : (y j).2.2 = p := by simpa [hj1] using hj
      obtain ⟨e1, e2, e3⟩ := hy j hj1
      rw [e] at e1 e2 e3
      exact ⟨(y j).1, (y j).2.1, by simp [hj1, e1], e2, e3⟩

end Go.Proofs.YthacjeeafnblmaaGreatDoor

namespace Go.Proofs.YthacjeeafnblmaaGreatDoor
open Go.RowKit Go.Lib

theorem right_ref (v : Value) (n : Nat) (L : List Opm) (w : World) (hr : Opr w v n L) :
    Calls Tryz.prog 24 #[v] w fun e w' => e = .returned (.bool (okOps L)) ∧ w' = w := by
  obtain ⟨ao, c, rfl⟩ := hr.shape
  have HR := Lib.hid hr
  have hm := hr.2.1
  unfold maxLen at hm
  clear hr
  go_enter Tryz.func24, Tryz.ntmps24
  go_wp2_with fail
  go_loopw [3] (fun i wr => ∃ k : Nat, k ≤ n ∧ i = .int .i64 k ∧ Hid ((L.take k).all okOp = true) ∧ w = wr)
    (fun i _ => n - (intOf i).toNat)
  case atStart => exact ⟨0, Nat.zero_le _, rfl, Lib.hid (by simp), rfl⟩
  case round =>
    obtain ⟨k, hk, rfl, hrel, rfl⟩ := hrel
    by_cases hlt : k < n
    · have h3 : (k : Int) < (n : Int) := by omega
      obtain ⟨a, o, rfl, ho, c0, c1, c2, s1, s2⟩ := HR.out.at hlt
      have HO := Lib.hid ho
      clear ho
      have step : (L.take (k + 1)).all okOp = okOp o := by rw [take_next HO.out, List.all_append, hrel.out]; simp
      cases hd : o.del with
      | false =>
        rw [hd] at c0
        have HS : Hid ((L.take (k + 1)).all okOp = true) := Lib.hid (by rw [step]; simp [okOp, hd])
        clear step hd
        go_wp2_with fail
        exact ⟨⟨k + 1, by omega, by simp, HS, trivial⟩, by simp [intOf]; omega⟩
      | true =>
        rw [hd] at c0
        cases hv : o.val.toList.isEmpty with
        | true =>
          have HS : Hid ((L.take (k + 1)).all okOp = true) := Lib.hid (by rw [step]; simp [okOp, hv])
          clear step hd
          go_wp2_with fail
          exact ⟨⟨k + 1, by omega, by simp, HS, trivial⟩, by simp [intOf]; omega⟩
        | false =>
          have HS : Hid (okOps L = false) := Lib.hid (by
            have e : L = L.take (k + 1) ++ L.drop (k + 1) := (List.take_append_drop _ _).symm
            have e2 : L.all okOp = false := by
              rw [e, List.all_append, step]
              simp [okOp, hv, hd]
            simp [okOps, e2])
          clear step hd
          go_wp2_with fail
          go_ret
          rw [HS.out]
          exact ⟨rfl, rfl⟩
    · have h3 : ¬ (k : Int) < (n : Int) := by omega
      obtain rfl : k = n := by omega
      have hk2 : L.take k = L := List.take_of_length_le (by have := HR.out.1; omega)
      have e : okOps L = decide ((k : Int) ≤ 1000) := by
        have h1 := hrel.out
        have h2 := HR.out.1
        rw [hk2] at h1
        unfold okOps
        rw [h1, Bool.true_and]
        congr 1
        simp only [eq_iff_iff]
        omega
      have HE := Lib.hid e
      clear hk2 e
      go_wp2_with fail
      go_ret
      rw [HE.out]
      exact ⟨rfl, rfl⟩

/-- What SameOps tells. -/
def SameO (ps qs : List Opm) (w : World) (e : Ending) (w' : World) : Prop := ∃ b k, e = .returned (.bool b) ∧ w' = w.drewN k ∧ (b = true ↔ ps = qs)

theorem same_ops (v1 v2 : Value) (n m : Nat) (ps qs : List Opm) (w : World) (h1 : Opr w v1 n ps) (h2 : Opr w v2 m qs) :
    Calls Tryz.prog 40 #[v1, v2] w (SameO ps qs w) := by
  obtain ⟨a1, c1, rfl⟩ := h1.shape
  obtain ⟨a2, c2, rfl⟩ := h2.shape
  have H1 := Lib.hid h1
  have H2 := Lib.hid h2
  have hm := h1.2.1
  unfold maxLen at hm
  clear h1 h2
  by_cases hne : n = m
  · subst hne
    go_enter Tryz.func40, Tryz.ntmps40
    go_wp2_with fail
    go_loopw [5] (fun i wr => ∃ k q : Nat, k ≤ n ∧ i = .int .i64 k ∧ wr = w.drewN q ∧ Hid (ps.take k = qs.take k))
      (fun i _ => n - (intOf i).toNat)
    case atStart => exact ⟨0, 0, Nat.zero_le _, rfl, rfl, Lib.hid rfl⟩
    case round =>
      obtain ⟨k, q, hk, rfl, hw, hs⟩ := hrel
      by_cases h1 : k < n
      · have h3 : (k : Int) < (n : Int) := by omega
        have R1 : Opr wr (.slice a1 n c1) n ps := by rw [hw]; exact H1.out
        have R2 : Opr wr (.slice a2 n c2) n qs := by rw [hw]; exact H2.out
        obtain ⟨x1, o1, rfl, e1, ca0, ca1, ca2, _, _⟩ := R1.at h1
        obtain ⟨x2, o2, rfl, e2, cb0, cb1, cb2, _, _⟩ := R2.at h1
        have HW := Lib.hid (And.intro hw (And.intro e1 e2))
        clear hw e1 e2 R1 R2
        obtain ⟨d1, k1, v1⟩ := o1
        obtain ⟨d2, k2, v2⟩ := o2
        simp only at ca0 ca1 ca2 cb0 cb1 cb2
        by_cases heq : d1 = d2 ∧ k1.toList = k2.toList ∧ v1.toList = v2.toList
        · obtain ⟨rfl, hk2, hv2⟩ := heq
          obtain rfl := text_inj' hk2
          obtain rfl := text_inj' hv2
          have HN : Hid (ps.take (k + 1) = qs.take (k + 1)) := Lib.hid (by rw [take_next HW.out.2.1, take_next HW.out.2.2, hs.out])
          clear hk2 hv2
          go_wp2_with fail
          go_quiet (fail)
          go_wp2
          exact ⟨⟨k + 1, q + nq, by omega, by simp, by rw [HW.out.1, World.drewN_drewN], HN⟩, by simp [intOf]; omega⟩
        · have HN : Hid (ps ≠ qs) := Lib.hid (by
            rintro rfl
            have e := HW.out.2.1.symm.trans HW.out.2.2
            simp only [Option.some.injEq, Opm.mk.injEq] at e
            exact heq ⟨e.1, by rw [e.2.1], by rw [e.2.2]⟩)
          have hcase : (¬ d1 = d2) ∨ (d1 = d2 ∧ ¬ k1.toList = k2.toList) ∨ (d1 = d2 ∧ k1.toList = k2.toList ∧ ¬ v1.toList = v2.toList) := by
            by_cases x1 : d1 = d2
            · by_cases x2 : k1.toList = k2.toList
              · exact .inr (.inr ⟨x1, x2, fun x3 => heq ⟨x1, x2, x3⟩⟩)
              · exact .inr (.inl ⟨x1, x2⟩)
            · exact .inl x1
          clear heq
          rcases hcase with x1 | ⟨rfl, x2⟩ | ⟨rfl, x2, x3⟩
          · go_wp2_with fail
            go_quiet (fail)
            go_wp2
            go_ret
            exact ⟨false, q + nq, rfl, by rw [HW.out.1, World.drewN_drewN], ⟨(fun h => by cases h), fun h => absurd h HN.out⟩⟩
          · go_wp2_with fail
            go_quiet (fail)
            go_wp2
            go_ret
            exact ⟨false, q + nq, rfl, by rw [HW.out.1, World.drewN_drewN], ⟨(fun h => by cases h), fun h => absurd h HN.out⟩⟩
          · go_wp2_with fail
            go_quiet (fail)
            go_wp2
            go_ret
            exact ⟨false, q + nq, rfl, by rw [HW.out.1, World.drewN_drewN], ⟨(fun h => by cases h), fun h => absurd h HN.out⟩⟩
      · have h3 : ¬ (k : Int) < (n : Int) := by omega
        obtain rfl : k = n := by omega
        have HW := Lib.hid hw
        clear hw
        go_wp2_with fail
        go_ret
        refine ⟨true, q, rfl, HW.out, ?_⟩
        have h5 := hs.out
        rw [List.take_of_length_le (by have := H1.out.1; omega), List.take_of_length_le (by have := H2.out.1; omega)] at h5
        simp [h5]
  · have h3 : ¬ (n : Int) = (m : Int) := by omega
    have h4 : ((n : Int) != (m : Int)) = true := by simpa using h3
    go_enter Tryz.func40, Tryz.ntmps40
    go_wp2_with fail
    go_ret
    refine ⟨false, 0, rfl, rfl, ?_⟩
    constructor
    · intro h; cases h
    · intro h; exact absurd (by have := H1.out.1; have := H2.out.1; rw [h] at *; omega) hne

end Go.Proofs.YthacjeeafnblmaaGreatDoor
