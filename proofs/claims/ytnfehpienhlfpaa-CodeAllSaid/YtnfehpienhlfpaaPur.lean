/- Lists of texts as bytes, and back: plain facts. Numbers and types by name. -/
import Derived.Test.YtnfehpienhlfpaaNum
namespace Go.Proofs.Ytnfehpienhlfpaa
open Go.RowKit Go.Lib

def sv (L : List ByteArray) : List Value := L.map Value.string
theorem sv_length (L : List ByteArray) : (sv L).length = L.length := by simp [sv]
theorem sv_one (L : List ByteArray) : ∀ u ∈ sv L, u.oneCell' = true := by
  intro u hu; simp only [sv, List.mem_map] at hu; obtain ⟨b, _, rfl⟩ := hu; rfl

theorem numOf_be4 (n : Int) : numOf (be4 n) = n % 4294967296 := by
  simp only [numOf, be4, List.foldl_cons, List.foldl_nil, byteOf_int]
  omega

/-- The texts of a list, one behind the other. -/
def encs (L : List ByteArray) : List UInt8 := L.flatMap fun s => be4 s.size ++ s.data.toList
def enc (L : List ByteArray) : List UInt8 := be4 L.length ++ encs L
/-- How much a list is: a text more than its bytes. -/
def bulk (L : List ByteArray) : Nat := (L.map fun s => 1 + s.size).sum

theorem encs_cons (s : ByteArray) (L : List ByteArray) : encs (s :: L) = be4 s.size ++ s.data.toList ++ encs L := by simp [encs]
theorem encs_append (L M : List ByteArray) : encs (L ++ M) = encs L ++ encs M := by simp [encs]
theorem bulk_cons (s : ByteArray) (L : List ByteArray) : bulk (s :: L) = 1 + s.size + bulk L := by simp [bulk]
theorem bulk_append (L M : List ByteArray) : bulk (L ++ M) = bulk L + bulk M := by simp [bulk]
theorem bulk_length (L : List ByteArray) : L.length ≤ bulk L := by
  induction L with
  | nil => simp
  | cons s L ih => rw [bulk_cons, List.length_cons]; omega
theorem bulk_mem {L : List ByteArray} {s : ByteArray} (h : s ∈ L) : 1 + s.size ≤ bulk L := by
  induction L with
  | nil => cases h
  | cons t L ih =>
    rw [bulk_cons]
    rcases List.mem_cons.1 h with rfl | h
    · omega
    · have := ih h; omega
theorem size_data (s : ByteArray) : s.data.toList.length = s.size := rfl
theorem encs_length (L : List ByteArray) : (encs L).length + L.length = 4 * L.length + bulk L := by
  induction L with
  | nil => rfl
  | cons s L ih => rw [encs_cons, bulk_cons]; simp only [List.length_append, be4_length, size_data, List.length_cons]; omega
theorem enc_length (L : List ByteArray) : (enc L).length + L.length = 4 + 4 * L.length + bulk L := by
  have := encs_length L
  simp only [enc, List.length_append, be4_length]; omega

/-- A number off the bytes. -/
def num? (b : List UInt8) : Option (Nat × List UInt8) := if 4 ≤ b.length then some ((numOf (b.take 4)).toNat, b.drop 4) else none
/-- A text off the bytes. -/
def text? (b : List UInt8) : Option (List UInt8 × List UInt8) :=
  match num? b with
  | none => none
  | some (n, r) => if n ≤ r.length then some (r.take n, r.drop n) else none
/-- k texts off the bytes. -/
def texts? : Nat → List UInt8 → Option (List ByteArray × List UInt8)
  | 0, b => some ([], b)
  | k + 1, b => match text? b with
    | none => none
    | some (t, r) => match texts? k r with
      | none => none
      | some (L, q) => some (⟨t.toArray⟩ :: L, q)
/-- A list off the bytes. -/
def list? (b : List UInt8) : Option (List ByteArray × List UInt8) :=
  match num? b with
  | none => none
  | some (n, r) => texts? n r
/-- The list that all the bytes are. -/
def dec (b : List UInt8) : Option (List ByteArray) :=
  match list? b with
  | some (L, []) => some L
  | _ => none

theorem num_be4 (n : Nat) (hn : n < 4294967296) (s : List UInt8) : num? (be4 n ++ s) = some (n, s) := by
  have h1 : (be4 n ++ s).take 4 = be4 n := List.take_left' rfl
  have h2 : (be4 n ++ s).drop 4 = s := List.drop_left' rfl
  unfold num?
  rw [if_pos (by simp [be4_length]), h1, h2, numOf_be4]
  congr 2
  omega
theorem text_enc (t : ByteArray) (ht : t.size < 4294967296) (s : List UInt8) : text? (be4 t.size ++ t.data.toList ++ s) = some (t.data.toList, s) := by
  unfold text?
  rw [List.append_assoc, num_be4 _ ht]
  simp only
  rw [if_pos (by simp), List.take_left' (size_data t), List.drop_left' (size_data t)]
theorem texts_enc : ∀ (L : List ByteArray) (s : List UInt8), (∀ t ∈ L, t.size < 4294967296) → texts? L.length (encs L ++ s) = some (L, s)
  | [], s, _ => rfl
  | t :: L, s, h => by
    rw [List.length_cons, texts?, encs_cons, List.append_assoc, text_enc t (h t (by simp))]
    simp only
    rw [texts_enc L s fun u hu => h u (by simp [hu])]
theorem list_enc (L : List ByteArray) (s : List UInt8) (hl : L.length < 4294967296) (h : ∀ t ∈ L, t.size < 4294967296) : list? (enc L ++ s) = some (L, s) := by
  unfold list? enc
  rw [List.append_assoc, num_be4 _ hl]
  exact texts_enc L s h
theorem list_enc_bulk (L : List ByteArray) (s : List UInt8) (h : bulk L ≤ 100000) : list? (enc L ++ s) = some (L, s) :=
  list_enc L s (by have := bulk_length L; omega) fun t ht => by have := bulk_mem ht; omega
theorem dec_enc (L : List ByteArray) (h : bulk L ≤ 100000) : dec (enc L) = some L := by
  have := list_enc_bulk L [] h
  rw [List.append_nil] at this
  unfold dec
  rw [this]

theorem num_more {b r : List UInt8} {n : Nat} (s : List UInt8) (h : num? b = some (n, r)) : num? (b ++ s) = some (n, r ++ s) := by
  unfold num? at h ⊢
  split at h
  · next hl =>
    rw [if_pos (by simp; omega)]
    simp only [Option.some.injEq, Prod.mk.injEq] at h ⊢
    rw [List.take_append_of_le_length hl, List.drop_append_of_le_length hl]
    exact ⟨h.1, by rw [h.2]⟩
  · cases h
theorem text_more {b t r : List UInt8} (s : List UInt8) (h : text? b = some (t, r)) : text? (b ++ s) = some (t, r ++ s) := by
  unfold text? at h ⊢
  split at h
  · cases h
  · next n q hq =>
    rw [num_more s hq]
    simp only
    split at h
    · next hl =>
      simp only [Option.some.injEq, Prod.mk.injEq] at h
      rw [if_pos (by simp; omega), List.take_append_of_le_length hl, List.drop_append_of_le_length hl, h.1, h.2]
    · cases h
theorem texts_more : ∀ (k : Nat) {b q : List UInt8} {L : List ByteArray} (s : List UInt8), texts? k b = some (L, q) → texts? k (b ++ s) = some (L, q ++ s)
  | 0, b, q, L, s, h => by
    simp only [texts?, Option.some.injEq, Prod.mk.injEq] at h ⊢
    exact ⟨h.1, by rw [h.2]⟩
  | k + 1, b, q, L, s, h => by
    rw [texts?] at h ⊢
    split at h
    · cases h
    · next t r ht =>
      rw [text_more s ht]
      simp only
      split at h
      · cases h
      · next M q' hq =>
        rw [texts_more k s hq]
        simp only [Option.some.injEq, Prod.mk.injEq] at h ⊢
        exact ⟨h.1, by rw [h.2]⟩
theorem list_more {b q : List UInt8} {L : List ByteArray} (s : List UInt8) (h : list? b = some (L, q)) : list? (b ++ s) = some (L, q ++ s) := by
  unfold list? at h ⊢
  split at h
  · cases h
  · next n r hr =>
    rw [num_more s hr]
    exact texts_more n s h

theorem dec_some {b : List UInt8} {L : List ByteArray} (h : dec b = some L) : list? b = some (L, []) := by
  unfold dec at h
  split at h
  · next M hM => cases h; exact hM
  · cases h

/-- Cut anywhere it is none. -/
theorem dec_cut (L : List ByteArray) (h : bulk L ≤ 100000) (k : Nat) (hk : k < (enc L).length) : dec ((enc L).take k) = none := by
  cases hd : dec ((enc L).take k) with
  | none => rfl
  | some M =>
    have h1 := list_more ((enc L).drop k) (dec_some hd)
    rw [List.take_append_drop] at h1
    have h2 := list_enc_bulk L [] h
    rw [List.append_nil, h1] at h2
    simp only [Option.some.injEq, Prod.mk.injEq, List.nil_append] at h2
    have := congrArg List.length h2.2
    simp at this
    omega
/-- With a byte more it is none. -/
theorem dec_byte (L : List ByteArray) (h : bulk L ≤ 100000) (c : UInt8) : dec (enc L ++ [c]) = none := by
  unfold dec
  rw [list_enc_bulk L [c] h]
/-- One list's bytes begin another's only where the lists are one. -/
theorem enc_prefix (L M : List ByteArray) (h : bulk L ≤ 100000) (k : bulk M ≤ 100000) (s : List UInt8) (e : enc M = enc L ++ s) : L = M := by
  have h1 := list_enc_bulk M [] k
  rw [List.append_nil, e, list_enc_bulk L s h] at h1
  simp only [Option.some.injEq, Prod.mk.injEq] at h1
  exact h1.1

end Go.Proofs.Ytnfehpienhlfpaa
