/- A number as four bytes, and back: plain facts. Numbers and types by name. -/
import Derived.Test.YtlgfijjkbomejaaGreatDoorLxp
import Derived.Test.YtlgfijjkbomejaaGreatDoorBas
/- Two texts with a line's end between; what lies between tokens. Plain facts. Numbers and types by name. -/
namespace Go.Proofs.YtlgfijjkbomejaaGreatDoor
open Go.RowKit Go.Lib

theorem runL_join {p : UInt8 → Bool} (h : p 10 = false) (r b : List UInt8) : runL p (r ++ 10 :: b) = runL p r := by
  unfold runL
  induction r with
  | nil => simp [h]
  | cons c r ih =>
    rw [List.cons_append, List.takeWhile_cons, List.takeWhile_cons]
    split
    · simp only [List.length_cons, ih]
    · rfl
theorem signL_join (c : UInt8) (r b : List UInt8) : signL (c :: (r ++ 10 :: b)) = signL (c :: r) := by
  cases r with
  | nil =>
    show (if twoL c 10 = true then 2 else if oneL c = true then 1 else 0) = if oneL c = true then 1 else 0
    rw [if_neg]
    unfold twoL
    simp
  | cons d r => rfl
theorem afterL_join (r b : List UInt8) : afterL (r ++ 10 :: b) = afterL r := by
  cases r with
  | nil => rfl
  | cons d r => rfl
theorem stepL_join (c : UInt8) (r b : List UInt8) : stepL (c :: (r ++ 10 :: b)) = stepL (c :: r) := by
  show stepC c (r ++ 10 :: b) = stepC c r
  have h2 := runL_le isWrd r
  have h3 := runL_le isDig r
  have ht : ∀ k, k ≤ r.length → (c :: (r ++ 10 :: b)).take (1 + k) = (c :: r).take (1 + k) := fun k hk => by
    rw [Nat.add_comm, List.take_succ_cons, List.take_succ_cons, List.take_append_of_le_length hk]
  unfold stepC
  rw [runL_join (p := fun x => x != 10) rfl, runL_join (p := isWrd) rfl, runL_join (p := isDig) rfl, signL_join, ht _ h2, List.drop_append_of_le_length h3, afterL_join]
theorem stepL_bad {c : UInt8} {r : List UInt8} {e : Int} (h : stepL (c :: r) = .bad e) : e = 9 ∨ e = 10 := by
  change stepC c r = .bad e at h
  unfold stepC at h
  split at h
  · cases h
  split at h
  · cases h
  split at h
  · split at h
    · cases h; exact .inl rfl
    · cases h
  split at h
  · split at h
    · cases h; exact .inl rfl
    split at h
    · cases h; exact .inr rfl
    · cases h
  split at h
  · cases h; exact .inr rfl
  · cases h
theorem stepL_kind {c : UInt8} {r : List UInt8} {k : Int} {n : Nat} (h : stepL (c :: r) = .tok k n) : isSpc c = false ∧ c ≠ 35 := by
  change stepC c r = .tok k n at h
  unfold stepC at h
  split at h
  · cases h
  rename_i h1
  split at h
  · cases h
  rename_i h2
  exact ⟨by simpa using h1, h2⟩

/-- Where there is no error there is a last token; where there is one there are none. -/
theorem lexA_l : ∀ (k i : Nat) (r : List UInt8), r.length ≤ k → ((lexA i r).e = 0 → (lexA i r).l ≠ [] ∧ (lexA i r).pos = 0) ∧ ((lexA i r).e ≠ 0 → (lexA i r).l = [])
  | _, i, [], _ => by rw [lexA_nil]; simp
  | 0, _, c :: r, h => by simp at h
  | k + 1, i, c :: r, h => by
    simp only [List.length_cons] at h
    cases hs : stepL (c :: r) with
    | skip n =>
      rw [lexA_skip hs]
      have := (stepL_n (c := c) (r := r)).1 n hs
      exact lexA_l k _ _ (by simp only [List.length_drop, List.length_cons]; omega)
    | tok j n =>
      rw [lexA_tok hs]
      have := (stepL_n (c := c) (r := r)).2 j n hs
      have ih := lexA_l k (i + n) ((c :: r).drop n) (by simp only [List.length_drop, List.length_cons]; omega)
      unfold consL
      simp only
      refine ⟨fun h0 => ?_, fun h0 => ?_⟩
      · rw [if_pos h0]
        exact ⟨by simp, (ih.1 h0).2⟩
      · rw [if_neg h0]
        exact ih.2 h0
    | bad e =>
      rw [lexA_bad hs]
      rcases stepL_bad hs with rfl | rfl <;> simp
def appL (acc : List Tk) (R : LexR) : LexR := ⟨if R.e = 0 then acc ++ R.l else R.l, R.e, R.pos⟩
theorem appL_nil (R : LexR) : appL [] R = R := by
  unfold appL
  simp
theorem appL_cons (t : Tk) (acc : List Tk) (R : LexR) : appL (acc ++ [t]) R = appL acc (consL t R) := by
  unfold appL consL
  split <;> simp
theorem consL_appL (t : Tk) (acc : List Tk) (R : LexR) : consL t (appL acc R) = appL (t :: acc) R := by
  unfold appL consL
  split <;> simp
/-- Of two texts with a line's end between. -/
theorem lexA_join (b : List UInt8) : ∀ (k i : Nat) (a : List UInt8), a.length ≤ k → (lexA i a).e = 0 → lexA i (a ++ 10 :: b) = appL (lexA i a).l.dropLast (lexA (i + a.length + 1) b)
  | _, i, [], _, _ => by
    rw [lexA_nil, List.nil_append, lexA_skip (n := 1) rfl]
    exact (appL_nil _).symm
  | 0, _, c :: r, h, _ => by simp at h
  | k + 1, i, c :: r, h, h0 => by
    simp only [List.length_cons] at h
    have hj := stepL_join c r b
    have hd : ∀ n, n ≤ r.length + 1 → (c :: (r ++ 10 :: b)).drop n = (c :: r).drop n ++ 10 :: b := fun n hn => by
      rw [← List.cons_append, List.drop_append_of_le_length (by simpa using hn)]
    cases hs : stepL (c :: r) with
    | skip n =>
      have hn := (stepL_n (c := c) (r := r)).1 n hs
      rw [lexA_skip hs] at h0 ⊢
      rw [List.cons_append, lexA_skip (hj.trans hs), hd n hn.2, lexA_join b k (i + n) _ (by simp only [List.length_drop, List.length_cons]; omega) h0]
      congr 2
      simp only [List.length_drop, List.length_cons]
      omega
    | tok j n =>
      have hn := (stepL_n (c := c) (r := r)).2 j n hs
      rw [lexA_tok hs] at h0 ⊢
      have h0' : (lexA (i + n) ((c :: r).drop n)).e = 0 := h0
      have ht : (c :: (r ++ 10 :: b)).take n = (c :: r).take n := by
        rw [← List.cons_append, List.take_append_of_le_length (by simpa using hn.2)]
      rw [List.cons_append, lexA_tok (hj.trans hs), hd n hn.2, ht, lexA_join b k (i + n) _ (by simp only [List.length_drop, List.length_cons]; omega) h0', consL_appL]
      have hl := ((lexA_l _ (i + n) ((c :: r).drop n) (Nat.le_refl _)).1 h0').1
      have e1 : (consL ⟨j, (c :: r).take n, i⟩ (lexA (i + n) ((c :: r).drop n))).l.dropLast = ⟨j, (c :: r).take n, i⟩ :: (lexA (i + n) ((c :: r).drop n)).l.dropLast := by
        unfold consL
        simp only
        rw [if_pos h0']
        cases hx : (lexA (i + n) ((c :: r).drop n)).l with
        | nil => exact absurd hx hl
        | cons x l => rfl
      rw [e1]
      congr 2
      simp only [List.length_drop, List.length_cons]
      omega
    | bad e =>
      rw [lexA_bad hs] at h0
      have h0' : e = 0 := h0
      rcases stepL_bad hs with rfl | rfl <;> cases h0'
def shiftT (n : Nat) (t : Tk) : Tk := ⟨t.kind, t.text, t.pos + n⟩
/-- The same, further on. -/
theorem lexA_shift (m : Nat) : ∀ (k i : Nat) (r : List UInt8), r.length ≤ k → (lexA (i + m) r).l = (lexA i r).l.map (shiftT m) ∧ (lexA (i + m) r).e = (lexA i r).e
  | _, i, [], _ => by rw [lexA_nil, lexA_nil]; exact ⟨rfl, rfl⟩
  | 0, _, c :: r, h => by simp at h
  | k + 1, i, c :: r, h => by
    simp only [List.length_cons] at h
    cases hs : stepL (c :: r) with
    | skip n =>
      have hn := (stepL_n (c := c) (r := r)).1 n hs
      rw [lexA_skip hs, lexA_skip hs, show i + m + n = i + n + m by omega]
      exact lexA_shift m k _ _ (by simp only [List.length_drop, List.length_cons]; omega)
    | tok j n =>
      have hn := (stepL_n (c := c) (r := r)).2 j n hs
      rw [lexA_tok hs, lexA_tok hs, show i + m + n = i + n + m by omega]
      obtain ⟨h1, h2⟩ := lexA_shift m k (i + n) ((c :: r).drop n) (by simp only [List.length_drop, List.length_cons]; omega)
      unfold consL
      simp only
      rw [h1, h2]
      refine ⟨?_, rfl⟩
      split <;> simp [shiftT]
    | bad e =>
      rw [lexA_bad hs, lexA_bad hs]
      exact ⟨rfl, rfl⟩

end Go.Proofs.YtlgfijjkbomejaaGreatDoor

/- What lies between the tokens of a text. Plain facts. Numbers and types by name. -/
namespace Go.Proofs.YtlgfijjkbomejaaGreatDoor
open Go.RowKit Go.Lib

/-- Within a remark, behind some bytes. -/
def remF (m : Bool) (b : List UInt8) : Bool := b.foldl (fun m c => (m && c != 10) || c == 35) m
theorem remF_append (m : Bool) (a b : List UInt8) : remF m (a ++ b) = remF (remF m a) b := List.foldl_append
theorem remF_snoc (m : Bool) (a : List UInt8) (c : UInt8) : remF m (a ++ [c]) = ((remF m a && c != 10) || c == 35) := by
  rw [remF_append]
  rfl
/-- The first token of a rest. -/
structure HeadOk (i : Nat) (r : List UInt8) (m : Bool) (t : Tk) (l' : List Tk) : Prop where
  lo : i ≤ t.pos
  hi : t.pos + t.text.length ≤ i + r.length
  txt : (r.drop (t.pos - i)).take t.text.length = t.text
  last : t.text = [] ↔ l' = []
  fin : l' = [] → t.pos = i + r.length
  next : l' ≠ [] → (lexA (t.pos + t.text.length) (r.drop (t.pos + t.text.length - i))).e = 0 ∧ l' = (lexA (t.pos + t.text.length) (r.drop (t.pos + t.text.length - i))).l
  gap : ∀ g c, g < t.pos - i → r[g]? = some c → remF m (r.take (g + 1)) = true ∨ isSpc c = true

theorem runL_take (p : UInt8 → Bool) (r : List UInt8) : (∀ c ∈ r.take (runL p r), p c = true) ∧ (r.drop (runL p r) = [] ∨ ∃ c l, r.drop (runL p r) = c :: l ∧ p c = false) := by
  unfold runL
  induction r with
  | nil => simp
  | cons c r ih =>
    rw [List.takeWhile_cons]
    split
    · rename_i h
      simp only [List.length_cons, List.take_succ_cons, List.drop_succ_cons]
      refine ⟨fun x hx => ?_, ih.2⟩
      rcases List.mem_cons.1 hx with rfl | hx
      · exact h
      · exact ih.1 x hx
    · rename_i h
      simp only [List.length_nil, List.take_zero, List.drop_zero]
      exact ⟨fun x hx => (by cases hx), .inr ⟨c, r, rfl, by simpa using h⟩⟩
theorem remF_true (b : List UInt8) (h : ∀ c ∈ b, (c != 10) = true) : remF true b = true := by
  induction b with
  | nil => rfl
  | cons c b ih =>
    show remF ((true && c != 10) || c == 35) b = true
    rw [h c (by simp)]
    exact ih fun x hx => h x (by simp [hx])
/-- What is skipped: a blank, or a remark up to its line's end. -/
theorem skip_what {c : UInt8} {r : List UInt8} {n : Nat} (h : stepL (c :: r) = .skip n) : (isSpc c = true ∧ n = 1) ∨ (c = 35 ∧ isSpc c = false ∧ n = 1 + runL (fun x => x != 10) r) := by
  change stepC c r = .skip n at h
  unfold stepC at h
  split at h
  · rename_i h1
    cases h
    exact .inl ⟨h1, rfl⟩
  rename_i h1
  split at h
  · rename_i h2
    cases h
    exact .inr ⟨h2, by simpa using h1, rfl⟩
  split at h
  · split at h <;> cases h
  split at h
  · split at h
    · cases h
    split at h <;> cases h
  split at h <;> cases h
theorem head_ok : ∀ (k i : Nat) (r : List UInt8) (m : Bool), r.length ≤ k → (m = true → r = [] ∨ ∃ l, r = 10 :: l) → (lexA i r).e = 0 → ∃ t l', (lexA i r).l = t :: l' ∧ HeadOk i r m t l'
  | _, i, [], m, _, _, _ => by
    refine ⟨⟨0, [], i⟩, [], rfl, Nat.le_refl _, by simp, by simp, by simp, fun _ => by simp, fun h => absurd rfl h, fun g c hg => ?_⟩
    simp only at hg
    omega
  | 0, _, c :: r, _, h, _, _ => by simp at h
  | k + 1, i, c :: r, m, h, hm, h0 => by
    simp only [List.length_cons] at h
    cases hs : stepL (c :: r) with
    | skip n =>
      have hn := (stepL_n (c := c) (r := r)).1 n hs
      rw [lexA_skip hs] at h0 ⊢
      have hm' : remF m ((c :: r).take n) = true → (c :: r).drop n = [] ∨ ∃ l, (c :: r).drop n = 10 :: l := by
        rcases skip_what hs with ⟨h1, rfl⟩ | ⟨rfl, h1, rfl⟩
        · intro hr
          exfalso
          have hr' : ((m && c != 10) || c == 35) = true := hr
          have h35 : (c == 35) = false := by
            cases hc : c == 35 with
            | false => rfl
            | true =>
              rw [eq_of_beq hc] at h1
              exact absurd h1 (by decide)
          rw [h35, Bool.or_false, Bool.and_eq_true] at hr'
          rcases hm hr'.1 with h2 | ⟨l, h2⟩
          · cases h2
          · rw [(List.cons.inj h2).1] at hr'
            exact absurd hr'.2 (by decide)
        · intro _
          rw [Nat.add_comm, List.drop_succ_cons]
          rcases (runL_take (fun x => x != 10) r).2 with h2 | ⟨c, l, h2, h3⟩
          · exact .inl h2
          · have : c = 10 := by simpa using h3
            rw [this] at h2
            exact .inr ⟨l, h2⟩
      obtain ⟨t, l', e1, ok⟩ := head_ok k (i + n) ((c :: r).drop n) (remF m ((c :: r).take n)) (by simp only [List.length_drop, List.length_cons]; omega) hm' h0
      have lo := ok.lo
      have hi := ok.hi
      have hlen : ((c :: r).drop n).length = r.length + 1 - n := by simp
      refine ⟨t, l', e1, by omega, by simp only [List.length_cons]; omega, ?_, ok.last, fun hl => ?_, fun hl => ?_, fun g d hg hd => ?_⟩
      · have := ok.txt
        rw [List.drop_drop, show n + (t.pos - (i + n)) = t.pos - i by omega] at this
        exact this
      · have := ok.fin hl
        simp only [List.length_cons]
        omega
      · have := ok.next hl
        rw [List.drop_drop, show n + (t.pos + t.text.length - (i + n)) = t.pos + t.text.length - i by omega] at this
        exact this
      · by_cases hgn : g < n
        · rcases skip_what hs with ⟨h1, rfl⟩ | ⟨rfl, h1, rfl⟩
          · obtain rfl : g = 0 := by omega
            simp only [List.getElem?_cons_zero, Option.some.injEq] at hd
            rw [← hd]
            exact .inr h1
          · left
            rw [List.take_succ_cons]
            show remF ((m && (35 : UInt8) != 10) || (35 : UInt8) == 35) (r.take g) = true
            rw [show ((35 : UInt8) == 35) = true from rfl, Bool.or_true]
            refine remF_true _ fun x hx => (runL_take (fun x => x != 10) r).1 x ?_
            exact List.take_subset_take_left r (by omega) hx
        · have h2 : ((c :: r).drop n)[g - n]? = some d := by
            rw [List.getElem?_drop, show n + (g - n) = g by omega]
            exact hd
          have h3 := ok.gap (g - n) d (by omega) h2
          rw [← remF_append] at h3
          rw [show g + 1 = n + (g - n + 1) by omega, List.take_add]
          exact h3
    | tok j n =>
      have hn := (stepL_n (c := c) (r := r)).2 j n hs
      rw [lexA_tok hs] at h0 ⊢
      have h0' : (lexA (i + n) ((c :: r).drop n)).e = 0 := h0
      have hl := ((lexA_l _ (i + n) ((c :: r).drop n) (Nat.le_refl _)).1 h0').1
      have htl : ((c :: r).take n).length = n := by
        rw [List.length_take, List.length_cons]
        omega
      refine ⟨⟨j, (c :: r).take n, i⟩, (lexA (i + n) ((c :: r).drop n)).l, ?_, Nat.le_refl _, ?_, ?_, ?_, fun h => absurd h hl, fun _ => ?_, fun g c hg => ?_⟩
      · unfold consL
        simp only
        rw [if_pos h0']
      · simp only [htl, List.length_cons]
        omega
      · simp only [htl, Nat.sub_self, List.drop_zero]
      · refine ⟨fun h => ?_, fun h => absurd h hl⟩
        simp only at h
        rw [h] at htl
        simp only [List.length_nil] at htl
        omega
      · simp only [htl, show i + n - i = n by omega]
        exact ⟨h0', trivial⟩
      · simp only at hg
        omega
    | bad e =>
      rw [lexA_bad hs] at h0
      have h0' : e = 0 := h0
      rcases stepL_bad hs with rfl | rfl <;> cases h0'

end Go.Proofs.YtlgfijjkbomejaaGreatDoor

namespace Go.Proofs.YtlgfijjkbomejaaGreatDoor
open Go.RowKit Go.Lib

def byteOf (k : Int) : UInt8 := UInt8.ofNat (k % 256).toNat
/-- A number's four bytes. -/
def be4 (n : Int) : List UInt8 := [byteOf (n / 16777216), byteOf (n / 65536), byteOf (n / 256), byteOf n]

theorem byteOf_int (k : Int) : ((byteOf k).toNat : Int) = k % 256 := by
  have h1 : (k % 256).toNat % 2 ^ 8 = (k % 256).toNat := Nat.mod_eq_of_lt (by have := Int.emod_lt_of_pos k (b := 256) (by decide); have := Int.emod_nonneg k (b := 256) (by decide); omega)
  have h2 : (byteOf k).toNat = (k % 256).toNat := by show (UInt8.ofNat _).toNat = _; rw [UInt8.toNat_ofNat']; exact h1
  rw [h2]
  exact Int.toNat_of_nonneg (Int.emod_nonneg k (by decide))

theorem bv_be4 (n : Int) : bv (be4 n) = [.int .u8 (n / 16777216 % 256), .int .u8 (n / 65536 % 256), .int .u8 (n / 256 % 256), .int .u8 (n % 256)] := by
  simp [bv, be4, byteOf_int]

theorem be4_length (n : Int) : (be4 n).length = 4 := rfl

/-- The number that four bytes are. -/
def numOf (l : List UInt8) : Int := l.foldl (fun n b => n * 256 + b.toNat) 0

theorem numOf_snoc (l : List UInt8) (x : UInt8) : numOf (l ++ [x]) = numOf l * 256 + x.toNat := by simp [numOf, List.foldl_append]

theorem numOf_bound_at : ∀ (l : List UInt8) (k : Nat) (a : Int), 0 ≤ a → a < 256 ^ k → 0 ≤ l.foldl (fun n b => n * 256 + (b.toNat : Int)) a ∧ l.foldl (fun n b => n * 256 + (b.toNat : Int)) a < 256 ^ (k + l.length)
  | [], k, a, h0, h1 => ⟨h0, h1⟩
  | x :: l, k, a, h0, h1 => by
    have hx := x.toNat_lt
    have h2 : a * 256 + (x.toNat : Int) < 256 ^ (k + 1) := by rw [Int.pow_succ]; omega
    have := numOf_bound_at l (k + 1) (a * 256 + x.toNat) (by omega) h2
    rw [List.length_cons, show k + (l.length + 1) = k + 1 + l.length by omega]
    exact this

theorem numOf_bound (l : List UInt8) : 0 ≤ numOf l ∧ numOf l < 256 ^ l.length := by
  have := numOf_bound_at l 0 0 (by omega) (by simp)
  simpa [numOf] using this

theorem numOf_be4 (n : Int) : numOf (be4 n) = n % 4294967296 := by
  simp only [numOf, be4, List.foldl_cons, List.foldl_nil, byteOf_int]
  omega

/-- A number off the bytes. -/
def num? (b : List UInt8) : Option (Nat × List UInt8) := if 4 ≤ b.length then some ((numOf (b.take 4)).toNat, b.drop 4) else none
theorem num_be4 (n : Nat) (hn : n < 4294967296) (s : List UInt8) : num? (be4 n ++ s) = some (n, s) := by
  have h1 : (be4 n ++ s).take 4 = be4 n := List.take_left' rfl
  have h2 : (be4 n ++ s).drop 4 = s := List.drop_left' rfl
  unfold num?
  rw [if_pos (by simp [be4_length]), h1, h2, numOf_be4]
  congr 2
  omega
theorem num_more {b r : List UInt8} {n : Nat} (s : List UInt8) (h : num? b = some (n, r)) : num? (b ++ s) = some (n, r ++ s) := by
  unfold num? at h ⊢
  split at h
  · next hl =>
    rw [if_pos (by simp; omega)]
    simp only [Option.some.injEq, Prod.mk.injEq] at h ⊢
    rw [List.take_append_of_le_length hl, List.drop_append_of_le_length hl]
    exact ⟨h.1, by rw [h.2]⟩
  · cases h
theorem be4_mod {a b : Int} (h : a % 4294967296 = b % 4294967296) : be4 a = be4 b := by
  have hb : ∀ x y : Int, x % 256 = y % 256 → byteOf x = byteOf y := fun x y e => by unfold byteOf; rw [e]
  unfold be4
  rw [hb (a / 16777216) (b / 16777216) (by omega), hb (a / 65536) (b / 65536) (by omega), hb (a / 256) (b / 256) (by omega), hb a b (by omega)]

theorem num_drop {l : List UInt8} {k : Nat} (h : k + 4 ≤ l.length) : num? (l.drop k) = some ((numOf ((l.drop k).take 4)).toNat, l.drop (k + 4)) := by
  unfold num?
  rw [if_pos (by simp; omega), List.drop_drop]
theorem num_drop_no {l : List UInt8} {k : Nat} (h : ¬ k + 4 ≤ l.length) : num? (l.drop k) = none := by
  unfold num?
  rw [if_neg (by simp; omega)]

theorem num_under {l : List UInt8} (h : l.length ≤ 4) : numOf l < 4294967296 := by
  have h1 := (numOf_bound l).2
  have h2 : 256 ^ l.length ≤ 4294967296 := Nat.le_trans (Nat.pow_le_pow_right (by decide) h) (by decide)
  have h3 : (256 : Int) ^ l.length = ((256 ^ l.length : Nat) : Int) := by rw [Int.natCast_pow]; rfl
  omega

theorem hid_small {m : Nat} (h : Hid (m ≤ 1000000000)) : Hid (m ≤ maxLen) := Lib.hid (by have := h.out; unfold maxLen; omega)

end Go.Proofs.YtlgfijjkbomejaaGreatDoor
