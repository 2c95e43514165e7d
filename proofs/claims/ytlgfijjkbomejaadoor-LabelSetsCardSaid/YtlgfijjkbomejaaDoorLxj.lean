/- Two texts with a line's end between; what lies between tokens. Plain facts. Numbers and types by name. -/
import Derived.Test.YtlgfijjkbomejaaDoorBas
/- The tokens of a text as the document says. Plain facts. Numbers and types by name. -/
namespace Go.Proofs.YtlgfijjkbomejaaDoor
open Go.RowKit Go.Lib

def isLet (c : UInt8) : Bool := decide (97 ≤ c.toNat) && decide (c.toNat ≤ 122)
def isDig (c : UInt8) : Bool := decide (48 ≤ c.toNat) && decide (c.toNat ≤ 57)
def isWrd (c : UInt8) : Bool := isLet c || isDig c || c == 95
def isSpc (c : UInt8) : Bool := c == 32 || c == 9 || c == 10 || c == 13
/-- A token: its kind, its text, where it begins. -/
structure Tk where
  kind : Int
  text : List UInt8
  pos : Nat
  deriving DecidableEq
inductive LStep where
  | skip (n : Nat)
  | tok (k : Int) (n : Nat)
  | bad (e : Int)
/-- What Lex tells. -/
structure LexR where
  l : List Tk
  e : Int
  pos : Nat
  deriving DecidableEq

/-- module, import, var, proc, pc, uses, let, call, if, else, while, emit, result, skip, labels -/
def keysL : List (List UInt8) := [[109, 111, 100, 117, 108, 101], [105, 109, 112, 111, 114, 116], [118, 97, 114], [112, 114, 111, 99], [112, 99], [117, 115, 101, 115], [108, 101, 116], [99, 97, 108, 108], [105, 102], [101, 108, 115, 101], [119, 104, 105, 108, 101], [101, 109, 105, 116], [114, 101, 115, 117, 108, 116], [115, 107, 105, 112], [108, 97, 98, 101, 108, 115]]
def runL (p : UInt8 → Bool) (r : List UInt8) : Nat := (r.takeWhile p).length
def twoL (c d : UInt8) : Bool := (c == 61 && d == 61) || (c == 60 && d == 61) || (c == 45 && d == 62)
def oneL (c : UInt8) : Bool := c == 40 || c == 41 || c == 123 || c == 125 || c == 44 || c == 59 || c == 58 || c == 46 || c == 61 || c == 60 || c == 43 || c == 45 || c == 42 || c == 47 || c == 37 || c == 33
/-- How many bytes the sign has that stands there. -/
def signL : List UInt8 → Nat
  | [] => 0
  | [c] => if oneL c then 1 else 0
  | c :: d :: _ => if twoL c d then 2 else if oneL c then 1 else 0
def afterL : List UInt8 → Bool
  | [] => false
  | d :: _ => isLet d || d == 95
/-- What stands at the beginning of a text. -/
def stepC (c : UInt8) (r : List UInt8) : LStep :=
  if isSpc c = true then .skip 1
  else if c = 35 then .skip (1 + runL (fun x => x != 10) r)
  else if isLet c = true then
    if 20 < 1 + runL isWrd r then .bad 9 else .tok (if keysL.contains ((c :: r).take (1 + runL isWrd r)) = true then 3 else 1) (1 + runL isWrd r)
  else if isDig c = true then
    if 9 < 1 + runL isDig r then .bad 9
    else if (1 < 1 + runL isDig r ∧ c = 48) ∨ afterL (r.drop (runL isDig r)) = true then .bad 10 else .tok 2 (1 + runL isDig r)
  else if signL (c :: r) = 0 then .bad 10 else .tok 4 (signL (c :: r))
def stepL : List UInt8 → LStep
  | [] => .skip 1
  | c :: r => stepC c r
def consL (t : Tk) (R : LexR) : LexR := ⟨if R.e = 0 then t :: R.l else R.l, R.e, R.pos⟩
/-- From the offset i on. -/
def lexG : Nat → Nat → List UInt8 → LexR
  | _, i, [] => ⟨[⟨0, [], i⟩], 0, 0⟩
  | 0, i, _ => ⟨[⟨0, [], i⟩], 0, 0⟩
  | f + 1, i, c :: r =>
    match stepL (c :: r) with
    | .skip n => lexG f (i + n) ((c :: r).drop n)
    | .tok k n => consL ⟨k, (c :: r).take n, i⟩ (lexG f (i + n) ((c :: r).drop n))
    | .bad e => ⟨[], e, i⟩
def lexP (b : List UInt8) : LexR := if 8192 < b.length then ⟨[], 9, 8192⟩ else lexG b.length 0 b

theorem runL_le (p : UInt8 → Bool) (r : List UInt8) : runL p r ≤ r.length := by
  unfold runL
  induction r with
  | nil => simp
  | cons c r ih =>
    rw [List.takeWhile_cons]
    split
    · simp only [List.length_cons]; omega
    · simp
theorem signL_le : ∀ r : List UInt8, signL r ≤ r.length
  | [] => by simp [signL]
  | [c] => by
    show (if oneL c = true then 1 else 0) ≤ 1
    split <;> omega
  | c :: d :: r => by
    show (if twoL c d = true then 2 else if oneL c = true then 1 else 0) ≤ r.length + 2
    split
    · omega
    · split <;> omega
/-- What is taken is something, and no more than there is. -/
theorem stepL_n {c : UInt8} {r : List UInt8} : (∀ n, stepL (c :: r) = .skip n → 1 ≤ n ∧ n ≤ r.length + 1) ∧ ∀ k n, stepL (c :: r) = .tok k n → 1 ≤ n ∧ n ≤ r.length + 1 := by
  have h1 := runL_le (fun x => x != 10) r
  have h2 := runL_le isWrd r
  have h3 := runL_le isDig r
  have h4 := signL_le (c :: r)
  simp only [List.length_cons] at h4
  show (∀ n, stepC c r = .skip n → 1 ≤ n ∧ n ≤ r.length + 1) ∧ ∀ k n, stepC c r = .tok k n → 1 ≤ n ∧ n ≤ r.length + 1
  unfold stepC
  split
  · exact ⟨fun n h => (by cases h; omega), fun k n h => by cases h⟩
  split
  · exact ⟨fun n h => (by cases h; omega), fun k n h => by cases h⟩
  split
  · split
    · exact ⟨fun n h => (by cases h), fun k n h => by cases h⟩
    · exact ⟨fun n h => (by cases h), fun k n h => by cases h; omega⟩
  split
  · split
    · exact ⟨fun n h => (by cases h), fun k n h => by cases h⟩
    split
    · exact ⟨fun n h => (by cases h), fun k n h => by cases h⟩
    · exact ⟨fun n h => (by cases h), fun k n h => by cases h; omega⟩
  split
  · exact ⟨fun n h => (by cases h), fun k n h => by cases h⟩
  · rename_i h0
    exact ⟨fun n h => (by cases h), fun k n h => by cases h; omega⟩
/-- Enough steps are enough. -/
theorem lexG_fuel : ∀ (f g i : Nat) (r : List UInt8), r.length ≤ f → r.length ≤ g → lexG f i r = lexG g i r
  | _, _, _, [], _, _ => by simp [lexG]
  | 0, _, _, c :: r, h, _ => by simp at h
  | _, 0, _, c :: r, _, h => by simp at h
  | f + 1, g + 1, i, c :: r, h1, h2 => by
    unfold lexG
    simp only [List.length_cons] at h1 h2
    cases h : stepL (c :: r) with
    | skip n =>
      have := (stepL_n (c := c) (r := r)).1 n h
      exact lexG_fuel f g _ _ (by simp only [List.length_drop, List.length_cons]; omega) (by simp only [List.length_drop, List.length_cons]; omega)
    | tok k n =>
      have := (stepL_n (c := c) (r := r)).2 k n h
      simp only
      rw [lexG_fuel f g (i + n) ((c :: r).drop n) (by simp only [List.length_drop, List.length_cons]; omega) (by simp only [List.length_drop, List.length_cons]; omega)]
    | bad e => rfl
/-- The tokens from the offset i on. -/
def lexA (i : Nat) (r : List UInt8) : LexR := lexG r.length i r
theorem lexA_nil (i : Nat) : lexA i [] = ⟨[⟨0, [], i⟩], 0, 0⟩ := rfl
theorem lexA_skip {i n : Nat} {c : UInt8} {r : List UInt8} (h : stepL (c :: r) = .skip n) : lexA i (c :: r) = lexA (i + n) ((c :: r).drop n) := by
  have hn := (stepL_n (c := c) (r := r)).1 n h
  unfold lexA
  rw [List.length_cons]
  conv => lhs; unfold lexG
  rw [h]
  exact lexG_fuel _ _ _ _ (by simp only [List.length_drop, List.length_cons]; omega) (Nat.le_refl _)
theorem lexA_tok {i n : Nat} {k : Int} {c : UInt8} {r : List UInt8} (h : stepL (c :: r) = .tok k n) : lexA i (c :: r) = consL ⟨k, (c :: r).take n, i⟩ (lexA (i + n) ((c :: r).drop n)) := by
  have hn := (stepL_n (c := c) (r := r)).2 k n h
  unfold lexA
  rw [List.length_cons]
  conv => lhs; unfold lexG
  rw [h]
  simp only
  rw [lexG_fuel r.length ((c :: r).drop n).length (i + n) _ (by simp only [List.length_drop, List.length_cons]; omega) (Nat.le_refl _)]
theorem lexA_bad {i : Nat} {e : Int} {c : UInt8} {r : List UInt8} (h : stepL (c :: r) = .bad e) : lexA i (c :: r) = ⟨[], e, i⟩ := by
  unfold lexA
  rw [List.length_cons]
  unfold lexG
  rw [h]

end Go.Proofs.YtlgfijjkbomejaaDoor

namespace Go.Proofs.YtlgfijjkbomejaaDoor
open Go.RowKit Go.Lib

theorem runL_join {p : UInt8 → Bool} (h : p 10 = false) (r b : List UInt8) : runL p (r ++ 10 :: b) = runL p r := by
  unfold runL
  induction r with
  | nil => simp [h]
  | cons c r ih =>
    rw [List.cons_append, List.takeWhile_cons, List.takeWhile_cons]
    split
    · simp only [List.length_cons, ih]
    · rfl
theorem signL_join (c : UInt8) (r b : List UInt8) : signL (c :: (r ++ 10 :: b)) = signL (c :: r) := by
  cases r with
  | nil =>
    show (if twoL c 10 = true then 2 else if oneL c = true then 1 else 0) = if oneL c = true then 1 else 0
    rw [if_neg]
    unfold twoL
    simp
  | cons d r => rfl
theorem afterL_join (r b : List UInt8) : afterL (r ++ 10 :: b) = afterL r := by
  cases r with
  | nil => rfl
  | cons d r => rfl
theorem stepL_join (c : UInt8) (r b : List UInt8) : stepL (c :: (r ++ 10 :: b)) = stepL (c :: r) := by
  show stepC c (r ++ 10 :: b) = stepC c r
  have h2 := runL_le isWrd r
  have h3 := runL_le isDig r
  have ht : ∀ k, k ≤ r.length → (c :: (r ++ 10 :: b)).take (1 + k) = (c :: r).take (1 + k) := fun k hk => by
    rw [Nat.add_comm, List.take_succ_cons, List.take_succ_cons, List.take_append_of_le_length hk]
  unfold stepC
  rw [runL_join (p := fun x => x != 10) rfl, runL_join (p := isWrd) rfl, runL_join (p := isDig) rfl, signL_join, ht _ h2, List.drop_append_of_le_length h3, afterL_join]
theorem stepL_bad {c : UInt8} {r : List UInt8} {e : Int} (h : stepL (c :: r) = .bad e) : e = 9 ∨ e = 10 := by
  change stepC c r = .bad e at h
  unfold stepC at h
  split at h
  · cases h
  split at h
  · cases h
  split at h
  · split at h
    · cases h; exact .inl rfl
    · cases h
  split at h
  · split at h
    · cases h; exact .inl rfl
    split at h
    · cases h; exact .inr rfl
    · cases h
  split at h
  · cases h; exact .inr rfl
  · cases h
theorem stepL_kind {c : UInt8} {r : List UInt8} {k : Int} {n : Nat} (h : stepL (c :: r) = .tok k n) : isSpc c = false ∧ c ≠ 35 := by
  change stepC c r = .tok k n at h
  unfold stepC at h
  split at h
  · cases h
  rename_i h1
  split at h
  · cases h
  rename_i h2
  exact ⟨by simpa using h1, h2⟩

/-- Where there is no error there is a last token; where there is one there are none. -/
theorem lexA_l : ∀ (k i : Nat) (r : List UInt8), r.length ≤ k → ((lexA i r).e = 0 → (lexA i r).l ≠ [] ∧ (lexA i r).pos = 0) ∧ ((lexA i r).e ≠ 0 → (lexA i r).l = [])
  | _, i, [], _ => by rw [lexA_nil]; simp
  | 0, _, c :: r, h => by simp at h
  | k + 1, i, c :: r, h => by
    simp only [List.length_cons] at h
    cases hs : stepL (c :: r) with
    | skip n =>
      rw [lexA_skip hs]
      have := (stepL_n (c := c) (r := r)).1 n hs
      exact lexA_l k _ _ (by simp only [List.length_drop, List.length_cons]; omega)
    | tok j n =>
      rw [lexA_tok hs]
      have := (stepL_n (c := c) (r := r)).2 j n hs
      have ih := lexA_l k (i + n) ((c :: r).drop n) (by simp only [List.length_drop, List.length_cons]; omega)
      unfold consL
      simp only
      refine ⟨fun h0 => ?_, fun h0 => ?_⟩
      · rw [if_pos h0]
        exact ⟨by simp, (ih.1 h0).2⟩
      · rw [if_neg h0]
        exact ih.2 h0
    | bad e =>
      rw [lexA_bad hs]
      rcases stepL_bad hs with rfl | rfl <;> simp
def appL (acc : List Tk) (R : LexR) : LexR := ⟨if R.e = 0 then acc ++ R.l else R.l, R.e, R.pos⟩
theorem appL_nil (R : LexR) : appL [] R = R := by
  unfold appL
  simp
theorem appL_cons (t : Tk) (acc : List Tk) (R : LexR) : appL (acc ++ [t]) R = appL acc (consL t R) := by
  unfold appL consL
  split <;> simp
theorem consL_appL (t : Tk) (acc : List Tk) (R : LexR) : consL t (appL acc R) = appL (t :: acc) R := by
  unfold appL consL
  split <;> simp
/-- Of two texts with a line's end between. -/
theorem lexA_join (b : List UInt8) : ∀ (k i : Nat) (a : List UInt8), a.length ≤ k → (lexA i a).e = 0 → lexA i (a ++ 10 :: b) = appL (lexA i a).l.dropLast (lexA (i + a.length + 1) b)
  | _, i, [], _, _ => by
    rw [lexA_nil, List.nil_append, lexA_skip (n := 1) rfl]
    exact (appL_nil _).symm
  | 0, _, c :: r, h, _ => by simp at h
  | k + 1, i, c :: r, h, h0 => by
    simp only [List.length_cons] at h
    have hj := stepL_join c r b
    have hd : ∀ n, n ≤ r.length + 1 → (c :: (r ++ 10 :: b)).drop n = (c :: r).drop n ++ 10 :: b := fun n hn => by
      rw [← List.cons_append, List.drop_append_of_le_length (by simpa using hn)]
    cases hs : stepL (c :: r) with
    | skip n =>
      have hn := (stepL_n (c := c) (r := r)).1 n hs
      rw [lexA_skip hs] at h0 ⊢
      rw [List.cons_append, lexA_skip (hj.trans hs), hd n hn.2, lexA_join b k (i + n) _ (by simp only [List.length_drop, List.length_cons]; omega) h0]
      congr 2
      simp only [List.length_drop, List.length_cons]
      omega
    | tok j n =>
      have hn := (stepL_n (c := c) (r := r)).2 j n hs
      rw [lexA_tok hs] at h0 ⊢
      have h0' : (lexA (i + n) ((c :: r).drop n)).e = 0 := h0
      have ht : (c :: (r ++ 10 :: b)).take n = (c :: r).take n := by
        rw [← List.cons_append, List.take_append_of_le_length (by simpa using hn.2)]
      rw [List.cons_append, lexA_tok (hj.trans hs), hd n hn.2, ht, lexA_join b k (i + n) _ (by simp only [List.length_drop, List.length_cons]; omega) h0', consL_appL]
      have hl := ((lexA_l _ (i + n) ((c :: r).drop n) (Nat.le_refl _)).1 h0').1
      have e1 : (consL ⟨j, (c :: r).take n, i⟩ (lexA (i + n) ((c :: r).drop n))).l.dropLast = ⟨j, (c :: r).take n, i⟩ :: (lexA (i + n) ((c :: r).drop n)).l.dropLast := by
        unfold consL
        simp only
        rw [if_pos h0']
        cases hx : (lexA (i + n) ((c :: r).drop n)).l with
        | nil => exact absurd hx hl
        | cons x l => rfl
      rw [e1]
      congr 2
      simp only [List.length_drop, List.length_cons]
      omega
    | bad e =>
      rw [lexA_bad hs] at h0
      have h0' : e = 0 := h0
      rcases stepL_bad hs with rfl | rfl <;> cases h0'
def shiftT (n : Nat) (t : Tk) : Tk := ⟨t.kind, t.text, t.pos + n⟩
/-- The same, further on. -/
theorem lexA_shift (m : Nat) : ∀ (k i : Nat) (r : List UInt8), r.length ≤ k → (lexA (i + m) r).l = (lexA i r).l.map (shiftT m) ∧ (lexA (i + m) r).e = (lexA i r).e
  | _, i, [], _ => by rw [lexA_nil, lexA_nil]; exact ⟨rfl, rfl⟩
  | 0, _, c :: r, h => by simp at h
  | k + 1, i, c :: r, h => by
    simp only [List.length_cons] at h
    cases hs : stepL (c :: r) with
    | skip n =>
      have hn := (stepL_n (c := c) (r := r)).1 n hs
      rw [lexA_skip hs, lexA_skip hs, show i + m + n = i + n + m by omega]
      exact lexA_shift m k _ _ (by simp only [List.length_drop, List.length_cons]; omega)
    | tok j n =>
      have hn := (stepL_n (c := c) (r := r)).2 j n hs
      rw [lexA_tok hs, lexA_tok hs, show i + m + n = i + n + m by omega]
      obtain ⟨h1, h2⟩ := lexA_shift m k (i + n) ((c :: r).drop n) (by simp only [List.length_drop, List.length_cons]; omega)
      unfold consL
      simp only
      rw [h1, h2]
      refine ⟨?_, rfl⟩
      split <;> simp [shiftT]
    | bad e =>
      rw [lexA_bad hs, lexA_bad hs]
      exact ⟨rfl, rfl⟩

end Go.Proofs.YtlgfijjkbomejaaDoor
