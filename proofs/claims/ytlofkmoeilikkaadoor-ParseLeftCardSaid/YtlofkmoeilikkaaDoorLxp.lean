/- The tokens of a text as the document says. Plain facts. Numbers and types by name. -/
import Derived.Test.YtlofkmoeilikkaaDoorBas
import Derived.ProofKit
import Derived.Deep.Slices
/- Lists of bytes that came in. Numbers and types by name. -/
namespace Go.Proofs.YtlofkmoeilikkaaDoor
open Go.ChangeShapes Go.WideShapes Go.ChangeAt Go.RowKit Go.Lib Go.Deep

theorem ownKnobK : ownKnob Tryd.prog.godebug = none := by kernel_rfl
theorem laidOutK : laidOutB Tryd.prog = true := by kernel_rfl
theorem cellsByteK : Tryd.prog.cellsOf 5 = 1 := by kernel_rfl
/-- A []byte that came in reads as bytes. -/
theorem open_bytes {H : Type} {enc : TypeId × Value → H} {W : World} {base : Nat} {spare : Nat → Bool} {held : Bool} {fuel : Nat} {a0 : Option Addr} {len cap : Nat} {x : DataW H × List MemPlace}
    (h : DataW.trod enc Tryd.prog W base spare held fuel 42 [.slice a0 len cap] = some x) : ∃ A : List UInt8, A.length = len ∧ Reads W (.slice a0 len cap) (bv A) ∧ len ≤ maxLen := by
  rcases open_ints Tryd.underlying42 Tryd.underlying5 cellsByteK h with ⟨hcs, _⟩ | ⟨a, len', cap', zs, hcs, _, hl, hm, hz, _, hcell, hwz⟩
  · simp only [List.cons.injEq, Value.slice.injEq, and_true] at hcs
    obtain ⟨rfl, rfl, rfl⟩ := hcs
    exact ⟨[], rfl, Reads.nil W, Nat.zero_le _⟩
  · simp only [List.cons.injEq, Value.slice.injEq, and_true] at hcs
    obtain ⟨rfl, rfl, rfl⟩ := hcs
    have hzl : len ≤ zs.length := by rw [hz]; split <;> omega
    refine ⟨(zs.take len).map fun n => UInt8.ofNat n.toNat, by simp; omega, ⟨some a, cap, by simp [bv]; omega, by simp [bv]; omega, (fun e => by cases e), fun a' ha j u hj => ?_⟩, Nat.le_trans hl hm⟩
    cases ha
    have hj1 : j < len := by
      have := (List.getElem?_eq_some_iff.1 hj).1
      simp [bv] at this
      omega
    have hjz : j < zs.length := by omega
    rw [hcell j hjz]
    have hw := hwz (zs[j]) (List.getElem_mem hjz)
    have hr : 0 ≤ zs[j] ∧ zs[j] ≤ 255 := by simpa [Lit.wf, IntKind.min, IntKind.max, IntKind.signed, IntKind.bits] using hw
    have e : (bv ((zs.take len).map fun n => UInt8.ofNat n.toNat))[j]? = some (.int .u8 ((UInt8.ofNat (zs[j]).toNat).toNat : Int)) := by
      simp [bv, List.getElem?_take, hj1, List.getElem?_eq_getElem hjz]
    rw [e] at hj
    cases hj
    have e2 : ((UInt8.ofNat (zs[j]).toNat).toNat : Int) = zs[j] := by
      rw [UInt8.toNat_ofNat']
      omega
    rw [e2]
    simp [List.getElem?_eq_getElem hjz]

end Go.Proofs.YtlofkmoeilikkaaDoor

namespace Go.Proofs.YtlofkmoeilikkaaDoor
open Go.RowKit Go.Lib

def isLet (c : UInt8) : Bool := decide (97 ≤ c.toNat) && decide (c.toNat ≤ 122)
def isDig (c : UInt8) : Bool := decide (48 ≤ c.toNat) && decide (c.toNat ≤ 57)
def isWrd (c : UInt8) : Bool := isLet c || isDig c || c == 95
def isSpc (c : UInt8) : Bool := c == 32 || c == 9 || c == 10 || c == 13
/-- A token: its kind, its text, where it begins. -/
structure Tk where
  kind : Int
  text : List UInt8
  pos : Nat
  deriving DecidableEq
inductive LStep where
  | skip (n : Nat)
  | tok (k : Int) (n : Nat)
  | bad (e : Int)
/-- What Lex tells. -/
structure LexR where
  l : List Tk
  e : Int
  pos : Nat
  deriving DecidableEq

/-- module, import, var, proc, pc, uses, let, call, if, else, while, emit, result, skip, labels -/
def keysL : List (List UInt8) := [[109, 111, 100, 117, 108, 101], [105, 109, 112, 111, 114, 116], [118, 97, 114], [112, 114, 111, 99], [112, 99], [117, 115, 101, 115], [108, 101, 116], [99, 97, 108, 108], [105, 102], [101, 108, 115, 101], [119, 104, 105, 108, 101], [101, 109, 105, 116], [114, 101, 115, 117, 108, 116], [115, 107, 105, 112], [108, 97, 98, 101, 108, 115]]
def runL (p : UInt8 → Bool) (r : List UInt8) : Nat := (r.takeWhile p).length
def twoL (c d : UInt8) : Bool := (c == 61 && d == 61) || (c == 60 && d == 61) || (c == 45 && d == 62)
def oneL (c : UInt8) : Bool := c == 40 || c == 41 || c == 123 || c == 125 || c == 44 || c == 59 || c == 58 || c == 46 || c == 61 || c == 60 || c == 43 || c == 45 || c == 42 || c == 47 || c == 37 || c == 33
/-- How many bytes the sign has that stands there. -/
def signL : List UInt8 → Nat
  | [] => 0
  | [c] => if oneL c then 1 else 0
  | c :: d :: _ => if twoL c d then 2 else if oneL c then 1 else 0
def afterL : List UInt8 → Bool
  | [] => false
  | d :: _ => isLet d || d == 95
/-- What stands at the beginning of a text. -/
def stepC (c : UInt8) (r : List UInt8) : LStep :=
  if isSpc c = true then .skip 1
  else if c = 35 then .skip (1 + runL (fun x => x != 10) r)
  else if isLet c = true then
    if 20 < 1 + runL isWrd r then .bad 9 else .tok (if keysL.contains ((c :: r).take (1 + runL isWrd r)) = true then 3 else 1) (1 + runL isWrd r)
  else if isDig c = true then
    if 9 < 1 + runL isDig r then .bad 9
    else if (1 < 1 + runL isDig r ∧ c = 48) ∨ afterL (r.drop (runL isDig r)) = true then .bad 10 else .tok 2 (1 + runL isDig r)
  else if signL (c :: r) = 0 then .bad 10 else .tok 4 (signL (c :: r))
def stepL : List UInt8 → LStep
  | [] => .skip 1
  | c :: r => stepC c r
def consL (t : Tk) (R : LexR) : LexR := ⟨if R.e = 0 then t :: R.l else R.l, R.e, R.pos⟩
/-- From the offset i on. -/
def lexG : Nat → Nat → List UInt8 → LexR
  | _, i, [] => ⟨[⟨0, [], i⟩], 0, 0⟩
  | 0, i, _ => ⟨[⟨0, [], i⟩], 0, 0⟩
  | f + 1, i, c :: r =>
    match stepL (c :: r) with
    | .skip n => lexG f (i + n) ((c :: r).drop n)
    | .tok k n => consL ⟨k, (c :: r).take n, i⟩ (lexG f (i + n) ((c :: r).drop n))
    | .bad e => ⟨[], e, i⟩
def lexP (b : List UInt8) : LexR := if 8192 < b.length then ⟨[], 9, 8192⟩ else lexG b.length 0 b

theorem runL_le (p : UInt8 → Bool) (r : List UInt8) : runL p r ≤ r.length := by
  unfold runL
  induction r with
  | nil => simp
  | cons c r ih =>
    rw [List.takeWhile_cons]
    split
    · simp only [List.length_cons]; omega
    · simp
theorem signL_le : ∀ r : List UInt8, signL r ≤ r.length
  | [] => by simp [signL]
  | [c] => by
    show (if oneL c = true then 1 else 0) ≤ 1
    split <;> omega
  | c :: d :: r => by
    show (if twoL c d = true then 2 else if oneL c = true then 1 else 0) ≤ r.length + 2
    split
    · omega
    · split <;> omega
/-- What is taken is something, and no more than there is. -/
theorem stepL_n {c : UInt8} {r : List UInt8} : (∀ n, stepL (c :: r) = .skip n → 1 ≤ n ∧ n ≤ r.length + 1) ∧ ∀ k n, stepL (c :: r) = .tok k n → 1 ≤ n ∧ n ≤ r.length + 1 := by
  have h1 := runL_le (fun x => x != 10) r
  have h2 := runL_le isWrd r
  have h3 := runL_le isDig r
  have h4 := signL_le (c :: r)
  simp only [List.length_cons] at h4
  show (∀ n, stepC c r = .skip n → 1 ≤ n ∧ n ≤ r.length + 1) ∧ ∀ k n, stepC c r = .tok k n → 1 ≤ n ∧ n ≤ r.length + 1
  unfold stepC
  split
  · exact ⟨fun n h => (by cases h; omega), fun k n h => by cases h⟩
  split
  · exact ⟨fun n h => (by cases h; omega), fun k n h => by cases h⟩
  split
  · split
    · exact ⟨fun n h => (by cases h), fun k n h => by cases h⟩
    · exact ⟨fun n h => (by cases h), fun k n h => by cases h; omega⟩
  split
  · split
    · exact ⟨fun n h => (by cases h), fun k n h => by cases h⟩
    split
    · exact ⟨fun n h => (by cases h), fun k n h => by cases h⟩
    · exact ⟨fun n h => (by cases h), fun k n h => by cases h; omega⟩
  split
  · exact ⟨fun n h => (by cases h), fun k n h => by cases h⟩
  · rename_i h0
    exact ⟨fun n h => (by cases h), fun k n h => by cases h; omega⟩
/-- Enough steps are enough. -/
theorem lexG_fuel : ∀ (f g i : Nat) (r : List UInt8), r.length ≤ f → r.length ≤ g → lexG f i r = lexG g i r
  | _, _, _, [], _, _ => by simp [lexG]
  | 0, _, _, c :: r, h, _ => by simp at h
  | _, 0, _, c :: r, _, h => by simp at h
  | f + 1, g + 1, i, c :: r, h1, h2 => by
    unfold lexG
    simp only [List.length_cons] at h1 h2
    cases h : stepL (c :: r) with
    | skip n =>
      have := (stepL_n (c := c) (r := r)).1 n h
      exact lexG_fuel f g _ _ (by simp only [List.length_drop, List.length_cons]; omega) (by simp only [List.length_drop, List.length_cons]; omega)
    | tok k n =>
      have := (stepL_n (c := c) (r := r)).2 k n h
      simp only
      rw [lexG_fuel f g (i + n) ((c :: r).drop n) (by simp only [List.length_drop, List.length_cons]; omega) (by simp only [List.length_drop, List.length_cons]; omega)]
    | bad e => rfl
/-- The tokens from the offset i on. -/
def lexA (i : Nat) (r : List UInt8) : LexR := lexG r.length i r
theorem lexA_nil (i : Nat) : lexA i [] = ⟨[⟨0, [], i⟩], 0, 0⟩ := rfl
theorem lexA_skip {i n : Nat} {c : UInt8} {r : List UInt8} (h : stepL (c :: r) = .skip n) : lexA i (c :: r) = lexA (i + n) ((c :: r).drop n) := by
  have hn := (stepL_n (c := c) (r := r)).1 n h
  unfold lexA
  rw [List.length_cons]
  conv => lhs; unfold lexG
  rw [h]
  exact lexG_fuel _ _ _ _ (by simp only [List.length_drop, List.length_cons]; omega) (Nat.le_refl _)
theorem lexA_tok {i n : Nat} {k : Int} {c : UInt8} {r : List UInt8} (h : stepL (c :: r) = .tok k n) : lexA i (c :: r) = consL ⟨k, (c :: r).take n, i⟩ (lexA (i + n) ((c :: r).drop n)) := by
  have hn := (stepL_n (c := c) (r := r)).2 k n h
  unfold lexA
  rw [List.length_cons]
  conv => lhs; unfold lexG
  rw [h]
  simp only
  rw [lexG_fuel r.length ((c :: r).drop n).length (i + n) _ (by simp only [List.length_drop, List.length_cons]; omega) (Nat.le_refl _)]
theorem lexA_bad {i : Nat} {e : Int} {c : UInt8} {r : List UInt8} (h : stepL (c :: r) = .bad e) : lexA i (c :: r) = ⟨[], e, i⟩ := by
  unfold lexA
  rw [List.length_cons]
  unfold lexG
  rw [h]

end Go.Proofs.YtlofkmoeilikkaaDoor
