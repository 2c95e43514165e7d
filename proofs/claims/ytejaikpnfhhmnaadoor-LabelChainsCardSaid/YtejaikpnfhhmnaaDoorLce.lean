/- A closure by certificate: plain facts for lists of pairs that are known. Numbers and types by name. -/
import Derived.Test.YtejaikpnfhhmnaaDoorLrd
namespace Go.Proofs.YtejaikpnfhhmnaaDoor
open Go.RowKit Go.Lib
set_option maxRecDepth 100000

/-- Whether f is the closure of b below n, as r says: each step that b begins goes down. -/
def certB (n : Nat) (b f : Nat → Nat → Bool) (r : Nat → Nat → Nat) : Bool :=
  (List.range n).all fun x => f x x && (List.range n).all fun y => (!b x y || f x y) && (((List.range n).all fun z => !f x y || (!f y z || f x z)) &&
    (!f x y || (decide (x = y) || (List.range n).any fun z => b x z && (f z y && decide (r z y < r x y)))))
theorem clos_cert {n : Nat} {b f : Nat → Nat → Bool} (r : Nat → Nat → Nat) (h : certB n b f r = true) : Clos n b f := by
  unfold certB at h
  simp only [List.all_eq_true, List.mem_range, Bool.and_eq_true, Bool.or_eq_true, Bool.not_eq_true', List.any_eq_true, decide_eq_true_eq] at h
  refine ⟨fun x hx => (h x hx).1, fun x y z hx hy hz h1 h2 => ?_, fun x y hx hy hb => ?_, fun T hr ht hb => ?_⟩
  · rcases ((h x hx).2 y hy).2.1 z hz with e | e | e
    · rw [h1] at e; cases e
    · rw [h2] at e; cases e
    · exact e
  · rcases ((h x hx).2 y hy).1 with e | e
    · rw [hb] at e; cases e
    · exact e
  · have go : ∀ k x y, r x y ≤ k → x < n → y < n → f x y = true → T x y := by
      intro k
      induction k with
      | zero =>
        intro x y hk hx hy hf
        rcases ((h x hx).2 y hy).2.2 with e | e | ⟨z, hz, e1, e2, e3⟩
        · rw [hf] at e; cases e
        · subst e; exact hr x hx
        · omega
      | succ k ih =>
        intro x y hk hx hy hf
        rcases ((h x hx).2 y hy).2.2 with e | e | ⟨z, hz, e1, e2, e3⟩
        · rw [hf] at e; cases e
        · subst e; exact hr x hx
        · exact ht x z y hx hz hy (hb x z hx hz e1) (ih z y (by omega) hz hy e2)
    exact fun x y hx hy hf => go (r x y) x y (Nat.le_refl _) hx hy hf

/-- A row of names, one letter each: its pairs. -/
def rowP (k : Nat) : List Pr8 := (List.range (k - 1)).map fun i => ([UInt8.ofNat (97 + i)], [UInt8.ofNat (98 + i)])
def leB (x y : Nat) : Bool := decide (x ≤ y)
theorem row_names : ∀ k, k < 16 → 2 ≤ k → (namesP (rowP k)).length = k := by decide +kernel
theorem row_cert : ∀ k, k < 13 → 2 ≤ k → certB k (baseP (namesP (rowP k)) (rowP k)) leB (fun x y => y - x) = true ∧ lattP k leB = true ∧ lowI k leB = 0 ∧ lowI k (flipB leB) = k - 1 := by decide +kernel

/-- A fan: low, top, and what is between them. -/
def fanP (k : Nat) : List Pr8 := (List.range k).flatMap fun i => [([108, 111, 119], [109, UInt8.ofNat (97 + i)]), ([109, UInt8.ofNat (97 + i)], [116, 111, 112])]
def fanB (k x y : Nat) : Bool := decide (x = y) || (decide (x = 0) || decide (y = k + 1))
def fanR (k x : Nat) : Nat := if x = 0 then 2 else if x = k + 1 then 0 else 1
theorem fan_names : ∀ k, k < 16 → 2 ≤ k → (namesP (fanP k)).length = k + 2 := by decide +kernel
theorem fan_cert : ∀ k, k < 11 → 2 ≤ k → certB (k + 2) (baseP (namesP (fanP k)) (fanP k)) (fanB k) (fun x _ => fanR k x) = true ∧ lattP (k + 2) (fanB k) = true := by decide +kernel

/-- The fan without its last pair. -/
def fenP (k : Nat) : List Pr8 := (fanP k).dropLast
def fenB (k x y : Nat) : Bool := decide (x = y) || (decide (x = 0) || (decide (y = k + 1) && decide (x ≠ k)))
theorem fen_names : ∀ k, k < 16 → 2 ≤ k → (namesP (fenP k)).length = k + 2 := by decide +kernel
theorem fen_cert : ∀ k, k < 11 → 2 ≤ k → certB (k + 2) (baseP (namesP (fenP k)) (fenP k)) (fenB k) (fun x _ => fanR k x) = true ∧ lattP (k + 2) (fenB k) = false := by decide +kernel

/-- Two pairs that go round. -/
def tuP : List Pr8 := [([97], [98]), ([98], [97])]
theorem tu_cert : (namesP tuP).length = 2 ∧ certB 2 (baseP (namesP tuP) tuP) (fun _ _ => true) (fun x y => if x = y then 0 else 1) = true ∧ lattP 2 (fun _ _ => true) = false := by decide +kernel

theorem makeX_of {l : List Pr8} {n : Nat} {f : Nat → Nat → Bool} {r : Nat → Nat → Nat} (hn : (namesP l).length = n) (h1 : 0 < n) (h2 : n ≤ 12) (hc : certB n (baseP (namesP l) l) f r = true) : MakeX l (if lattP n f = true then 0 else 13) := by
  subst hn
  refine .inr (.inr ⟨h1, h2, f, clos_cert r hc, ?_⟩)
  by_cases h : lattP (namesP l).length f = true
  · rw [if_pos h]; exact .inr ⟨h, rfl⟩
  · rw [if_neg h]; exact .inl ⟨by simpa using h, rfl⟩
theorem makeX_long {l : List Pr8} (h : 12 < (namesP l).length) : MakeX l 14 := .inr (.inl ⟨h, rfl⟩)
theorem makeX_row {k : Nat} (h : 2 ≤ k) (h2 : k < 16) : MakeX (rowP k) (if k ≤ 12 then 0 else 14) := by
  by_cases hk : k ≤ 12
  · obtain ⟨c1, c2, _⟩ := row_cert k (by omega) h
    have := makeX_of (row_names k h2 h) (by omega) hk c1
    rw [if_pos hk]
    rwa [if_pos c2] at this
  · rw [if_neg hk]
    exact makeX_long (by rw [row_names k h2 h]; omega)
theorem makeX_fan {k : Nat} (h : 2 ≤ k) (h2 : k < 16) : MakeX (fanP k) (if k ≤ 10 then 0 else 14) := by
  by_cases hk : k ≤ 10
  · obtain ⟨c1, c2⟩ := fan_cert k (by omega) h
    have := makeX_of (fan_names k h2 h) (by omega) (by omega) c1
    rw [if_pos hk]
    rwa [if_pos c2] at this
  · rw [if_neg hk]
    exact makeX_long (by rw [fan_names k h2 h]; omega)
theorem makeX_fen {k : Nat} (h : 2 ≤ k) (h2 : k < 16) : MakeX (fenP k) (if k ≤ 10 then 13 else 14) := by
  by_cases hk : k ≤ 10
  · obtain ⟨c1, c2⟩ := fen_cert k (by omega) h
    have := makeX_of (fen_names k h2 h) (by omega) (by omega) c1
    rw [if_pos hk]
    rwa [if_neg (by rw [c2]; decide)] at this
  · rw [if_neg hk]
    exact makeX_long (by rw [fen_names k h2 h]; omega)
theorem makeX_tu : MakeX tuP 13 := by
  have := makeX_of tu_cert.1 (by decide) (by decide) tu_cert.2.1
  rwa [if_neg (by rw [tu_cert.2.2]; decide)] at this

end Go.Proofs.YtejaikpnfhhmnaaDoor
