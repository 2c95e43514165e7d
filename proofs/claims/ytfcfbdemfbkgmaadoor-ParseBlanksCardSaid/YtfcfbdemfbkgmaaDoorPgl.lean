/- Tokens with something between them: what the lexer tells. Plain facts. Numbers and types by name. -/
import Derived.Test.YtfcfbdemfbkgmaaDoorPer
namespace Go.Proofs.YtfcfbdemfbkgmaaDoor
open Go.RowKit Go.Lib
set_option maxRecDepth 100000

/-- A byte that ends whatever stands ahead of it. -/
structure BreakY (y : UInt8) : Prop where
  wrd : isWrd y = false
  dig : isDig y = false
  aft : (isLet y || y == 95) = false
  two : ∀ c, twoL c y = false
theorem break32 : BreakY 32 := ⟨rfl, rfl, rfl, fun c => by unfold twoL; simp⟩
theorem break10 : BreakY 10 := ⟨rfl, rfl, rfl, fun c => by unfold twoL; simp⟩
theorem break9 : BreakY 9 := ⟨rfl, rfl, rfl, fun c => by unfold twoL; simp⟩
theorem runL_cutY {p : UInt8 → Bool} {y : UInt8} (hp : p y = false) (b : List UInt8) : ∀ (r : List UInt8) (m : Nat), runL p r ≤ m → runL p (r.take m ++ y :: b) = runL p r
  | [], m, _ => by
    rw [List.take_nil, List.nil_append]
    unfold runL
    rw [List.takeWhile_cons, hp]
    rfl
  | x :: r, m, h => by
    cases hx : p x with
    | true =>
      have e : runL p (x :: r) = runL p r + 1 := by
        unfold runL
        rw [List.takeWhile_cons, hx]
        rfl
      obtain ⟨m, rfl⟩ : ∃ m2, m = m2 + 1 := ⟨m - 1, by omega⟩
      have e2 : runL p ((x :: r).take (m + 1) ++ y :: b) = runL p (r.take m ++ y :: b) + 1 := by
        rw [List.take_succ_cons, List.cons_append]
        unfold runL
        rw [List.takeWhile_cons, hx]
        rfl
      rw [e, e2, runL_cutY hp b r m (by omega)]
    | false =>
      have e : runL p (x :: r) = 0 := by
        unfold runL
        rw [List.takeWhile_cons, hx]
        rfl
      rw [e]
      cases m with
      | zero =>
        rw [List.take_zero, List.nil_append]
        unfold runL
        rw [List.takeWhile_cons, hp]
        rfl
      | succ m =>
        rw [List.take_succ_cons, List.cons_append]
        unfold runL
        rw [List.takeWhile_cons, hx]
        rfl
theorem stepL_cutY {c : UInt8} {r : List UInt8} {k : Int} {n m : Nat} (b : List UInt8) {y : UInt8} (hy : BreakY y) (hs : stepL (c :: r) = .tok k n) (hm : n ≤ m + 1) : stepL (c :: (r.take m ++ y :: b)) = .tok k n := by
  have h2 := runL_le isWrd r
  have h3 := runL_le isDig r
  change stepC c r = _ at hs
  show stepC c (r.take m ++ y :: b) = _
  unfold stepC at hs ⊢
  split at hs
  · cases hs
  rename_i c1
  split at hs
  · cases hs
  rename_i c2
  rw [if_neg c1, if_neg c2]
  split at hs
  · rename_i c3
    rw [if_pos c3]
    split at hs
    · cases hs
    rename_i c4
    simp only [LStep.tok.injEq] at hs
    obtain ⟨hk, rfl⟩ := hs
    have e1 := runL_cutY (p := isWrd) hy.wrd b r m (by omega)
    have e2 : (c :: (r.take m ++ y :: b)).take (1 + runL isWrd r) = (c :: r).take (1 + runL isWrd r) := by
      rw [Nat.add_comm, List.take_succ_cons, List.take_succ_cons, List.take_append_of_le_length (by rw [List.length_take]; omega), List.take_take, Nat.min_eq_left (by omega)]
    rw [e1, if_neg c4, e2, hk]
  rename_i c3
  rw [if_neg c3]
  split at hs
  · rename_i c4
    rw [if_pos c4]
    split at hs
    · cases hs
    rename_i c5
    split at hs
    · cases hs
    rename_i c6
    simp only [LStep.tok.injEq] at hs
    obtain ⟨hk, rfl⟩ := hs
    have e1 := runL_cutY (p := isDig) hy.dig b r m (by omega)
    have e2 : afterL ((r.take m ++ y :: b).drop (runL isDig r)) = false := by
      rw [List.drop_append_of_le_length (by rw [List.length_take]; omega)]
      rw [not_or] at c6
      have c7 := c6.2
      rw [Bool.not_eq_true] at c7
      rw [List.drop_take]
      cases hd : r.drop (runL isDig r) with
      | nil => rw [List.take_nil]; exact hy.aft
      | cons x l =>
        rw [hd] at c7
        cases m - runL isDig r with
        | zero => exact hy.aft
        | succ q =>
          rw [List.take_succ_cons]
          exact c7
    rw [e1, if_neg c5, if_neg (by rw [e2]; rw [not_or] at c6; exact fun h => h.elim c6.1 (by simp)), hk]
  rename_i c4
  rw [if_neg c4]
  split at hs
  · cases hs
  rename_i c5
  simp only [LStep.tok.injEq] at hs
  obtain ⟨hk, hn⟩ := hs
  have t2 : twoL c y = false := hy.two c
  have e : signL (c :: (r.take m ++ y :: b)) = signL (c :: r) := by
    cases r with
    | nil =>
      rw [List.take_nil, List.nil_append]
      show (if twoL c y = true then 2 else if oneL c = true then 1 else 0) = if oneL c = true then 1 else 0
      rw [t2]
      rfl
    | cons d r =>
      cases m with
      | zero =>
        rw [List.take_zero, List.nil_append]
        show (if twoL c y = true then 2 else if oneL c = true then 1 else 0) = if twoL c d = true then 2 else if oneL c = true then 1 else 0
        have htf : twoL c d = false := by
          cases ht : twoL c d with
          | false => rfl
          | true =>
            have : signL (c :: d :: r) = 2 := by
              show (if twoL c d = true then 2 else if oneL c = true then 1 else 0) = 2
              rw [if_pos ht]
            omega
        rw [t2, htf]
      | succ m => rfl
  rw [e, if_neg c5, hk, hn]

/-- A token as it was read. -/
def TokS (t : Tk) : Prop := ∃ c r, stepL (c :: r) = .tok t.kind t.text.length ∧ t.text = (c :: r).take t.text.length
theorem lexA_tokS : ∀ (k i : Nat) (r : List UInt8), r.length ≤ k → (lexA i r).e = 0 → ∃ M j, (lexA i r).l = M ++ [⟨0, [], j⟩] ∧ ∀ t ∈ M, TokS t
  | _, i, [], _, _ => ⟨[], i, rfl, fun t ht => by cases ht⟩
  | 0, _, c :: r, h, _ => by simp at h
  | k + 1, i, c :: r, hk, he => by
    simp only [List.length_cons] at hk
    cases h : stepL (c :: r) with
    | skip n =>
      have hn := (stepL_n (c := c) (r := r)).1 n h
      rw [lexA_skip h] at he ⊢
      exact lexA_tokS k (i + n) ((c :: r).drop n) (by simp only [List.length_drop, List.length_cons]; omega) he
    | bad e =>
      rw [lexA_bad h] at he
      exfalso
      rcases stepL_bad h with rfl | rfl <;> simp at he
    | tok x n =>
      have hn := (stepL_n (c := c) (r := r)).2 x n h
      rw [lexA_tok h] at he ⊢
      have he2 : (lexA (i + n) ((c :: r).drop n)).e = 0 := he
      obtain ⟨M, j, e, h1⟩ := lexA_tokS k (i + n) ((c :: r).drop n) (by simp only [List.length_drop, List.length_cons]; omega) he2
      have hl : ((c :: r).take n).length = n := by
        rw [List.length_take, List.length_cons]
        omega
      refine ⟨⟨x, (c :: r).take n, i⟩ :: M, j, ?_, fun t ht => ?_⟩
      · unfold consL
        simp only
        rw [if_pos he2, e]
        rfl
      · rcases List.mem_cons.1 ht with rfl | ht
        · refine ⟨c, r, ?_, ?_⟩
          · show stepL (c :: r) = .tok x ((c :: r).take n).length
            rw [hl, h]
          · show (c :: r).take n = (c :: r).take ((c :: r).take n).length
            rw [hl]
        · exact h1 t ht
/-- It is read again where something ends it. -/
theorem TokS.again {t : Tk} (h : TokS t) {y : UInt8} (hy : BreakY y) (b : List UInt8) : ∃ c r, t.text = c :: r ∧ stepL (t.text ++ y :: b) = .tok t.kind t.text.length := by
  obtain ⟨c, r, h1, h2⟩ := h
  have hn := (stepL_n (c := c) (r := r)).2 _ _ h1
  obtain ⟨m, hm⟩ : ∃ m, t.text.length = m + 1 := ⟨t.text.length - 1, by omega⟩
  rw [hm] at h1 h2 ⊢
  rw [List.take_succ_cons] at h2
  have h3 := stepL_cutY b hy h1 (Nat.le_refl _)
  refine ⟨c, r.take m, h2, ?_⟩
  rw [h2]
  exact h3
theorem TokS.lex {t : Tk} (h : TokS t) {y : UInt8} (hy : BreakY y) (b : List UInt8) (i : Nat) : lexA i (t.text ++ y :: b) = consL ⟨t.kind, t.text, i⟩ (lexA (i + t.text.length) (y :: b)) := by
  obtain ⟨c, r, h1, h2⟩ := h.again hy b
  rw [h1, List.cons_append] at h2 ⊢
  rw [lexA_tok h2]
  rw [← List.cons_append, List.take_left' rfl, List.drop_left' rfl]

/-- What stands between tokens. -/
def sepL : Nat → List UInt8
  | 0 => [32]
  | 1 => [10]
  | 2 => [32, 35, 32, 105, 102, 32, 120, 10]
  | _ => [9, 13, 10]
theorem sep_lex (q i : Nat) (b : List UInt8) : lexA i (sepL q ++ b) = lexA (i + (sepL q).length) b := by
  match q with
  | 0 => exact lexA_skip (n := 1) rfl
  | 1 => exact lexA_skip (n := 1) rfl
  | 2 =>
    have h2 : stepL (35 :: ([32, 105, 102, 32, 120, 10] ++ b)) = .skip (1 + 5) := by
      show LStep.skip (1 + runL (fun x => x != 10) ([32, 105, 102, 32, 120] ++ 10 :: b)) = _
      rw [runL_join rfl]
      rfl
    show lexA i (32 :: 35 :: [32, 105, 102, 32, 120, 10] ++ b) = _
    rw [List.cons_append, lexA_skip (n := 1) rfl]
    show lexA (i + 1) (35 :: ([32, 105, 102, 32, 120, 10] ++ b)) = _
    rw [lexA_skip h2]
    show lexA (i + 1 + (1 + 5)) (10 :: b) = _
    rw [lexA_skip (n := 1) rfl]
    rfl
  | 3 =>
    show lexA i (9 :: 13 :: 10 :: b) = _
    rw [lexA_skip (n := 1) rfl]
    show lexA (i + 1) (13 :: 10 :: b) = _
    rw [lexA_skip (n := 1) rfl]
    show lexA (i + 1 + 1) (10 :: b) = _
    rw [lexA_skip (n := 1) rfl]
    rfl
  | n + 4 =>
    show lexA i (9 :: 13 :: 10 :: b) = _
    rw [lexA_skip (n := 1) rfl]
    show lexA (i + 1) (13 :: 10 :: b) = _
    rw [lexA_skip (n := 1) rfl]
    show lexA (i + 1 + 1) (10 :: b) = _
    rw [lexA_skip (n := 1) rfl]
    rfl
theorem sep_head (q : Nat) : ∃ y r, sepL q = y :: r ∧ BreakY y := by
  match q with
  | 0 => exact ⟨_, _, rfl, break32⟩
  | 1 => exact ⟨_, _, rfl, break10⟩
  | 2 => exact ⟨_, _, rfl, break32⟩
  | 3 => exact ⟨_, _, rfl, break9⟩
  | n + 4 => exact ⟨_, _, rfl, break9⟩
/-- Each text behind what stands between. -/
def glueL (q : Nat) : List Tk → List UInt8
  | [] => []
  | t :: r => sepL (q % 4) ++ t.text ++ glueL (q + 1) r
theorem glue_lex (j : Nat) : ∀ (M : List Tk) (q i : Nat), (∀ t ∈ M, TokS t) → (lexA i (glueL q (M ++ [⟨0, [], j⟩]))).e = 0 ∧ ktL (lexA i (glueL q (M ++ [⟨0, [], j⟩]))).l = ktL M ++ [(0, [])]
  | [], q, i, _ => by
    have e : glueL q ([] ++ [⟨0, [], j⟩]) = sepL (q % 4) ++ [] := by
      show sepL (q % 4) ++ [] ++ [] = _
      simp
    rw [e, sep_lex, lexA_nil]
    exact ⟨rfl, rfl⟩
  | t :: M, q, i, h => by
    obtain ⟨ih1, ih2⟩ := glue_lex j M (q + 1) (i + (sepL (q % 4)).length + t.text.length) (fun t ht => h t (by simp [ht]))
    have hne : ∃ y b, glueL (q + 1) (M ++ [⟨0, [], j⟩]) = y :: b ∧ BreakY y := by
      obtain ⟨y, r, e, hy⟩ := sep_head ((q + 1) % 4)
      cases M with
      | nil =>
        refine ⟨y, r ++ [] ++ [], ?_, hy⟩
        show sepL ((q + 1) % 4) ++ [] ++ [] = _
        rw [e]
        rfl
      | cons t2 M =>
        refine ⟨y, r ++ t2.text ++ glueL (q + 2) (M ++ [⟨0, [], j⟩]), ?_, hy⟩
        show sepL ((q + 1) % 4) ++ t2.text ++ _ = _
        rw [e]
        rfl
    obtain ⟨y, b, e, hy⟩ := hne
    have e2 : glueL q (t :: M ++ [⟨0, [], j⟩]) = sepL (q % 4) ++ (t.text ++ y :: b) := by
      show sepL (q % 4) ++ t.text ++ glueL (q + 1) (M ++ [⟨0, [], j⟩]) = _
      rw [e, List.append_assoc]
    rw [e2, sep_lex, (h t (by simp)).lex hy]
    rw [e] at ih1 ih2
    refine ⟨ih1, ?_⟩
    unfold consL
    simp only
    rw [if_pos ih1]
    show (t.kind, t.text) :: ktL _ = _
    rw [ih2]
    rfl
/-- Blanks, line ends, remarks between tokens change nothing but places. -/
theorem parse_glue (a : List UInt8) (q : Nat) (h : (lexP a).e = 0) (hl : (glueL q (lexP a).l).length ≤ 8192) : (parseP (glueL q (lexP a).l)).2.1 = (parseP a).2.1 ∧ (parseP (glueL q (lexP a).l)).1.er = (parseP a).1.er := by
  have ha : lexP a = lexA 0 a := by
    by_cases x : 8192 < a.length
    · unfold lexP at h
      rw [if_pos x] at h
      exact absurd h (by decide)
    · exact if_neg x
  have hb : lexP (glueL q (lexP a).l) = lexA 0 (glueL q (lexP a).l) := if_neg (by omega)
  obtain ⟨M, j, e, hM⟩ := lexA_tokS _ 0 a (Nat.le_refl _) (by rw [← ha]; exact h)
  rw [← ha] at e
  obtain ⟨g1, g2⟩ := glue_lex j M q 0 hM
  rw [← e, ← hb] at g1 g2
  refine parse_alike g1 h ?_
  rw [g2, e]
  unfold ktL
  rw [List.map_append]
  rfl

end Go.Proofs.YtfcfbdemfbkgmaaDoor
