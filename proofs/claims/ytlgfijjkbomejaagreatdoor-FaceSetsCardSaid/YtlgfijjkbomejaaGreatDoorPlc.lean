/- A text cut behind a token, with a blank and another text behind it: what the lexer and the parser tell of it. Plain facts. Numbers and types by name. -/
import Derived.Test.YtlgfijjkbomejaaGreatDoorQpa
import Derived.Test.YtlgfijjkbomejaaGreatDoorBe4
import Derived.Test.YtlgfijjkbomejaaGreatDoorPag
namespace Go.Proofs.YtlgfijjkbomejaaGreatDoor
open Go.RowKit Go.Lib
set_option maxRecDepth 100000

theorem runL_cut {p : UInt8 → Bool} (hp : p 32 = false) (b : List UInt8) : ∀ (r : List UInt8) (m : Nat), runL p r ≤ m → runL p (r.take m ++ 32 :: b) = runL p r
  | [], m, _ => by
    rw [List.take_nil, List.nil_append]
    unfold runL
    rw [List.takeWhile_cons, hp]
    rfl
  | x :: r, m, h => by
    cases hx : p x with
    | true =>
      have e : runL p (x :: r) = runL p r + 1 := by
        unfold runL
        rw [List.takeWhile_cons, hx]
        rfl
      obtain ⟨m, rfl⟩ : ∃ m2, m = m2 + 1 := ⟨m - 1, by omega⟩
      have e2 : runL p ((x :: r).take (m + 1) ++ 32 :: b) = runL p (r.take m ++ 32 :: b) + 1 := by
        rw [List.take_succ_cons, List.cons_append]
        unfold runL
        rw [List.takeWhile_cons, hx]
        rfl
      rw [e, e2, runL_cut hp b r m (by omega)]
    | false =>
      have e : runL p (x :: r) = 0 := by
        unfold runL
        rw [List.takeWhile_cons, hx]
        rfl
      rw [e]
      cases m with
      | zero =>
        rw [List.take_zero, List.nil_append]
        unfold runL
        rw [List.takeWhile_cons, hp]
        rfl
      | succ m =>
        rw [List.take_succ_cons, List.cons_append]
        unfold runL
        rw [List.takeWhile_cons, hx]
        rfl
theorem runL_in (p : UInt8 → Bool) (X : List UInt8) : ∀ (r : List UInt8) (m : Nat), runL p r < m → m ≤ r.length → runL p (r.take m ++ X) = runL p r
  | [], m, h, h2 => by
    simp only [List.length_nil] at h2
    omega
  | x :: r, m, h, h2 => by
    simp only [List.length_cons] at h2
    obtain ⟨m, rfl⟩ : ∃ m2, m = m2 + 1 := ⟨m - 1, by omega⟩
    rw [List.take_succ_cons, List.cons_append]
    cases hx : p x with
    | true =>
      have e : ∀ l, runL p (x :: l) = runL p l + 1 := fun l => by
        unfold runL
        rw [List.takeWhile_cons, hx]
        rfl
      rw [e] at h
      rw [e, e, runL_in p X r m (by omega) (by omega)]
    | false =>
      have e : ∀ l, runL p (x :: l) = 0 := fun l => by
        unfold runL
        rw [List.takeWhile_cons, hx]
        rfl
      rw [e, e]
theorem stepL_cut {c : UInt8} {r : List UInt8} {k : Int} {n m : Nat} (b : List UInt8) (hs : stepL (c :: r) = .tok k n) (hm : n ≤ m + 1) : stepL (c :: (r.take m ++ 32 :: b)) = .tok k n := by
  have h2 := runL_le isWrd r
  have h3 := runL_le isDig r
  change stepC c r = _ at hs
  show stepC c (r.take m ++ 32 :: b) = _
  unfold stepC at hs ⊢
  split at hs
  · cases hs
  rename_i c1
  split at hs
  · cases hs
  rename_i c2
  rw [if_neg c1, if_neg c2]
  split at hs
  · rename_i c3
    rw [if_pos c3]
    split at hs
    · cases hs
    rename_i c4
    simp only [LStep.tok.injEq] at hs
    obtain ⟨hk, rfl⟩ := hs
    have e1 := runL_cut (p := isWrd) rfl b r m (by omega)
    have e2 : (c :: (r.take m ++ 32 :: b)).take (1 + runL isWrd r) = (c :: r).take (1 + runL isWrd r) := by
      rw [Nat.add_comm, List.take_succ_cons, List.take_succ_cons, List.take_append_of_le_length (by rw [List.length_take]; omega), List.take_take, Nat.min_eq_left (by omega)]
    rw [e1, if_neg c4, e2, hk]
  rename_i c3
  rw [if_neg c3]
  split at hs
  · rename_i c4
    rw [if_pos c4]
    split at hs
    · cases hs
    rename_i c5
    split at hs
    · cases hs
    rename_i c6
    simp only [LStep.tok.injEq] at hs
    obtain ⟨hk, rfl⟩ := hs
    have e1 := runL_cut (p := isDig) rfl b r m (by omega)
    have e2 : afterL ((r.take m ++ 32 :: b).drop (runL isDig r)) = false := by
      rw [List.drop_append_of_le_length (by rw [List.length_take]; omega)]
      rw [not_or] at c6
      have c7 := c6.2
      rw [Bool.not_eq_true] at c7
      rw [List.drop_take]
      cases hd : r.drop (runL isDig r) with
      | nil => rw [List.take_nil]; rfl
      | cons x l =>
        rw [hd] at c7
        cases m - runL isDig r with
        | zero => rfl
        | succ q =>
          rw [List.take_succ_cons]
          exact c7
    rw [e1, if_neg c5, if_neg (by rw [e2]; rw [not_or] at c6; exact fun h => h.elim c6.1 (by simp)), hk]
  rename_i c4
  rw [if_neg c4]
  split at hs
  · cases hs
  rename_i c5
  simp only [LStep.tok.injEq] at hs
  obtain ⟨hk, hn⟩ := hs
  have t2 : twoL c 32 = false := by
    unfold twoL
    simp
  have e : signL (c :: (r.take m ++ 32 :: b)) = signL (c :: r) := by
    cases r with
    | nil =>
      rw [List.take_nil, List.nil_append]
      show (if twoL c 32 = true then 2 else if oneL c = true then 1 else 0) = if oneL c = true then 1 else 0
      rw [t2]
      rfl
    | cons d r =>
      cases m with
      | zero =>
        rw [List.take_zero, List.nil_append]
        show (if twoL c 32 = true then 2 else if oneL c = true then 1 else 0) = if twoL c d = true then 2 else if oneL c = true then 1 else 0
        have htf : twoL c d = false := by
          cases ht : twoL c d with
          | false => rfl
          | true =>
            have : signL (c :: d :: r) = 2 := by
              show (if twoL c d = true then 2 else if oneL c = true then 1 else 0) = 2
              rw [if_pos ht]
            omega
        rw [t2, htf]
      | succ m => rfl
  rw [e, if_neg c5, hk, hn]
theorem stepL_past {c : UInt8} {r : List UInt8} {n m : Nat} (X : List UInt8) (hs : stepL (c :: r) = .skip n) (hm : n ≤ m) (hl : m ≤ r.length) : stepL (c :: (r.take m ++ X)) = .skip n := by
  change stepC c r = _ at hs
  show stepC c (r.take m ++ X) = _
  unfold stepC at hs ⊢
  split at hs
  · rename_i c1
    rw [if_pos c1, hs]
  rename_i c1
  rw [if_neg c1]
  split at hs
  · rename_i c2
    rw [if_pos c2]
    simp only [LStep.skip.injEq] at hs
    rw [runL_in _ X r m (by omega) hl, hs]
  · rename_i c2
    exfalso
    split at hs
    · split at hs <;> cases hs
    split at hs
    · split at hs
      · cases hs
      split at hs <;> cases hs
    split at hs <;> cases hs

/-- Cut behind a token. -/
theorem lexA_cut (b : List UInt8) : ∀ (k i : Nat) (r : List UInt8) (j : Nat) (t : Tk), r.length ≤ k → (lexA i r).e = 0 → (lexA i r).l[j]? = some t → j + 1 < (lexA i r).l.length →
    i ≤ t.pos ∧ 0 < t.text.length ∧ t.pos - i + t.text.length ≤ r.length ∧ lexA i (r.take (t.pos - i + t.text.length) ++ 32 :: b) = appL ((lexA i r).l.take (j + 1)) (lexA (t.pos + t.text.length + 1) b)
  | _, i, [], j, t, _, _, _, hl => by
    rw [lexA_nil] at hl
    simp at hl
  | 0, _, c :: r, _, _, h, _, _, _ => by simp at h
  | k + 1, i, c :: r, j, t, h, h0, ht, hl => by
    simp only [List.length_cons] at h
    cases hs : stepL (c :: r) with
    | skip n =>
      have hn := (stepL_n (c := c) (r := r)).1 n hs
      rw [lexA_skip hs] at h0 ht hl ⊢
      obtain ⟨a1, a0, a2, a3⟩ := lexA_cut b k (i + n) ((c :: r).drop n) j t (by simp only [List.length_drop, List.length_cons]; omega) h0 ht hl
      rw [List.length_drop, List.length_cons] at a2
      refine ⟨by omega, a0, by rw [List.length_cons]; omega, ?_⟩
      obtain ⟨m, hm⟩ : ∃ m, t.pos - i + t.text.length = m + 1 := ⟨t.pos - i + t.text.length - 1, by omega⟩
      have hp := stepL_past (m := m) (32 :: b) hs (by omega) (by omega)
      rw [hm, List.take_succ_cons, List.cons_append, lexA_skip hp]
      have e : (c :: (r.take m ++ 32 :: b)).drop n = ((c :: r).drop n).take (t.pos - (i + n) + t.text.length) ++ 32 :: b := by
        rw [← List.cons_append, ← List.take_succ_cons, List.drop_append_of_le_length (by rw [List.length_take, List.length_cons]; omega), List.drop_take]
        congr 2
        omega
      rw [e]
      exact a3
    | tok x n =>
      have hn := (stepL_n (c := c) (r := r)).2 x n hs
      rw [lexA_tok hs] at h0 ht hl ⊢
      have h0' : (lexA (i + n) ((c :: r).drop n)).e = 0 := h0
      have el : (consL ⟨x, (c :: r).take n, i⟩ (lexA (i + n) ((c :: r).drop n))).l = ⟨x, (c :: r).take n, i⟩ :: (lexA (i + n) ((c :: r).drop n)).l := by
        unfold consL
        simp only
        rw [if_pos h0']
      rw [el] at ht hl ⊢
      cases j with
      | zero =>
        simp only [List.getElem?_cons_zero, Option.some.injEq] at ht
        subst ht
        have etl : ((c :: r).take n).length = n := by
          rw [List.length_take, List.length_cons]
          omega
        refine ⟨Nat.le_refl _, by show 0 < ((c :: r).take n).length; omega, by show i - i + ((c :: r).take n).length ≤ _; rw [etl, List.length_cons]; omega, ?_⟩
        show lexA i ((c :: r).take (i - i + ((c :: r).take n).length) ++ 32 :: b) = appL [_] (lexA (i + ((c :: r).take n).length + 1) b)
        rw [etl, Nat.sub_self, Nat.zero_add]
        obtain ⟨m, rfl⟩ : ∃ m, n = m + 1 := ⟨n - 1, by omega⟩
        have hp := stepL_cut b hs (Nat.le_refl _)
        rw [List.take_succ_cons, List.cons_append, lexA_tok hp]
        have e1 : (c :: (r.take m ++ 32 :: b)).take (m + 1) = c :: r.take m := by
          rw [List.take_succ_cons, List.take_append_of_le_length (by rw [List.length_take]; omega), List.take_take, Nat.min_self]
        have e2 : (c :: (r.take m ++ 32 :: b)).drop (m + 1) = 32 :: b := by
          rw [List.drop_succ_cons, List.drop_left' (by rw [List.length_take]; omega)]
        rw [e1, e2, lexA_skip (n := 1) rfl]
        have := consL_appL ⟨x, c :: r.take m, i⟩ [] (lexA (i + (m + 1) + 1) b)
        rw [appL_nil] at this
        exact this
      | succ j =>
        rw [List.getElem?_cons_succ] at ht
        rw [List.length_cons] at hl
        obtain ⟨a1, a0, a2, a3⟩ := lexA_cut b k (i + n) ((c :: r).drop n) j t (by simp only [List.length_drop, List.length_cons]; omega) h0' ht (by omega)
        rw [List.length_drop, List.length_cons] at a2
        refine ⟨by omega, a0, by rw [List.length_cons]; omega, ?_⟩
        obtain ⟨m, hm⟩ : ∃ m, t.pos - i + t.text.length = m + 1 := ⟨t.pos - i + t.text.length - 1, by omega⟩
        have hp := stepL_cut (m := m) b hs (by omega)
        rw [hm, List.take_succ_cons, List.cons_append, lexA_tok hp]
        have e : (c :: (r.take m ++ 32 :: b)).drop n = ((c :: r).drop n).take (t.pos - (i + n) + t.text.length) ++ 32 :: b := by
          rw [← List.cons_append, ← List.take_succ_cons, List.drop_append_of_le_length (by rw [List.length_take, List.length_cons]; omega), List.drop_take]
          congr 2
          omega
        have e1 : (c :: (r.take m ++ 32 :: b)).take n = (c :: r).take n := by
          rw [← List.cons_append, ← List.take_succ_cons, List.take_append_of_le_length (by rw [List.length_take, List.length_cons]; omega), List.take_take, Nat.min_eq_left (by omega)]
        rw [e, e1, a3, consL_appL, List.take_succ_cons]
    | bad e =>
      rw [lexA_bad hs] at h0
      have h0' : e = 0 := h0
      rcases stepL_bad hs with rfl | rfl <;> cases h0'

theorem module_goes {L : List Tk} (hL : TokL L) (s : PS) : Goes L s (moduleT L s).2 :=
  (want_goes hL _ _).trans ((name_goes hL _).trans ((want_goes hL _ _).trans ((imp_goes' hL _ _ _).trans (decl_goes' hL _ _ _ _))))

theorem parseP_err {a : List UInt8} (h : (lexP a).e = 0) (he : (parseP a).2.1 ≠ 0) : (moduleT (lexP a).l ps0).2.e ≠ 0 ∧ parseP a = (mdl0, (moduleT (lexP a).l ps0).2.e, (moduleT (lexP a).l ps0).2.pos) := by
  by_cases h2 : (moduleT (lexP a).l ps0).2.e ≠ 0
  · refine ⟨h2, ?_⟩
    unfold parseP
    rw [if_neg (by rw [h]; simp)]
    simp only
    rw [if_pos h2]
  · exfalso
    apply he
    unfold parseP
    rw [if_neg (by rw [h]; simp)]
    simp only
    rw [if_neg h2]
/-- An error's place is a token's. -/
theorem places_at {a : List UInt8} (h : (lexP a).e = 0) (he : (parseP a).2.1 ≠ 0) : (moduleT (lexP a).l ps0).2.i < (lexP a).l.length ∧ ∀ t, (lexP a).l[(moduleT (lexP a).l ps0).2.i]? = some t → t.pos = (parseP a).2.2 := by
  obtain ⟨h2, h3⟩ := parseP_err h he
  have hL := (lexP_tokL h).1
  have g := module_goes hL ps0
  have hi := g.lt hL.pos
  refine ⟨hi, fun t ht => ?_⟩
  have hp := g.at_ (fun h => absurd rfl h) h2
  rw [h3]
  show t.pos = (moduleT (lexP a).l ps0).2.pos
  rw [hp]
  show _ = ((lexP a).l.getD _ ⟨0, [], 0⟩).pos
  rw [List.getD_eq_getElem?_getD, ht]
  rfl
/-- What stands behind the token changes neither. -/
theorem places_same {a b : List UInt8} (ha : a.length ≤ 1000) (hb : b.length ≤ 1000) (h1 : (lexP a).e = 0) (h2 : (lexP b).e = 0) (he : (parseP a).2.1 ≠ 0) {k : Nat} {t : Tk} (ht : (lexP a).l[k]? = some t) (hk : k + 1 < (lexP a).l.length) (hr : (moduleT (lexP a).l ps0).2.i ≤ k) :
    t.pos + t.text.length ≤ a.length ∧ (parseP (a.take (t.pos + t.text.length) ++ 32 :: b)).2 = (parseP a).2 := by
  have sm : ∀ {l : List UInt8}, l.length ≤ 8192 → lexP l = lexA 0 l := fun h => if_neg (by omega)
  obtain ⟨e2, e3⟩ := parseP_err h1 he
  rw [sm (by omega)] at h2
  have h1' := h1
  have ht' := ht
  have hk' := hk
  rw [sm (by omega)] at h1' ht' hk'
  obtain ⟨_, _, c2, c3⟩ := lexA_cut b _ 0 a k t (Nat.le_refl _) h1' ht' hk'
  rw [Nat.sub_zero] at c2 c3
  refine ⟨c2, ?_⟩
  obtain ⟨s1, s2⟩ := lexA_shift (t.pos + t.text.length + 1) _ 0 b (Nat.le_refl _)
  rw [Nat.zero_add] at s1 s2
  have s3 := s2.trans h2
  have hl : lexP (a.take (t.pos + t.text.length) ++ 32 :: b) = appL ((lexA 0 a).l.take (k + 1)) (lexA (t.pos + t.text.length + 1) b) := by
    rw [sm (by rw [List.length_append, List.length_take, List.length_cons]; omega), c3]
  have he0 : (lexP (a.take (t.pos + t.text.length) ++ 32 :: b)).e = 0 := by
    rw [hl]
    exact s3
  have hll : (lexP (a.take (t.pos + t.text.length) ++ 32 :: b)).l = (lexP a).l.take (k + 1) ++ (lexA (t.pos + t.text.length + 1) b).l := by
    rw [hl, sm (by omega)]
    unfold appL
    rw [if_pos s3]
  have hlen : 0 < (lexA (t.pos + t.text.length + 1) b).l.length := List.length_pos_iff.2 ((lexA_l _ (t.pos + t.text.length + 1) b (Nat.le_refl _)).1 s3).1
  have A : Agr (lexP a).l (lexP (a.take (t.pos + t.text.length) ++ 32 :: b)).l k := by
    refine ⟨(lexP_tokL h1).1, (lexP_tokL he0).1, fun i hi => ?_, by omega, ?_⟩
    · rw [hll, List.getD_eq_getElem?_getD, List.getD_eq_getElem?_getD, List.getElem?_append_left (by rw [List.length_take]; omega), List.getElem?_take, if_pos (by omega)]
    · rw [hll, List.length_append, List.length_take]
      omega
  have hm := A.module (s := ps0) hr
  have hp : parseP (a.take (t.pos + t.text.length) ++ 32 :: b) = (mdl0, (moduleT (lexP a).l ps0).2.e, (moduleT (lexP a).l ps0).2.pos) := by
    unfold parseP
    rw [if_neg (by rw [he0]; simp)]
    simp only
    rw [hm, if_pos e2]
  rw [hp, e3]

end Go.Proofs.YtlgfijjkbomejaaGreatDoor
