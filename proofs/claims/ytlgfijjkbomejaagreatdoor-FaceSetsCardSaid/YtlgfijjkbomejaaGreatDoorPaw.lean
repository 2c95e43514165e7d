/- The reference's reader in memory; here, is, take, fail, want, open, name, qname. Numbers and types by name. -/
import Derived.Test.YtlgfijjkbomejaaGreatDoorPam
/- The parser's plain model: it goes on, keeps the first error, and how deep it is; how much is left. Plain facts. Numbers and types by name. -/
namespace Go.Proofs.YtlgfijjkbomejaaGreatDoor
open Go.RowKit Go.Lib

/-- Tokens as a lexer leaves them: the last one, and no other, is the end. -/
structure TokL (L : List Tk) : Prop where
  pos : 0 < L.length
  more : ∀ j, j < L.length → (L.getD j ⟨0, [], 0⟩).kind ≠ 0 → j + 1 < L.length
  num : ∀ t ∈ L, t.kind = 2 → t.text.length ≤ 9 ∧ ∀ c ∈ t.text, isDig c = true
  few : L.length ≤ 10000

/-- What a piece of the parser does to where it is. -/
structure Goes (L : List Tk) (s s' : PS) : Prop where
  i : s.i ≤ s'.i
  lt : s.i < L.length → s'.i < L.length
  deep : s'.deep = s.deep
  err : s.e ≠ 0 → s' = s
  at_ : (s.e ≠ 0 → s.pos = (curT L s).pos) → s'.e ≠ 0 → s'.pos = (curT L s').pos
theorem Goes.refl (L : List Tk) (s : PS) : Goes L s s := ⟨Nat.le_refl _, id, rfl, fun _ => rfl, id⟩
theorem Goes.trans {L : List Tk} {a b c : PS} (h : Goes L a b) (k : Goes L b c) : Goes L a c :=
  ⟨Nat.le_trans h.i k.i, fun x => k.lt (h.lt x), k.deep.trans h.deep, fun x => by
    have := h.err x
    subst this
    exact k.err x, fun x => k.at_ (h.at_ x)⟩

variable {L : List Tk}
theorem isT_e {s : PS} {t : List UInt8} (h : isT L s t = true) : s.e = 0 ∧ ((curT L s).kind = 4 ∨ (curT L s).kind = 3) ∧ (curT L s).text = t := by
  unfold isT at h
  simp only [Bool.and_eq_true, Bool.or_eq_true, beq_iff_eq] at h
  exact ⟨h.1.1, h.1.2, h.2⟩
theorem isT_err {s : PS} (h : s.e ≠ 0) (t : List UInt8) : isT L s t = false := by
  unfold isT
  rw [beq_eq_false_iff_ne.2 h]
  rfl
theorem isT_more (hL : TokL L) {s : PS} {t : List UInt8} (h : isT L s t = true) (hi : s.i < L.length) : s.i + 1 < L.length := by
  obtain ⟨_, h2, _⟩ := isT_e h
  refine hL.more s.i hi ?_
  change (curT L s).kind ≠ 0
  rcases h2 with h2 | h2 <;> rw [h2] <;> decide
theorem go_goes (hL : TokL L) {s : PS} (he : s.e = 0) (hk : (curT L s).kind ≠ 0) : Goes L s s.go :=
  ⟨Nat.le_succ _, fun hi => hL.more s.i hi hk, rfl, fun h => absurd he h, fun _ h => absurd he h⟩
theorem is_goes (hL : TokL L) {s : PS} {t : List UInt8} (h : isT L s t = true) : Goes L s s.go := by
  obtain ⟨h1, h2, _⟩ := isT_e h
  exact go_goes hL h1 (by rcases h2 with h2 | h2 <;> rw [h2] <;> decide)
theorem fail_goes (s : PS) (x : Int) : Goes L s (failT L s x) := by
  unfold failT
  split
  · rename_i h
    exact ⟨Nat.le_refl _, id, rfl, fun h2 => absurd h h2, fun _ _ => rfl⟩
  · exact Goes.refl _ _
theorem fail_e {s : PS} {x : Int} (hx : x ≠ 0) : (failT L s x).e ≠ 0 := by
  unfold failT
  split
  · exact hx
  · rename_i h
    exact h
theorem fail_err {s : PS} (h : s.e ≠ 0) (x : Int) : failT L s x = s := if_neg h
theorem want_goes (hL : TokL L) (s : PS) (t : List UInt8) : Goes L s (wantT L s t) := by
  unfold wantT
  split
  · rename_i h
    exact is_goes hL h
  · exact fail_goes _ _
theorem take_goes (hL : TokL L) (s : PS) (t : List UInt8) : Goes L s (takeT L s t) := by
  unfold takeT
  split
  · rename_i h
    exact is_goes hL h
  · exact Goes.refl _ _
theorem name_goes (hL : TokL L) (s : PS) : Goes L s (nameT L s).2 := by
  unfold nameT
  split
  · exact fail_goes _ _
  · rename_i h
    rw [not_or, Decidable.not_not, Decidable.not_not] at h
    exact go_goes hL h.1 (by rw [h.2]; decide)
theorem qname_goes (hL : TokL L) (s : PS) : Goes L s (qnameT L s).2 := by
  unfold qnameT
  simp only
  split
  · rename_i h
    exact (name_goes hL s).trans ((is_goes hL h).trans (name_goes hL _))
  · exact name_goes hL s
/-- One deeper, and back. -/
theorem open_goes (hL : TokL L) (s s2 : PS) (t : List UInt8) (h : Goes L (openT L s t) s2) : Goes L s s2.shut := by
  have h1 : Goes L s (if isT L s t = true ∧ 40 ≤ s.deep then failT L s 12 else s) := by
    split
    · exact fail_goes _ _
    · exact Goes.refl _ _
  have h3 := h1.trans (want_goes hL _ t)
  unfold openT at h
  simp only at h
  refine ⟨Nat.le_trans h3.i h.i, fun hi => h.lt (h3.lt hi), ?_, fun he => ?_, fun ha => h.at_ (h3.at_ ha)⟩
  · show s2.deep - 1 = s.deep
    have e1 := h.deep
    have e2 := h3.deep
    simp only at e1
    omega
  · have e1 := h3.err he
    have e2 := h.err (by rw [e1]; exact he)
    rw [e1] at e2
    rw [e2]
    rfl

theorem which_is {s : PS} : ∀ {ops : List (List UInt8 × Int)} {k : Int}, whichT L s ops = some k → ∃ t, isT L s t = true
  | [], _, h => by cases h
  | (t, k') :: r, k, h => by
    unfold whichT at h
    split at h
    · rename_i h1
      exact ⟨t, h1⟩
    · exact which_is h
theorem which_err {s : PS} (h : s.e ≠ 0) : ∀ ops : List (List UInt8 × Int), whichT L s ops = none
  | [] => rfl
  | (t, k) :: r => by
    unfold whichT
    rw [isT_err h, if_neg (by simp)]
    exact which_err h r
theorem opLoop_goes (hL : TokL L) (ops : List (List UInt8 × Int)) {U : EX} (hU : ∀ s l, Goes L s (U s l).2) : ∀ (n : Nat) (s : PS) (l : List Nd), Goes L s (opLoop L ops U n s l).2
  | 0, s, l => Goes.refl _ _
  | n + 1, s, l => by
    unfold opLoop
    split
    · exact Goes.refl _ _
    · cases h : whichT L s ops with
      | none => exact Goes.refl _ _
      | some k =>
        obtain ⟨t, ht⟩ := which_is h
        exact (is_goes hL ht).trans ((hU _ _).trans (opLoop_goes hL ops hU n _ _))
theorem opT_goes (hL : TokL L) (ops : List (List UInt8 × Int)) {U : EX} (hU : ∀ s l, Goes L s (U s l).2) (n : Nat) (s : PS) (l : List Nd) : Goes L s (opT L ops U n s l).2 := (hU _ _).trans (opLoop_goes hL ops hU n _ _)
theorem expr_goes (hL : TokL L) {U : EX} (hU : ∀ s l, Goes L s (U s l).2) (n : Nat) (s : PS) (l : List Nd) : Goes L s (exprT L U n s l).2 := by
  have hS : ∀ s l, Goes L s (sumT L U n s l).2 := fun s l => opT_goes hL _ (fun s l => opT_goes hL _ hU n s l) n s l
  unfold exprT
  simp only
  cases h : whichT L (sumT L U n s l).2 relOps with
  | none => exact hS _ _
  | some k =>
    obtain ⟨t, ht⟩ := which_is h
    exact (hS _ _).trans ((is_goes hL ht).trans (hS _ _))
theorem unary_goes (hL : TokL L) : ∀ (n : Nat) (s : PS) (l : List Nd), Goes L s (unaryT L n s l).2
  | 0, s, l => Goes.refl _ _
  | n + 1, s, l => by
    unfold unaryT
    simp only
    split
    · exact Goes.refl _ _
    rename_i he
    have he : s.e = 0 := by simpa using he
    split
    · exact open_goes hL s _ _ (unary_goes hL n _ _)
    split
    · exact open_goes hL s _ _ ((expr_goes hL (unary_goes hL n) n _ _).trans (want_goes hL _ _))
    split
    · rename_i h
      exact go_goes hL he (by rw [h]; decide)
    split
    · exact qname_goes hL s
    · exact fail_goes _ _
theorem exprN_goes (hL : TokL L) (s : PS) : Goes L s (exprN L s).2 := expr_goes hL (unary_goes hL _) _ _ _
theorem listLoop_goes (hL : TokL L) {α : Type} {one : PS → α × PS} (h1 : ∀ s, Goes L s (one s).2) : ∀ (n : Nat) (s : PS) (acc : List α), Goes L s (listLoop L one n s acc).2
  | 0, s, acc => Goes.refl _ _
  | n + 1, s, acc => by
    unfold listLoop
    simp only
    split
    · exact Goes.refl _ _
    split
    · rename_i h
      exact (h1 s).trans ((is_goes hL h).trans (listLoop_goes hL h1 n _ _))
    · exact h1 s
theorem list_goes (hL : TokL L) {α : Type} {one : PS → α × PS} (h1 : ∀ s, Goes L s (one s).2) (s : PS) (t : List UInt8) : Goes L s (listT L one s t).2 := by
  unfold listT
  simp only
  split
  · exact want_goes hL _ _
  · exact (listLoop_goes hL h1 _ _ _).trans (want_goes hL _ _)
theorem param_goes (hL : TokL L) (s : PS) : Goes L s (paramT L s).2 := (name_goes hL s).trans ((want_goes hL _ _).trans (name_goes hL _))
theorem call_goes (hL : TokL L) (s : PS) (pos : Nat) : Goes L s (callT L s pos).2 := by
  unfold callT
  simp only
  have h1 : Goes L s (if isT L (qnameT L s).2 [61] = true then qnameT L (qnameT L s).2.go else qnameT L s).2 := by
    split
    · rename_i h
      exact (qname_goes hL s).trans ((is_goes hL h).trans (qname_goes hL _))
    · exact qname_goes hL s
  exact h1.trans ((want_goes hL _ _).trans (list_goes hL (exprN_goes hL) _ _))
theorem set_goes (hL : TokL L) (s : PS) (pos : Nat) : Goes L s (setT L s pos).2 := (qname_goes hL s).trans ((want_goes hL _ _).trans (exprN_goes hL _))
theorem let_goes (hL : TokL L) (s : PS) (pos : Nat) : Goes L s (letT L s pos).2 := (name_goes hL s).trans ((want_goes hL _ _).trans ((name_goes hL _).trans ((want_goes hL _ _).trans (exprN_goes hL _))))
theorem result_goes (hL : TokL L) (s : PS) (pos : Nat) : Goes L s (resultT L s pos).2 := (want_goes hL _ _).trans (exprN_goes hL _)
theorem end_goes (hL : TokL L) {s : PS} {r : SH × PS} (h : Goes L s r.2) : Goes L s (endT L r).2 := h.trans (want_goes hL _ _)
theorem stmLoop_goes (hL : TokL L) {S : PS → Stm × PS} (hS : ∀ s, Goes L s (S s).2) : ∀ (n : Nat) (s : PS) (acc : List Stm), Goes L s (stmLoop L S n s acc).2
  | 0, s, acc => Goes.refl _ _
  | n + 1, s, acc => by
    unfold stmLoop
    simp only
    split
    · exact Goes.refl _ _
    · exact (hS s).trans (stmLoop_goes hL hS n _ _)
theorem block_goes (hL : TokL L) {S : PS → Stm × PS} (hS : ∀ s, Goes L s (S s).2) (n : Nat) (s : PS) : Goes L s (blockT L S n s).2 :=
  open_goes hL s _ _ ((stmLoop_goes hL hS n _ _).trans (want_goes hL _ _))
theorem stmt_goes (hL : TokL L) : ∀ (n : Nat) (s : PS), Goes L s (stmtT L n s).2
  | 0, s => Goes.refl _ _
  | n + 1, s => by
    unfold stmtT
    simp only
    split
    · exact end_goes hL (set_goes hL _ _)
    split
    · rename_i h; exact end_goes hL ((is_goes hL h).trans (let_goes hL _ _))
    split
    · rename_i h; exact end_goes hL ((is_goes hL h).trans (result_goes hL _ _))
    split
    · rename_i h; exact end_goes hL ((is_goes hL h).trans (call_goes hL _ _))
    split
    · rename_i h; exact end_goes hL ((is_goes hL h).trans (name_goes hL _))
    split
    · rename_i h; exact end_goes hL (is_goes hL h)
    split
    · rename_i h
      have hb := (is_goes hL h).trans ((exprN_goes hL _).trans (block_goes hL (stmt_goes hL n) n _))
      split
      · rename_i h2
        exact hb.trans ((is_goes hL h2).trans (block_goes hL (stmt_goes hL n) n _))
      · exact hb
    split
    · rename_i h
      exact (is_goes hL h).trans ((exprN_goes hL _).trans (block_goes hL (stmt_goes hL n) n _))
    · exact fail_goes _ _
theorem blockN_goes (hL : TokL L) (s : PS) : Goes L s (blockN L s).2 := block_goes hL (stmt_goes hL _) _ _
theorem proc_goes (hL : TokL L) (s : PS) : Goes L s (procT L s).2 := by
  unfold procT
  simp only
  have h0 : Goes L s (listT L (paramT L) (wantT L (nameT L s).2 [40]) [41]).2 := (name_goes hL s).trans ((want_goes hL _ _).trans (list_goes hL (param_goes hL) _ _))
  refine h0.trans ?_
  generalize (listT L (paramT L) (wantT L (nameT L s).2 [40]) [41]).2 = s1
  have h1 : Goes L s1 (if isT L s1 [45, 62] = true then nameT L s1.go else ([], s1)).2 := by
    split
    · rename_i h
      exact (is_goes hL h).trans (name_goes hL _)
    · exact Goes.refl _ _
  exact h1.trans ((want_goes hL _ _).trans ((name_goes hL _).trans ((want_goes hL _ _).trans ((want_goes hL _ _).trans ((list_goes hL (name_goes hL) _ _).trans (blockN_goes hL _))))))
theorem var_goes (hL : TokL L) (s : PS) : Goes L s (varT L s).2 := by
  unfold varT
  simp only
  have h1 := (name_goes hL s).trans ((want_goes hL _ [58]).trans ((name_goes hL _).trans ((want_goes hL _ [61]).trans (take_goes hL _ [45]))))
  split
  · exact h1.trans (fail_goes _ _)
  · rename_i h
    rw [not_or, Decidable.not_not, Decidable.not_not] at h
    exact h1.trans ((go_goes hL h.1 (by rw [h.2]; decide)).trans (want_goes hL _ _))

/-- How many tokens are left. -/
def remT (L : List Tk) (s : PS) : Nat := if s.e ≠ 0 then 0 else L.length - s.i
theorem remT_e {s : PS} (h : s.e = 0) : remT L s = L.length - s.i := if_neg (by simpa using h)
theorem remT_err {s : PS} (h : s.e ≠ 0) : remT L s = 0 := if_pos h
theorem Goes.rem {s s' : PS} (h : Goes L s s') : remT L s' ≤ remT L s := by
  by_cases he : s'.e = 0
  · by_cases hs : s.e = 0
    · rw [remT_e he, remT_e hs]
      have := h.i
      omega
    · rw [h.err hs]
      exact Nat.le_refl _
  · rw [remT_err he]
    exact Nat.zero_le _
theorem rem_go {s : PS} (he : s.e = 0) (hi : s.i < L.length) : remT L s.go < remT L s := by
  rw [remT_e he, remT_e (show s.go.e = 0 from he)]
  show L.length - (s.i + 1) < _
  omega
theorem rem_fail {s : PS} {x : Int} (hx : x ≠ 0) (he : s.e = 0) (hi : s.i < L.length) : remT L (failT L s x) < remT L s := by
  rw [remT_err (fail_e hx), remT_e he]
  omega
theorem rem_lt {s : PS} (hi : s.i < L.length) : remT L s < L.length + 1 := by
  unfold remT
  split <;> omega
theorem rem_name {s : PS} (he : s.e = 0) (hi : s.i < L.length) : remT L (nameT L s).2 < remT L s := by
  unfold nameT
  split
  · exact rem_fail (by decide) he hi
  · exact rem_go he hi
theorem rem_qname (hL : TokL L) {s : PS} (he : s.e = 0) (hi : s.i < L.length) : remT L (qnameT L s).2 < remT L s := by
  unfold qnameT
  simp only
  split
  · rename_i h
    exact Nat.lt_of_le_of_lt ((is_goes hL h).trans (name_goes hL _)).rem (rem_name he hi)
  · exact rem_name he hi
theorem rem_want {s : PS} {t : List UInt8} (he : s.e = 0) (hi : s.i < L.length) : remT L (wantT L s t) < remT L s := by
  unfold wantT
  split
  · exact rem_go he hi
  · exact rem_fail (by decide) he hi
theorem rem_deep (s : PS) (d : Nat) : remT L { s with deep := d } = remT L s := rfl
theorem rem_open {s : PS} {t : List UInt8} (he : s.e = 0) (hi : s.i < L.length) : remT L (openT L s t) < remT L s := by
  unfold openT
  simp only
  rw [rem_deep]
  split
  · have h1 : (failT L s 12).e ≠ 0 := fail_e (by decide)
    unfold wantT
    rw [isT_err h1, if_neg (by simp), fail_err h1]
    exact rem_fail (by decide) he hi
  · exact rem_want he hi
/-- A statement takes something, or fails. -/
theorem rem_stmt (hL : TokL L) (n : Nat) {s : PS} (he : s.e = 0) (hi : s.i < L.length) : remT L (stmtT L (n + 1) s).2 < remT L s := by
  have g : ∀ {s' : PS}, Goes L s.go s' → remT L s' < remT L s := fun h => Nat.lt_of_le_of_lt h.rem (rem_go he hi)
  unfold stmtT
  simp only
  split
  · exact Nat.lt_of_le_of_lt (end_goes hL (s := (qnameT L s).2) ((want_goes hL _ _).trans (exprN_goes hL _))).rem (rem_qname hL he hi)
  split
  · exact g (end_goes hL (let_goes hL _ _))
  split
  · exact g (end_goes hL (result_goes hL _ _))
  split
  · exact g (end_goes hL (call_goes hL _ _))
  split
  · exact g (end_goes hL (name_goes hL _))
  split
  · exact g (end_goes hL (Goes.refl _ _))
  split
  · have hb := (exprN_goes hL s.go).trans (block_goes hL (stmt_goes hL n) n _)
    split
    · rename_i h2
      exact g (hb.trans ((is_goes hL h2).trans (block_goes hL (stmt_goes hL n) n _)))
    · exact g hb
  split
  · exact g ((exprN_goes hL s.go).trans (block_goes hL (stmt_goes hL n) n _))
  · exact rem_fail (by decide) he hi

end Go.Proofs.YtlgfijjkbomejaaGreatDoor

namespace Go.Proofs.YtlgfijjkbomejaaGreatDoor
open Go.RowKit Go.Lib
set_option maxRecDepth 100000

/-- A reader's cells. -/
structure RdS (w : World) (b : Nat) (vl : Value) (s : PS) : Prop where
  c0 : w.cell? ⟨b, 0, none⟩ = some vl
  c1 : w.cell? ⟨b, 1, none⟩ = some (.int .i64 s.i)
  c2 : w.cell? ⟨b, 2, none⟩ = some (.int .i64 s.deep)
  c3 : w.cell? ⟨b, 3, none⟩ = some (.int .i64 s.e)
  c4 : w.cell? ⟨b, 4, none⟩ = some (.int .i64 s.pos)
  fz : ∀ k, w.frozen? ⟨b, k, none⟩ = false
theorem ne_off {b j k : Nat} (h : j ≠ k) : (⟨b, j, none⟩ : Addr) ≠ ⟨b, k, none⟩ := by intro e; cases e; exact h rfl
theorem RdS.set1 {w : World} {b : Nat} {vl : Value} {s : PS} (h : RdS w b vl s) (i : Nat) : RdS (w.setCell ⟨b, 1, none⟩ (.int .i64 (i : Int))) b vl { s with i := i } :=
  ⟨(World.cell?_setCell_other w _ _ _ (ne_off (by decide))).trans h.c0, World.cell?_setCell_same w _ _ h.c1, (World.cell?_setCell_other w _ _ _ (ne_off (by decide))).trans h.c2, (World.cell?_setCell_other w _ _ _ (ne_off (by decide))).trans h.c3, (World.cell?_setCell_other w _ _ _ (ne_off (by decide))).trans h.c4, fun k => by rw [World.frozen?_setCell]; exact h.fz k⟩
theorem RdS.set2 {w : World} {b : Nat} {vl : Value} {s : PS} (h : RdS w b vl s) (d : Nat) : RdS (w.setCell ⟨b, 2, none⟩ (.int .i64 (d : Int))) b vl { s with deep := d } :=
  ⟨(World.cell?_setCell_other w _ _ _ (ne_off (by decide))).trans h.c0, (World.cell?_setCell_other w _ _ _ (ne_off (by decide))).trans h.c1, World.cell?_setCell_same w _ _ h.c2, (World.cell?_setCell_other w _ _ _ (ne_off (by decide))).trans h.c3, (World.cell?_setCell_other w _ _ _ (ne_off (by decide))).trans h.c4, fun k => by rw [World.frozen?_setCell]; exact h.fz k⟩
theorem RdS.set3 {w : World} {b : Nat} {vl : Value} {s : PS} (h : RdS w b vl s) (e : Int) : RdS (w.setCell ⟨b, 3, none⟩ (.int .i64 e)) b vl { s with e := e } :=
  ⟨(World.cell?_setCell_other w _ _ _ (ne_off (by decide))).trans h.c0, (World.cell?_setCell_other w _ _ _ (ne_off (by decide))).trans h.c1, (World.cell?_setCell_other w _ _ _ (ne_off (by decide))).trans h.c2, World.cell?_setCell_same w _ _ h.c3, (World.cell?_setCell_other w _ _ _ (ne_off (by decide))).trans h.c4, fun k => by rw [World.frozen?_setCell]; exact h.fz k⟩
theorem RdS.set4 {w : World} {b : Nat} {vl : Value} {s : PS} (h : RdS w b vl s) (p : Nat) : RdS (w.setCell ⟨b, 4, none⟩ (.int .i64 (p : Int))) b vl { s with pos := p } :=
  ⟨(World.cell?_setCell_other w _ _ _ (ne_off (by decide))).trans h.c0, (World.cell?_setCell_other w _ _ _ (ne_off (by decide))).trans h.c1, (World.cell?_setCell_other w _ _ _ (ne_off (by decide))).trans h.c2, (World.cell?_setCell_other w _ _ _ (ne_off (by decide))).trans h.c3, World.cell?_setCell_same w _ _ h.c4, fun k => by rw [World.frozen?_setCell]; exact h.fz k⟩
theorem RdS.chg {w w' : World} {b : Nat} {vl : Value} {s : PS} {F : List Nat} (h : RdS w b vl s) (hc : Chg F w w') (hb : b ∉ F) : RdS w' b vl s :=
  ⟨hc.cell h.c0 hb, hc.cell h.c1 hb, hc.cell h.c2 hb, hc.cell h.c3 hb, hc.cell h.c4 hb, fun k => (World.frozen?_of_block (a := ⟨b, k, none⟩) (hc.block b (World.block_lt_of_cell? w _ h.c0) hb)).trans (h.fz k)⟩

/-- A reader over tokens that lie below it. -/
structure Rdr (w0 w : World) (b n : Nat) (vl : Value) (L : List Tk) (s : PS) : Prop where
  r : RdS w b vl s
  t : Tkr w0 vl n L
  lo : w0.heap.size ≤ b
  b : Below w0.heap.size w0 w
  lt : s.i < L.length
  ok : TokL L
  deep : s.deep ≤ 1000
theorem Rdr.chg {w0 w w' : World} {b n : Nat} {vl : Value} {L : List Tk} {s s' : PS} {F : List Nat} (h : Rdr w0 w b n vl L s) (hc : Chg F w w') (hF : ∀ x ∈ F, b ≤ x) (hr : RdS w' b vl s') (hl : s'.i < L.length) (hd : s'.deep ≤ 1000) : Rdr w0 w' b n vl L s' :=
  ⟨hr, h.t, h.lo, h.b.trans (hc.below (Nat.le_trans h.b.size (Nat.le_refl _)) fun x hx => Nat.le_trans h.lo (hF x hx)), hl, h.ok, hd⟩
theorem Rdr.blt {w0 w : World} {b n : Nat} {vl : Value} {L : List Tk} {s : PS} (h : Rdr w0 w b n vl L s) : b < w.heap.size := World.block_lt_of_cell? w _ h.r.c0
/-- The token that stands there. -/
theorem Rdr.cur {w0 w w1 : World} {b n : Nat} {vl : Value} {L : List Tk} {s : PS} (h : Rdr w0 w b n vl L s) (hg : Grow w w1) :
    ∃ a c, vl = .slice (some a) n c ∧ (s.i : Int) < (n : Int) ∧ w1.cell? (a.add (s.i * 3)) = some (.int .i64 (curT L s).kind) ∧ w1.cell? ⟨(a.add (s.i * 3)).block, (a.add (s.i * 3)).off + 1, none⟩ = some (.string (tx (curT L s).text)) ∧ w1.cell? ⟨(a.add (s.i * 3)).block, (a.add (s.i * 3)).off + 2, none⟩ = some (.int .i64 ((curT L s).pos : Int)) := by
  have ht := h.t
  obtain ⟨ao, c, rfl⟩ := ht.shape
  have hn := ht.1
  have hlt := h.lt
  obtain ⟨a, o, rfl, ho, c0, c1, c2⟩ := ((ht.later h.b).later hg).at (k := s.i) (by omega)
  obtain rfl : o = curT L s := by
    unfold curT
    rw [List.getD_eq_getElem?_getD, ho]
    rfl
  exact ⟨a, c, rfl, by omega, c0, c1, c2⟩

/-- The block of a token that is not laid yet. -/
abbrev tok0 : Obj := .cells #[.int .i64 0, .string ⟨#[]⟩, .int .i64 0] 117
/-- What a piece of the reader leaves: a value, the state, new memory. -/
def Rets (w0 w : World) (b n : Nat) (vl : Value) (L : List Tk) (s' : PS) (x : Ending) (e : Ending) (w' : World) : Prop := e = x ∧ Rdr w0 w' b n vl L s' ∧ Chg [b] w w'

theorem rdr_is (w0 w : World) (b n : Nat) (vl : Value) (L : List Tk) (s : PS) (t : List UInt8) (h : Rdr w0 w b n vl L s) :
    Calls Tryz.prog 104 #[.pointer (some ⟨b, 0, none⟩), .string (tx t)] w (Rets w0 w b n vl L s (.returned (.bool (isT L s t)))) := by
  have H := Lib.hid h
  obtain ⟨a, c, rfl, hin, d0, d1, d2⟩ := h.cur (Grow.refl w)
  obtain ⟨a', c', ea, _, f0, f1, f2⟩ := h.cur (w1 := w.alloc tok0) ((Below.refl _ w).alloc (Nat.le_refl _) _)
  simp only [Value.slice.injEq, Option.some.injEq] at ea
  obtain ⟨rfl, _, rfl⟩ := ea
  have r0 := h.r.c0
  have r1 := h.r.c1
  have r3 := h.r.c3
  have hb := h.blt
  obtain ⟨kd, hk⟩ : ∃ k, (curT L s).kind = k := ⟨_, rfl⟩
  obtain ⟨tt, htt⟩ : ∃ k, (curT L s).text = k := ⟨_, rfl⟩
  obtain ⟨BB, hBB⟩ : ∃ x, isT L s t = x := ⟨_, rfl⟩
  rw [hBB]
  have HB : Hid (BB = (s.e == 0 && (kd == 4 || kd == 3) && tt == t)) := Lib.hid (by rw [← hBB]; unfold isT; rw [hk, htt])
  clear hBB
  rw [hk] at d0 f0
  rw [htt] at d1 f1
  have y1 := tx_list tt
  have y2 := tx_list t
  obtain ⟨i, dp, e, p⟩ := s
  simp only at r1 r3 hin d0 d1 d2 f0 f1 f2 HB
  clear h hk htt
  go_enter Tryz.func104, Tryz.ntmps104
  go_wp2_with fail
  go_region
  have hC : Chg [] w (w.alloc (.cells #[.int .i64 kd, .string (tx tt), .int .i64 ((curT L { i := i, deep := dp, e := e, pos := p }).pos : Int)] 117)).drew := ((Chg.refl [] w).alloc _).drew
  have hnew := heap_alloc_new w (.cells #[.int .i64 kd, .string (tx tt), .int .i64 ((curT L { i := i, deep := dp, e := e, pos := p }).pos : Int)] 117)
  have m0 : (w.alloc (.cells #[.int .i64 kd, .string (tx tt), .int .i64 ((curT L { i := i, deep := dp, e := e, pos := p }).pos : Int)] 117)).drew.cell? ⟨w.heap.size, 0, none⟩ = _ := cellsN hnew 0 _ rfl
  have m1 : (w.alloc (.cells #[.int .i64 kd, .string (tx tt), .int .i64 ((curT L { i := i, deep := dp, e := e, pos := p }).pos : Int)] 117)).drew.cell? ⟨w.heap.size, 1, none⟩ = _ := cellsN hnew 1 _ rfl
  have H2 := Lib.hid (And.intro (H.out.r.chg hC (by simp)) hC)
  have r3' := H2.out.1.c3
  clear hC hnew r0 r1 r3 d0 d1 d2 f0 f1 f2 hin hb
  generalize (w.alloc (.cells #[.int .i64 kd, .string (tx tt), .int .i64 ((curT L { i := i, deep := dp, e := e, pos := p }).pos : Int)] 117)).drew = W at *
  have FIN : Hid (∀ B, B = BB → Rets w0 w b n (.slice (some a) n c) L { i := i, deep := dp, e := e, pos := p } (.returned (.bool BB)) (.returned (.bool B)) W) := Lib.hid fun B hB =>
    ⟨by rw [hB], H.out.chg H2.out.2 (fun x hx => by cases hx) H2.out.1 H.out.lt H.out.deep, H2.out.2.mono (fun x hx => by cases hx)⟩
  clear H H2
  obtain ⟨b1, q1⟩ : ∃ x, (e == 0) = x := ⟨_, rfl⟩
  obtain ⟨b2, q2⟩ : ∃ x, (kd == 4) = x := ⟨_, rfl⟩
  obtain ⟨b3, q3⟩ : ∃ x, (kd == 3) = x := ⟨_, rfl⟩
  rw [q1, q2, q3] at HB
  obtain ⟨b4, q4⟩ : ∃ x, (tt == t) = x := ⟨_, rfl⟩
  rw [q4] at HB
  have q5 : (tt = t) = (b4 = true) := by rw [← q4]; simp
  cases b1 <;> cases b2 <;> cases b3 <;> cases b4 <;>
  · go_wp2_with fail
    go_ret
    exact FIN.out _ HB.out.symm

theorem Rdr.set1 {w0 w : World} {b n : Nat} {vl : Value} {L : List Tk} {s : PS} (h : Rdr w0 w b n vl L s) (i : Nat) (hi : i < L.length) : Rdr w0 (w.setCell ⟨b, 1, none⟩ (.int .i64 (i : Int))) b n vl L { s with i := i } :=
  h.chg (F := [b]) ((Chg.refl [b] w).set (.inl (by simp)) 1 _) (fun x hx => by simp only [List.mem_singleton] at hx; omega) (h.r.set1 i) hi h.deep
theorem Rdr.few {w0 w : World} {b n : Nat} {vl : Value} {L : List Tk} {s : PS} (h : Rdr w0 w b n vl L s) : s.i < 10000 := by
  have := h.lt
  have := h.ok.few
  omega
theorem Rets.out1 {w0 w w' : World} {b n : Nat} {vl : Value} {L : List Tk} {s' : PS} {x e : Ending} (h : Rets w0 w b n vl L s' x e w') : e = x ∧ Hid (Rdr w0 w' b n vl L s' ∧ Chg [b] w w') := ⟨h.1, Lib.hid h.2⟩

theorem rdr_take (w0 w : World) (b n : Nat) (vl : Value) (L : List Tk) (s : PS) (t : List UInt8) (h : Rdr w0 w b n vl L s) :
    Calls Tryz.prog 68 #[.pointer (some ⟨b, 0, none⟩), .string (tx t)] w (Rets w0 w b n vl L (takeT L s t) (.returned (.bool (isT L s t)))) := by
  have P := rdr_is w0 w b n vl L s t h
  have hk : ∀ w1, Rdr w0 w1 b n vl L s → Chg [b] w w1 → isT L s t = true → Rets w0 w b n vl L (takeT L s t) (.returned (.bool true)) (.returned (.bool true)) (w1.setCell ⟨b, 1, none⟩ (.int .i64 ((s.i + 1 : Nat) : Int))) := fun w1 h1 hc ht => by
    refine ⟨rfl, ?_, hc.set (.inl (by simp)) 1 _⟩
    rw [takeT, if_pos ht]
    exact h1.set1 _ (isT_more h.ok ht h.lt)
  have hn : isT L s t = false → takeT L s t = s := fun ht => by rw [takeT, ht, if_neg (by simp)]
  have hi := h.few
  have HK := Lib.hid (And.intro hk hn)
  clear hk hn h
  obtain ⟨i, dp, e, p⟩ := s
  simp only at hi
  cases hB : isT L ⟨i, dp, e, p⟩ t with
  | false =>
    rw [hB] at P
    have HN := Lib.hid (HK.out.2 hB)
    clear HK hB
    go_enter Tryz.func68, Tryz.ntmps68
    go_wp2_with fail
    refine P.mono ?_
    rintro e1 w1 hr
    obtain ⟨rfl, H1⟩ := hr.out1
    clear hr
    go_wp2_with fail
    go_ret
    rw [HN.out]
    exact ⟨rfl, H1.out⟩
  | true =>
    rw [hB] at P
    have HN : Hid (∀ w1, _ → _ → _) := Lib.hid (fun w1 h1 h2 => HK.out.1 w1 h1 h2 hB)
    clear HK hB
    go_enter Tryz.func68, Tryz.ntmps68
    go_wp2_with fail
    refine P.mono ?_
    rintro e1 w1 hr
    obtain ⟨rfl, H1⟩ := hr.out1
    have r1 := H1.out.1.r.c1
    have fz := H1.out.1.r.fz 1
    clear hr
    simp only at r1
    go_wp2_with fail
    go_ret
    have := HN.out w1 H1.out.1 H1.out.2
    simpa using this

end Go.Proofs.YtlgfijjkbomejaaGreatDoor
