/- Two lists of tokens that are one up to a place: the plain parser that ends there at the latest tells the same. Plain facts. Numbers and types by name. -/
import Derived.Test.YtlgfijjkbomejaaGreatDoorPaw
namespace Go.Proofs.YtlgfijjkbomejaaGreatDoor
open Go.RowKit Go.Lib

/-- One up to the token K. -/
structure Agr (L L' : List Tk) (K : Nat) : Prop where
  a : TokL L
  b : TokL L'
  same : ∀ i, i ≤ K → L'.getD i ⟨0, [], 0⟩ = L.getD i ⟨0, [], 0⟩
  la : K < L.length
  lb : K < L'.length
/-- How far it is to there. -/
def frT (K : Nat) (s : PS) : Nat := if s.e ≠ 0 then 0 else K + 1 - s.i
theorem frT_e {K : Nat} {s : PS} (h : s.e = 0) : frT K s = K + 1 - s.i := if_neg (by simpa using h)
theorem frT_err {K : Nat} {s : PS} (h : s.e ≠ 0) : frT K s = 0 := if_pos h
theorem fr_lt (K : Nat) (s : PS) : frT K s < K + 2 := by
  unfold frT
  split <;> omega
variable {L L' : List Tk} {K : Nat}
theorem Goes.fr {s s' : PS} (h : Goes L s s') : frT K s' ≤ frT K s := by
  by_cases he : s'.e = 0
  · by_cases hs : s.e = 0
    · rw [frT_e he, frT_e hs]
      have := h.i
      omega
    · rw [h.err hs]
      exact Nat.le_refl _
  · rw [frT_err he]
    exact Nat.zero_le _
theorem fr_go {s : PS} (he : s.e = 0) (hi : s.i ≤ K) : frT K s.go < frT K s := by
  rw [frT_e he, frT_e (show s.go.e = 0 from he)]
  show K + 1 - (s.i + 1) < _
  omega
theorem fr_fail {s : PS} {x : Int} (hx : x ≠ 0) (he : s.e = 0) (hi : s.i ≤ K) : frT K (failT L s x) < frT K s := by
  rw [frT_err (fail_e hx), frT_e he]
  omega
theorem fr_name {s : PS} (he : s.e = 0) (hi : s.i ≤ K) : frT K (nameT L s).2 < frT K s := by
  unfold nameT
  split
  · exact fr_fail (by decide) he hi
  · exact fr_go he hi
theorem fr_qname (hL : TokL L) {s : PS} (he : s.e = 0) (hi : s.i ≤ K) : frT K (qnameT L s).2 < frT K s := by
  unfold qnameT
  simp only
  split
  · rename_i h
    exact Nat.lt_of_le_of_lt ((is_goes hL h).trans (name_goes hL _)).fr (fr_name he hi)
  · exact fr_name he hi
theorem fr_want {s : PS} {t : List UInt8} (he : s.e = 0) (hi : s.i ≤ K) : frT K (wantT L s t) < frT K s := by
  unfold wantT
  split
  · exact fr_go he hi
  · exact fr_fail (by decide) he hi
theorem fr_open {s : PS} {t : List UInt8} (he : s.e = 0) (hi : s.i ≤ K) : frT K (openT L s t) < frT K s := by
  show frT K (wantT L (if isT L s t = true ∧ 40 ≤ s.deep then failT L s 12 else s) t) < _
  split
  · have h1 : (failT L s 12).e ≠ 0 := fail_e (by decide)
    unfold wantT
    rw [isT_err h1, if_neg (by simp), fail_err h1]
    exact fr_fail (by decide) he hi
  · exact fr_want he hi
theorem fr_stmt (hL : TokL L) (n : Nat) {s : PS} (he : s.e = 0) (hi : s.i ≤ K) : frT K (stmtT L (n + 1) s).2 < frT K s := by
  have g : ∀ {s' : PS}, Goes L s.go s' → frT K s' < frT K s := fun h => Nat.lt_of_le_of_lt h.fr (fr_go he hi)
  unfold stmtT
  simp only
  split
  · exact Nat.lt_of_le_of_lt (end_goes hL (s := (qnameT L s).2) ((want_goes hL _ _).trans (exprN_goes hL _))).fr (fr_qname hL he hi)
  split
  · exact g (end_goes hL (let_goes hL _ _))
  split
  · exact g (end_goes hL (result_goes hL _ _))
  split
  · exact g (end_goes hL (call_goes hL _ _))
  split
  · exact g (end_goes hL (name_goes hL _))
  split
  · exact g (end_goes hL (Goes.refl _ _))
  split
  · have hb := (exprN_goes hL s.go).trans (block_goes hL (stmt_goes hL n) n _)
    split
    · rename_i h2
      exact g (hb.trans ((is_goes hL h2).trans (block_goes hL (stmt_goes hL n) n _)))
    · exact g hb
  split
  · exact g ((exprN_goes hL s.go).trans (block_goes hL (stmt_goes hL n) n _))
  · exact fr_fail (by decide) he hi

theorem Agr.cur (A : Agr L L' K) {s : PS} (h : s.i ≤ K) : curT L' s = curT L s := A.same _ h
theorem Agr.is (A : Agr L L' K) {s : PS} (h : s.i ≤ K) (t : List UInt8) : isT L' s t = isT L s t := by
  unfold isT
  rw [A.cur h]
theorem Agr.fail (A : Agr L L' K) {s : PS} (h : s.i ≤ K) (x : Int) : failT L' s x = failT L s x := by
  unfold failT
  rw [A.cur h]
theorem Agr.want (A : Agr L L' K) {s : PS} (h : s.i ≤ K) (t : List UInt8) : wantT L' s t = wantT L s t := by
  unfold wantT
  rw [A.is h, A.fail h]
theorem Agr.take (A : Agr L L' K) {s : PS} (h : s.i ≤ K) (t : List UInt8) : takeT L' s t = takeT L s t := by
  unfold takeT
  rw [A.is h]
theorem Agr.opn (A : Agr L L' K) {s : PS} (h : s.i ≤ K) (t : List UInt8) : openT L' s t = openT L s t := by
  have h2 : (if isT L s t = true ∧ 40 ≤ s.deep then failT L s 12 else s).i ≤ K := by
    split
    · unfold failT
      split <;> exact h
    · exact h
  unfold openT
  simp only
  rw [A.is h, A.fail h, A.want h2]
theorem Agr.name (A : Agr L L' K) {s : PS} (h : s.i ≤ K) : nameT L' s = nameT L s := by
  unfold nameT
  rw [A.cur h, A.fail h]
theorem Agr.qname (A : Agr L L' K) {s : PS} (h : (qnameT L s).2.i ≤ K) : qnameT L' s = qnameT L s := by
  have h0 : s.i ≤ K := Nat.le_trans (qname_goes A.a s).i h
  unfold qnameT at h ⊢
  simp only at h ⊢
  rw [A.name h0]
  have h1 : (nameT L s).2.i ≤ K := by
    split at h
    · exact Nat.le_trans (Nat.le_succ _) (Nat.le_trans (name_goes A.a (nameT L s).2.go).i h)
    · exact h
  rw [A.is h1]
  split
  · rename_i hq
    rw [if_pos hq] at h
    rw [A.name (Nat.le_trans (name_goes A.a _).i h)]
  · rfl
theorem Agr.which (A : Agr L L' K) {s : PS} (h : s.i ≤ K) : ∀ ops : List (List UInt8 × Int), whichT L' s ops = whichT L s ops
  | [] => rfl
  | (t, k) :: r => by
    unfold whichT
    rw [A.is h, A.which h r]
/-- A piece of an expression tells the same, if it isn't too far. -/
def ExA (_L : List Tk) (K N : Nat) (U U' : EX) : Prop := ∀ s l, frT K s < N → (U s l).2.i ≤ K → U' s l = U s l
theorem Agr.opLoop (A : Agr L L' K) (ops : List (List UInt8 × Int)) {U U' : EX} {N : Nat} (hU : ExA L K N U U') (hG : ∀ s l, Goes L s (U s l).2) : ∀ (q q' : Nat) (s : PS) (l : List Nd), frT K s < q → frT K s < q' → frT K s ≤ N → (opLoop L ops U q s l).2.i ≤ K → opLoop L' ops U' q' s l = opLoop L ops U q s l
  | 0, _, _, _, h, _, _, _ => absurd h (Nat.not_lt_zero _)
  | _ + 1, 0, _, _, _, h, _, _ => absurd h (Nat.not_lt_zero _)
  | q + 1, q' + 1, s, l, h1, h2, h3, h4 => by
    have h0 : s.i ≤ K := Nat.le_trans (opLoop_goes A.a ops hG _ _ _).i h4
    unfold Go.Proofs.YtlgfijjkbomejaaGreatDoor.opLoop at h4 ⊢
    by_cases he : s.e ≠ 0
    · rw [if_pos he, if_pos he]
    · rw [if_neg he] at h4
      rw [if_neg he, if_neg he, A.which h0]
      cases hw : whichT L s ops with
      | none => rfl
      | some k =>
        rw [hw] at h4
        simp only at h4 ⊢
        have he0 : s.e = 0 := by simpa using he
        have hf := fr_go he0 h0
        have hk : (U s.go l).2.i ≤ K := Nat.le_trans (opLoop_goes A.a ops hG _ _ _).i h4
        rw [hU s.go l (by omega) hk, A.cur h0]
        have hr := (hG s.go l).fr (K := K)
        exact A.opLoop ops hU hG q q' _ _ (by omega) (by omega) (by omega) h4
theorem Agr.opT (A : Agr L L' K) (ops : List (List UInt8 × Int)) {U U' : EX} {N : Nat} (hU : ExA L K N U U') (hG : ∀ s l, Goes L s (U s l).2) (q q' : Nat) (hq : N ≤ q) (hq' : N ≤ q') : ExA L K N (opT L ops U q) (opT L' ops U' q') := by
  intro s l h1 h2
  unfold Go.Proofs.YtlgfijjkbomejaaGreatDoor.opT at h2 ⊢
  simp only at h2 ⊢
  have hk : (U s l).2.i ≤ K := Nat.le_trans (opLoop_goes A.a ops hG _ _ _).i h2
  rw [hU s l h1 hk]
  have hr := (hG s l).fr (K := K)
  exact A.opLoop ops hU hG q q' _ _ (by omega) (by omega) (by omega) h2
theorem Agr.expr (A : Agr L L' K) {U U' : EX} {N : Nat} (hU : ExA L K N U U') (hG : ∀ s l, Goes L s (U s l).2) (q q' : Nat) (hq : N ≤ q) (hq' : N ≤ q') : ExA L K N (exprT L U q) (exprT L' U' q') := by
  have hT : ExA L K N (termT L U q) (termT L' U' q') := A.opT mulOps hU hG q q' hq hq'
  have gT : ∀ s l, Goes L s (termT L U q s l).2 := fun s l => opT_goes A.a _ hG q s l
  have hS : ExA L K N (sumT L U q) (sumT L' U' q') := A.opT addOps hT gT q q' hq hq'
  have gS : ∀ s l, Goes L s (sumT L U q s l).2 := fun s l => opT_goes A.a _ gT q s l
  intro s l h1 h2
  unfold exprT at h2 ⊢
  simp only at h2 ⊢
  have hk : (sumT L U q s l).2.i ≤ K := by
    cases hw : whichT L (sumT L U q s l).2 relOps with
    | none => rw [hw] at h2; exact h2
    | some k =>
      rw [hw] at h2
      exact Nat.le_trans (Nat.le_succ _) (Nat.le_trans (gS (sumT L U q s l).2.go (sumT L U q s l).1).i h2)
  rw [hS s l h1 hk, A.which hk]
  cases hw : whichT L (sumT L U q s l).2 relOps with
  | none => rfl
  | some k =>
    rw [hw] at h2
    simp only at h2 ⊢
    obtain ⟨t, ht⟩ := which_is hw
    have hf := fr_go (isT_e ht).1 hk
    have hr := (gS s l).fr (K := K)
    rw [hS _ _ (by omega) h2, A.cur hk]
theorem Agr.unary (A : Agr L L' K) : ∀ (n n' N : Nat), N ≤ n → N ≤ n' → ExA L K N (unaryT L n) (unaryT L' n')
  | 0, _, N, h, _ => fun s l h1 _ => absurd h1 (by omega)
  | _ + 1, 0, N, _, h => fun s l h1 _ => absurd h1 (by omega)
  | n + 1, n' + 1, N, hn, hn' => fun s l h1 h2 => by
    have h0 : s.i ≤ K := Nat.le_trans (unary_goes A.a _ _ _).i h2
    unfold unaryT at h2 ⊢
    simp only at h2 ⊢
    rw [A.cur h0, A.is h0, A.is h0, A.is h0, A.opn h0, A.opn h0, A.fail h0]
    by_cases he : s.e ≠ 0
    · rw [if_pos he, if_pos he]
    rw [if_neg he] at h2 ⊢
    rw [if_neg he]
    have he0 : s.e = 0 := by simpa using he
    split at h2
    · rename_i hc
      rw [if_pos hc, if_pos hc]
      have hf := fr_open (L := L) (t := (curT L s).text) he0 h0
      rw [A.unary n n' (N - 1) (by omega) (by omega) _ l (by omega) h2]
    · rename_i hc
      rw [if_neg hc, if_neg hc]
      split at h2
      · rename_i hc2
        rw [if_pos hc2, if_pos hc2]
        have hf := fr_open (L := L) (t := [40]) he0 h0
        have hk := Nat.le_trans (want_goes A.a _ _).i h2
        rw [A.expr (A.unary n n' (N - 1) (by omega) (by omega)) (unary_goes A.a n) n n' (by omega) (by omega) _ l (by omega) hk, A.want hk]
      · rename_i hc2
        rw [if_neg hc2, if_neg hc2]
        split at h2
        · rename_i hc3
          rw [if_pos hc3, if_pos hc3]
        · rename_i hc3
          rw [if_neg hc3, if_neg hc3]
          split at h2
          · rename_i hc4
            rw [if_pos hc4, if_pos hc4, A.qname h2]
          · rename_i hc4
            rw [if_neg hc4, if_neg hc4]
theorem Agr.exprN (A : Agr L L' K) {s : PS} (h : (exprN L s).2.i ≤ K) : exprN L' s = exprN L s :=
  A.expr (A.unary _ _ (K + 2) (by have := A.la; omega) (by have := A.lb; omega)) (unary_goes A.a _) _ _ (by have := A.la; omega) (by have := A.lb; omega) s [] (fr_lt K s) h

/-- A piece that makes something tells the same. -/
def OneA {α : Type} (K : Nat) (one one' : PS → α × PS) : Prop := ∀ s, (one s).2.i ≤ K → one' s = one s
theorem Agr.nameA (A : Agr L L' K) : OneA K (nameT L) (nameT L') := fun s h => A.name (Nat.le_trans (name_goes A.a s).i h)
theorem Agr.listLoop (A : Agr L L' K) {α : Type} {one one' : PS → α × PS} (h1 : OneA K one one') (hG : ∀ s, Goes L s (one s).2) : ∀ (q q' : Nat) (s : PS) (acc : List α), frT K s < q → frT K s < q' → (listLoop L one q s acc).2.i ≤ K → listLoop L' one' q' s acc = listLoop L one q s acc
  | 0, _, _, _, h, _, _ => absurd h (Nat.not_lt_zero _)
  | _ + 1, 0, _, _, _, h, _ => absurd h (Nat.not_lt_zero _)
  | q + 1, q' + 1, s, acc, a1, a2, h4 => by
    unfold Go.Proofs.YtlgfijjkbomejaaGreatDoor.listLoop at h4 ⊢
    simp only at h4 ⊢
    by_cases he : s.e ≠ 0
    · rw [if_pos he, if_pos he]
    rw [if_neg he] at h4 ⊢
    rw [if_neg he]
    have hk : (one s).2.i ≤ K := by
      split at h4
      · exact Nat.le_trans (Nat.le_succ _) (Nat.le_trans (listLoop_goes A.a hG _ (one s).2.go _).i h4)
      · exact h4
    rw [h1 s hk, A.is hk]
    split at h4
    · rename_i hc
      rw [if_pos hc, if_pos hc]
      have hf := fr_go (isT_e hc).1 hk
      have hr := (hG s).fr (K := K)
      exact A.listLoop h1 hG q q' _ _ (by omega) (by omega) h4
    · rename_i hc
      rw [if_neg hc, if_neg hc]
theorem Agr.list (A : Agr L L' K) {α : Type} {one one' : PS → α × PS} (h1 : OneA K one one') (hG : ∀ s, Goes L s (one s).2) {s : PS} {t : List UInt8} (h : (listT L one s t).2.i ≤ K) : listT L' one' s t = listT L one s t := by
  have h0 : s.i ≤ K := Nat.le_trans (list_goes A.a hG s t).i h
  unfold listT at h ⊢
  simp only at h ⊢
  rw [A.is h0]
  have hk := Nat.le_trans (want_goes A.a _ _).i h
  split at h
  · rename_i hc
    rw [if_pos hc] at hk
    rw [if_pos hc, if_pos hc, A.want hk]
  · rename_i hc
    rw [if_neg hc] at hk
    rw [if_neg hc, if_neg hc, A.listLoop h1 hG (L.length + 1) (L'.length + 1) s [] (by have := fr_lt K s; have := A.la; omega) (by have := fr_lt K s; have := A.lb; omega) hk, A.want hk]
theorem Agr.param (A : Agr L L' K) : OneA K (paramT L) (paramT L') := by
  intro s h
  have k3 : (wantT L (nameT L s).2 [58]).i ≤ K := Nat.le_trans (name_goes A.a _).i h
  have k2 : (nameT L s).2.i ≤ K := Nat.le_trans (want_goes A.a _ _).i k3
  have k1 : s.i ≤ K := Nat.le_trans (name_goes A.a _).i k2
  unfold paramT
  simp only
  rw [A.name k1, A.want k2, A.name k3, A.cur k1]
theorem Agr.exprA (A : Agr L L' K) : OneA K (Go.Proofs.YtlgfijjkbomejaaGreatDoor.exprN L) (Go.Proofs.YtlgfijjkbomejaaGreatDoor.exprN L') := fun _ h => A.exprN h
theorem Agr.call (A : Agr L L' K) {s : PS} {pos : Nat} (h : (callT L s pos).2.i ≤ K) : callT L' s pos = callT L s pos := by
  unfold callT at h ⊢
  simp only at h ⊢
  have k4 := Nat.le_trans (list_goes A.a (exprN_goes A.a) _ _).i h
  have k3 := Nat.le_trans (want_goes A.a _ _).i k4
  have k2 : (qnameT L s).2.i ≤ K := by
    split at k3
    · exact Nat.le_trans (Nat.le_succ _) (Nat.le_trans (qname_goes A.a (qnameT L s).2.go).i k3)
    · exact k3
  rw [A.qname k2, A.is k2]
  split
  · rename_i hc
    rw [if_pos hc] at h k3 k4
    rw [A.qname k3, A.want k3, A.list A.exprA (exprN_goes A.a) h]
  · rename_i hc
    rw [if_neg hc] at h k3 k4
    rw [A.want k3, A.list A.exprA (exprN_goes A.a) h]
theorem Agr.set (A : Agr L L' K) {s : PS} {pos : Nat} (h : (setT L s pos).2.i ≤ K) : setT L' s pos = setT L s pos := by
  unfold setT at h ⊢
  simp only at h ⊢
  have k2 := Nat.le_trans (exprN_goes A.a _).i h
  have k1 := Nat.le_trans (want_goes A.a _ _).i k2
  rw [A.qname k1, A.want k1, A.exprN h]
theorem Agr.let (A : Agr L L' K) {s : PS} {pos : Nat} (h : (letT L s pos).2.i ≤ K) : letT L' s pos = letT L s pos := by
  unfold letT at h ⊢
  simp only at h ⊢
  have k4 := Nat.le_trans (exprN_goes A.a _).i h
  have k3 := Nat.le_trans (want_goes A.a _ _).i k4
  have k2 := Nat.le_trans (name_goes A.a _).i k3
  have k1 := Nat.le_trans (want_goes A.a _ _).i k2
  have k0 := Nat.le_trans (name_goes A.a _).i k1
  rw [A.name k0, A.want k1, A.name k2, A.want k3, A.exprN h]
theorem Agr.result (A : Agr L L' K) {s : PS} {pos : Nat} (h : (resultT L s pos).2.i ≤ K) : resultT L' s pos = resultT L s pos := by
  unfold resultT at h ⊢
  simp only at h ⊢
  have k2 := Nat.le_trans (exprN_goes A.a _).i h
  have k1 := Nat.le_trans (want_goes A.a _ _).i k2
  rw [A.want k1, A.exprN h]
theorem Agr.emit (A : Agr L L' K) {s : PS} {pos : Nat} (h : (emitT L s pos).2.i ≤ K) : emitT L' s pos = emitT L s pos := by
  unfold emitT at h ⊢
  simp only at h ⊢
  rw [A.name (Nat.le_trans (name_goes A.a _).i h)]
theorem Agr.end (A : Agr L L' K) {r r' : SH × PS} (h : (endT L r).2.i ≤ K) (hr : r.2.i ≤ K → r' = r) : endT L' r' = endT L r := by
  unfold endT at h ⊢
  simp only at h ⊢
  have k := Nat.le_trans (want_goes A.a _ _).i h
  rw [hr k, A.want k]
theorem Agr.stmLoop (A : Agr L L' K) {S S' : PS → Stm × PS} {N : Nat} (hS : ∀ s, frT K s < N → (S s).2.i ≤ K → S' s = S s) (hG : ∀ s, Goes L s (S s).2) (hF : ∀ s, s.e = 0 → s.i ≤ K → frT K s < N → frT K (S s).2 < frT K s) : ∀ (q q' : Nat) (s : PS) (acc : List Stm), frT K s < q → frT K s < q' → frT K s < N → (stmLoop L S q s acc).2.i ≤ K → stmLoop L' S' q' s acc = stmLoop L S q s acc
  | 0, _, _, _, h, _, _, _ => absurd h (Nat.not_lt_zero _)
  | _ + 1, 0, _, _, _, h, _, _ => absurd h (Nat.not_lt_zero _)
  | q + 1, q' + 1, s, acc, a1, a2, a3, h4 => by
    have h0 : s.i ≤ K := Nat.le_trans (stmLoop_goes A.a hG _ _ _).i h4
    unfold Go.Proofs.YtlgfijjkbomejaaGreatDoor.stmLoop at h4 ⊢
    simp only at h4 ⊢
    rw [A.is h0]
    split at h4
    · rename_i hc
      rw [if_pos hc, if_pos hc]
    · rename_i hc
      rw [if_neg hc, if_neg hc]
      have he : s.e = 0 := by
        rw [not_or, Decidable.not_not] at hc
        exact hc.1
      have hk : (S s).2.i ≤ K := Nat.le_trans (stmLoop_goes A.a hG _ _ _).i h4
      have hf := hF s he h0 a3
      rw [hS s a3 hk]
      exact A.stmLoop hS hG hF q q' _ _ (by omega) (by omega) (by omega) h4
theorem Agr.block (A : Agr L L' K) {S S' : PS → Stm × PS} {N : Nat} (hS : ∀ s, frT K s < N → (S s).2.i ≤ K → S' s = S s) (hG : ∀ s, Goes L s (S s).2) (hF : ∀ s, s.e = 0 → s.i ≤ K → frT K s < N → frT K (S s).2 < frT K s) (q q' : Nat) (s : PS) (a1 : N ≤ q) (a2 : N ≤ q') (a3 : frT K s < N) (h : (blockT L S q s).2.i ≤ K) : blockT L' S' q' s = blockT L S q s := by
  have h0 : s.i ≤ K := Nat.le_trans (block_goes A.a hG _ _).i h
  unfold blockT at h ⊢
  simp only at h ⊢
  have k1 : (Go.Proofs.YtlgfijjkbomejaaGreatDoor.stmLoop L S q (openT L s [123]) []).2.i ≤ K := Nat.le_trans (want_goes A.a _ [125]).i h
  have hfr : frT K (openT L s [123]) ≤ frT K s := by
    by_cases he : s.e = 0
    · exact Nat.le_of_lt (fr_open he h0)
    · have : (openT L s [123]).e ≠ 0 := by
        have hw : ∀ x, wantT L (if isT L s x = true ∧ 40 ≤ s.deep then failT L s 12 else s) x = s := by
          intro x
          rw [isT_err he, if_neg (by simp)]
          unfold wantT
          rw [isT_err he, if_neg (by simp), fail_err he]
        show (wantT L (if isT L s [123] = true ∧ 40 ≤ s.deep then failT L s 12 else s) [123]).e ≠ 0
        rw [hw]
        exact he
      rw [frT_err this]
      exact Nat.zero_le _
  rw [A.opn h0, A.stmLoop hS hG hF q q' _ _ (by omega) (by omega) (by omega) k1, A.want k1]
theorem Agr.stmt (A : Agr L L' K) : ∀ (n n' : Nat) (s : PS), frT K s < n → frT K s < n' → (stmtT L n s).2.i ≤ K → stmtT L' n' s = stmtT L n s
  | 0, _, _, h, _, _ => absurd h (Nat.not_lt_zero _)
  | _ + 1, 0, _, _, h, _ => absurd h (Nat.not_lt_zero _)
  | n + 1, n' + 1, s, a1, a2, h => by
    have h0 : s.i ≤ K := Nat.le_trans (stmt_goes A.a _ _).i h
    have blk : ∀ (s2 : PS), frT K s2 < frT K s → (blockT L (stmtT L n) n s2).2.i ≤ K → blockT L' (stmtT L' n') n' s2 = blockT L (stmtT L n) n s2 := fun s2 hf hk =>
      A.block (N := frT K s) (fun s3 h3 h4 => A.stmt n n' s3 (by omega) (by omega) h4) (stmt_goes A.a n) (fun s3 he hi hf3 => by
        obtain ⟨n, rfl⟩ : ∃ n2, n = n2 + 1 := ⟨n - 1, by omega⟩
        exact fr_stmt A.a n he hi) n n' s2 (by omega) (by omega) hf hk
    unfold stmtT at h ⊢
    simp only at h ⊢
    rw [A.cur h0, A.is h0, A.is h0, A.is h0, A.is h0, A.is h0, A.is h0, A.is h0, A.fail h0]
    split at h
    · rename_i hc
      rw [if_pos hc, if_pos hc]
      exact A.end h fun k => A.set k
    rename_i hc
    rw [if_neg hc, if_neg hc]
    clear hc
    split at h
    · rename_i hc
      rw [if_pos hc, if_pos hc]
      exact A.end h fun k => A.let k
    rename_i hc
    rw [if_neg hc, if_neg hc]
    clear hc
    split at h
    · rename_i hc
      rw [if_pos hc, if_pos hc]
      exact A.end h fun k => A.result k
    rename_i hc
    rw [if_neg hc, if_neg hc]
    clear hc
    split at h
    · rename_i hc
      rw [if_pos hc, if_pos hc]
      exact A.end h fun k => A.call k
    rename_i hc
    rw [if_neg hc, if_neg hc]
    clear hc
    split at h
    · rename_i hc
      rw [if_pos hc, if_pos hc]
      exact A.end h fun k => A.emit k
    rename_i hc
    rw [if_neg hc, if_neg hc]
    clear hc
    split at h
    · rename_i hc
      rw [if_pos hc, if_pos hc]
      exact A.end h fun _ => rfl
    rename_i hc
    rw [if_neg hc, if_neg hc]
    clear hc
    split at h
    · rename_i hc
      rw [if_pos hc, if_pos hc]
      have hf := fr_go (isT_e hc).1 h0
      have hx := (exprN_goes A.a s.go).fr (K := K)
      have kb : (blockT L (stmtT L n) n (Go.Proofs.YtlgfijjkbomejaaGreatDoor.exprN L s.go).2).2.i ≤ K := by
        split at h
        · exact Nat.le_trans (Nat.le_succ _) (Nat.le_trans (block_goes A.a (stmt_goes A.a n) n (blockT L (stmtT L n) n (Go.Proofs.YtlgfijjkbomejaaGreatDoor.exprN L s.go).2).2.go).i h)
        · exact h
      have kx := Nat.le_trans (block_goes A.a (stmt_goes A.a n) n _).i kb
      rw [A.exprN kx, blk _ (by omega) kb, A.is kb]
      split at h
      · rename_i hd
        rw [if_pos hd, if_pos hd]
        have hg := fr_go (isT_e hd).1 kb
        have hb := (block_goes A.a (stmt_goes A.a n) n (Go.Proofs.YtlgfijjkbomejaaGreatDoor.exprN L s.go).2).fr (K := K)
        rw [blk _ (by omega) h]
      · rename_i hd
        rw [if_neg hd, if_neg hd]
    rename_i hc
    rw [if_neg hc, if_neg hc]
    clear hc
    split at h
    · rename_i hc
      rw [if_pos hc, if_pos hc]
      have hf := fr_go (isT_e hc).1 h0
      have hx := (exprN_goes A.a s.go).fr (K := K)
      have kx := Nat.le_trans (block_goes A.a (stmt_goes A.a n) n _).i h
      rw [A.exprN kx, blk _ (by omega) h]
    · rename_i hc
      rw [if_neg hc, if_neg hc]
theorem Agr.blockN (A : Agr L L' K) : OneA K (blockN L) (blockN L') := by
  intro s h
  have := fr_lt K s
  have := A.la
  have := A.lb
  unfold Go.Proofs.YtlgfijjkbomejaaGreatDoor.blockN at h ⊢
  exact A.block (N := K + 2) (fun s3 h3 h4 => A.stmt _ _ s3 (by omega) (by omega) h4) (stmt_goes A.a _) (fun s3 he hi hf3 => fr_stmt A.a _ he hi) _ _ s (by omega) (by omega) (fr_lt K s) h
theorem Agr.proc (A : Agr L L' K) : OneA K (procT L) (procT L') := by
  intro s h
  unfold procT at h ⊢
  simp only at h ⊢
  have k9 := Nat.le_trans (blockN_goes A.a _).i h
  have k8 := Nat.le_trans (list_goes A.a (name_goes A.a) _ _).i k9
  have k7 := Nat.le_trans (want_goes A.a _ _).i k8
  have k6 := Nat.le_trans (want_goes A.a _ _).i k7
  have k5 := Nat.le_trans (name_goes A.a _).i k6
  have k4 := Nat.le_trans (want_goes A.a _ _).i k5
  have k3 : (listT L (paramT L) (wantT L (nameT L s).2 [40]) [41]).2.i ≤ K := by
    split at k4
    · exact Nat.le_trans (Nat.le_succ _) (Nat.le_trans (name_goes A.a (listT L (paramT L) (wantT L (nameT L s).2 [40]) [41]).2.go).i k4)
    · exact k4
  have k2 := Nat.le_trans (list_goes A.a (param_goes A.a) _ _).i k3
  have k1 := Nat.le_trans (want_goes A.a _ _).i k2
  have k0 := Nat.le_trans (name_goes A.a _).i k1
  rw [A.name k0, A.want k1, A.list A.param (param_goes A.a) k3, A.is k3, A.cur k0]
  split
  · rename_i hc
    simp only [if_pos hc] at h k4 k5 k6 k7 k8 k9
    rw [A.nameA _ k4, A.want k4, A.name k5, A.want k6, A.want k7, A.list A.nameA (name_goes A.a) k9, A.blockN _ h]
  · rename_i hc
    simp only [if_neg hc] at h k4 k5 k6 k7 k8 k9
    rw [A.want k4, A.name k5, A.want k6, A.want k7, A.list A.nameA (name_goes A.a) k9, A.blockN _ h]
theorem Agr.var (A : Agr L L' K) : OneA K (varT L) (varT L') := by
  intro s h
  unfold varT at h ⊢
  simp only at h ⊢
  have k5 : (takeT L (wantT L (nameT L (wantT L (nameT L s).2 [58])).2 [61]) [45]).i ≤ K := by
    split at h
    · exact Nat.le_trans (fail_goes (L := L) _ _).i h
    · exact Nat.le_trans (Nat.le_succ _) (Nat.le_trans (want_goes A.a (takeT L (wantT L (nameT L (wantT L (nameT L s).2 [58])).2 [61]) [45]).go [59]).i h)
  have k4 := Nat.le_trans (take_goes A.a _ _).i k5
  have k3 := Nat.le_trans (want_goes A.a _ _).i k4
  have k2 := Nat.le_trans (name_goes A.a _).i k3
  have k1 := Nat.le_trans (want_goes A.a _ _).i k2
  have k0 := Nat.le_trans (name_goes A.a _).i k1
  rw [A.name k0, A.want k1, A.name k2, A.want k3, A.take k4, A.cur k5, A.cur k0, A.fail k5, A.is k4]
  split
  · rfl
  · rename_i hc
    rw [if_neg hc] at h
    have k6 := Nat.le_trans (want_goes A.a _ _).i h
    rw [A.want k6]
theorem Agr.impLoop (A : Agr L L' K) : ∀ (q q' : Nat) (s : PS) (acc : List Imp), frT K s < q → frT K s < q' → (impLoop L q s acc).2.i ≤ K → impLoop L' q' s acc = impLoop L q s acc
  | 0, _, _, _, h, _, _ => absurd h (Nat.not_lt_zero _)
  | _ + 1, 0, _, _, _, h, _ => absurd h (Nat.not_lt_zero _)
  | q + 1, q' + 1, s, acc, a1, a2, h4 => by
    have gl : ∀ (q : Nat) (s : PS) (acc : List Imp), Goes L s (Go.Proofs.YtlgfijjkbomejaaGreatDoor.impLoop L q s acc).2 := by
      intro q
      induction q with
      | zero => exact fun s acc => Goes.refl _ _
      | succ q ih =>
        intro s acc
        unfold Go.Proofs.YtlgfijjkbomejaaGreatDoor.impLoop
        simp only
        split
        · rename_i hc
          exact (is_goes A.a hc).trans ((name_goes A.a _).trans ((want_goes A.a _ _).trans (ih _ _)))
        · exact Goes.refl _ _
    have h0 : s.i ≤ K := Nat.le_trans (gl _ _ _).i h4
    unfold Go.Proofs.YtlgfijjkbomejaaGreatDoor.impLoop at h4 ⊢
    simp only at h4 ⊢
    rw [A.is h0]
    split at h4
    · rename_i hc
      rw [if_pos hc, if_pos hc]
      have k3 := Nat.le_trans (gl _ _ _).i h4
      have k2 := Nat.le_trans (want_goes A.a _ _).i k3
      have k1 := Nat.le_trans (name_goes A.a _).i k2
      have hf := fr_go (isT_e hc).1 h0
      have hr := ((name_goes A.a s.go).trans (want_goes A.a (nameT L s.go).2 [59])).fr (K := K)
      rw [A.name k1, A.cur k1, A.want k2]
      exact A.impLoop q q' _ _ (by omega) (by omega) h4
    · rename_i hc
      rw [if_neg hc, if_neg hc]
theorem imp_goes' (hL : TokL L) : ∀ (q : Nat) (s : PS) (acc : List Imp), Goes L s (impLoop L q s acc).2 := by
  intro q
  induction q with
  | zero => exact fun s acc => Goes.refl _ _
  | succ q ih =>
    intro s acc
    unfold impLoop
    simp only
    split
    · rename_i hc
      exact (is_goes hL hc).trans ((name_goes hL _).trans ((want_goes hL _ _).trans (ih _ _)))
    · exact Goes.refl _ _
theorem decl_goes' (hL : TokL L) : ∀ (q : Nat) (s : PS) (vs : List Vrb) (ps : List Prc), Goes L s (declLoop L q s vs ps).2 := by
  intro q
  induction q with
  | zero => exact fun s vs ps => Goes.refl _ _
  | succ q ih =>
    intro s vs ps
    unfold declLoop
    simp only
    split
    · exact Goes.refl _ _
    split
    · rename_i hc
      exact (is_goes hL hc).trans ((var_goes hL _).trans (ih _ _ _))
    split
    · rename_i hc
      exact (is_goes hL hc).trans ((proc_goes hL _).trans (ih _ _ _))
    · exact (fail_goes _ _).trans (ih _ _ _)
theorem Agr.declLoop (A : Agr L L' K) : ∀ (q q' : Nat) (s : PS) (vs : List Vrb) (ps : List Prc), frT K s < q → frT K s < q' → (declLoop L q s vs ps).2.i ≤ K → declLoop L' q' s vs ps = declLoop L q s vs ps
  | 0, _, _, _, _, h, _, _ => absurd h (Nat.not_lt_zero _)
  | _ + 1, 0, _, _, _, _, h, _ => absurd h (Nat.not_lt_zero _)
  | q + 1, q' + 1, s, vs, ps, a1, a2, h4 => by
    have h0 : s.i ≤ K := Nat.le_trans (decl_goes' A.a _ _ _ _).i h4
    unfold Go.Proofs.YtlgfijjkbomejaaGreatDoor.declLoop at h4 ⊢
    simp only at h4 ⊢
    rw [A.cur h0, A.is h0, A.is h0, A.fail h0]
    split at h4
    · rename_i hc
      rw [if_pos hc, if_pos hc]
    rename_i hc
    rw [if_neg hc, if_neg hc]
    have he : s.e = 0 := by
      rw [not_or, Decidable.not_not] at hc
      exact hc.1
    clear hc
    have hf := fr_go he h0
    split at h4
    · rename_i hc
      rw [if_pos hc, if_pos hc]
      have k1 := Nat.le_trans (decl_goes' A.a _ _ _ _).i h4
      have hr := (var_goes A.a s.go).fr (K := K)
      rw [A.var _ k1]
      exact A.declLoop q q' _ _ _ (by omega) (by omega) h4
    rename_i hc
    rw [if_neg hc, if_neg hc]
    clear hc
    split at h4
    · rename_i hc
      rw [if_pos hc, if_pos hc]
      have k1 := Nat.le_trans (decl_goes' A.a _ _ _ _).i h4
      have hr := (proc_goes A.a s.go).fr (K := K)
      rw [A.proc _ k1]
      exact A.declLoop q q' _ _ _ (by omega) (by omega) h4
    · rename_i hc
      rw [if_neg hc, if_neg hc]
      have hr := fr_fail (L := L) (x := 11) (by decide) he h0
      exact A.declLoop q q' _ _ _ (by omega) (by omega) h4
/-- The whole module. -/
theorem Agr.module (A : Agr L L' K) {s : PS} (h : (moduleT L s).2.i ≤ K) : moduleT L' s = moduleT L s := by
  unfold moduleT at h ⊢
  simp only at h ⊢
  have k4 := Nat.le_trans (decl_goes' A.a _ _ _ _).i h
  have k3 := Nat.le_trans (imp_goes' A.a _ _ _).i k4
  have k2 := Nat.le_trans (want_goes A.a _ _).i k3
  have k1 := Nat.le_trans (name_goes A.a _).i k2
  have k0 := Nat.le_trans (want_goes A.a _ _).i k1
  have := A.la
  have := A.lb
  rw [A.want k0, A.name k1, A.cur k1, A.want k2, A.impLoop (L.length + 1) (L'.length + 1) _ _ (by have := fr_lt K (wantT L (nameT L (wantT L s kModule)).2 [59]); omega) (by have := fr_lt K (wantT L (nameT L (wantT L s kModule)).2 [59]); omega) k4]
  rw [A.declLoop (L.length + 1) (L'.length + 1) _ _ _ (by have := fr_lt K (Go.Proofs.YtlgfijjkbomejaaGreatDoor.impLoop L (L.length + 1) (wantT L (nameT L (wantT L s kModule)).2 [59]) []).2; omega) (by have := fr_lt K (Go.Proofs.YtlgfijjkbomejaaGreatDoor.impLoop L (L.length + 1) (wantT L (nameT L (wantT L s kModule)).2 [59]) []).2; omega) h]

end Go.Proofs.YtlgfijjkbomejaaGreatDoor
