/- ParsePlaces, walked over what is asked of the code's lexer and parser. Numbers and types by name. -/
import Derived.Test.YtlofkmoeilikkaaDoorPan
import Derived.Test.YtlofkmoeilikkaaDoorBe4
import Derived.Test.YtlofkmoeilikkaaDoorLxg
import Derived.Test.YtlofkmoeilikkaaDoorPwd
/- Two lists of tokens that are one up to a place: the plain parser that ends there at the latest tells the same. Plain facts. Numbers and types by name. -/
namespace Go.Proofs.YtlofkmoeilikkaaDoor
open Go.RowKit Go.Lib

/-- One up to the token K. -/
structure Agr (L L' : List Tk) (K : Nat) : Prop where
  a : TokL L
  b : TokL L'
  same : ∀ i, i ≤ K → L'.getD i ⟨0, [], 0⟩ = L.getD i ⟨0, [], 0⟩
  la : K < L.length
  lb : K < L'.length
/-- How far it is to there. -/
def frT (K : Nat) (s : PS) : Nat := if s.e ≠ 0 then 0 else K + 1 - s.i
theorem frT_e {K : Nat} {s : PS} (h : s.e = 0) : frT K s = K + 1 - s.i := if_neg (by simpa using h)
theorem frT_err {K : Nat} {s : PS} (h : s.e ≠ 0) : frT K s = 0 := if_pos h
theorem fr_lt (K : Nat) (s : PS) : frT K s < K + 2 := by
  unfold frT
  split <;> omega
variable {L L' : List Tk} {K : Nat}
theorem Goes.fr {s s' : PS} (h : Goes L s s') : frT K s' ≤ frT K s := by
  by_cases he : s'.e = 0
  · by_cases hs : s.e = 0
    · rw [frT_e he, frT_e hs]
      have := h.i
      omega
    · rw [h.err hs]
      exact Nat.le_refl _
  · rw [frT_err he]
    exact Nat.zero_le _
theorem fr_go {s : PS} (he : s.e = 0) (hi : s.i ≤ K) : frT K s.go < frT K s := by
  rw [frT_e he, frT_e (show s.go.e = 0 from he)]
  show K + 1 - (s.i + 1) < _
  omega
theorem fr_fail {s : PS} {x : Int} (hx : x ≠ 0) (he : s.e = 0) (hi : s.i ≤ K) : frT K (failT L s x) < frT K s := by
  rw [frT_err (fail_e hx), frT_e he]
  omega
theorem fr_name {s : PS} (he : s.e = 0) (hi : s.i ≤ K) : frT K (nameT L s).2 < frT K s := by
  unfold nameT
  split
  · exact fr_fail (by decide) he hi
  · exact fr_go he hi
theorem fr_qname (hL : TokL L) {s : PS} (he : s.e = 0) (hi : s.i ≤ K) : frT K (qnameT L s).2 < frT K s := by
  unfold qnameT
  simp only
  split
  · rename_i h
    exact Nat.lt_of_le_of_lt ((is_goes hL h).trans (name_goes hL _)).fr (fr_name he hi)
  · exact fr_name he hi
theorem fr_want {s : PS} {t : List UInt8} (he : s.e = 0) (hi : s.i ≤ K) : frT K (wantT L s t) < frT K s := by
  unfold wantT
  split
  · exact fr_go he hi
  · exact fr_fail (by decide) he hi
theorem fr_open {s : PS} {t : List UInt8} (he : s.e = 0) (hi : s.i ≤ K) : frT K (openT L s t) < frT K s := by
  show frT K (wantT L (if isT L s t = true ∧ 40 ≤ s.deep then failT L s 12 else s) t) < _
  split
  · have h1 : (failT L s 12).e ≠ 0 := fail_e (by decide)
    unfold wantT
    rw [isT_err h1, if_neg (by simp), fail_err h1]
    exact fr_fail (by decide) he hi
  · exact fr_want he hi
theorem fr_stmt (hL : TokL L) (n : Nat) {s : PS} (he : s.e = 0) (hi : s.i ≤ K) : frT K (stmtT L (n + 1) s).2 < frT K s := by
  have g : ∀ {s' : PS}, Goes L s.go s' → frT K s' < frT K s := fun h => Nat.lt_of_le_of_lt h.fr (fr_go he hi)
  unfold stmtT
  simp only
  split
  · exact Nat.lt_of_le_of_lt (end_goes hL (s := (qnameT L s).2) ((want_goes hL _ _).trans (exprN_goes hL _))).fr (fr_qname hL he hi)
  split
  · exact g (end_goes hL (let_goes hL _ _))
  split
  · exact g (end_goes hL (result_goes hL _ _))
  split
  · exact g (end_goes hL (call_goes hL _ _))
  split
  · exact g (end_goes hL (name_goes hL _))
  split
  · exact g (end_goes hL (Goes.refl _ _))
  split
  · have hb := (exprN_goes hL s.go).trans (block_goes hL (stmt_goes hL n) n _)
    split
    · rename_i h2
      exact g (hb.trans ((is_goes hL h2).trans (block_goes hL (stmt_goes hL n) n _)))
    · exact g hb
  split
  · exact g ((exprN_goes hL s.go).trans (block_goes hL (stmt_goes hL n) n _))
  · exact fr_fail (by decide) he hi

theorem Agr.cur (A : Agr L L' K) {s : PS} (h : s.i ≤ K) : curT L' s = curT L s := A.same _ h
theorem Agr.is (A : Agr L L' K) {s : PS} (h : s.i ≤ K) (t : List UInt8) : isT L' s t = isT L s t := by
  unfold isT
  rw [A.cur h]
theorem Agr.fail (A : Agr L L' K) {s : PS} (h : s.i ≤ K) (x : Int) : failT L' s x = failT L s x := by
  unfold failT
  rw [A.cur h]
theorem Agr.want (A : Agr L L' K) {s : PS} (h : s.i ≤ K) (t : List UInt8) : wantT L' s t = wantT L s t := by
  unfold wantT
  rw [A.is h, A.fail h]
theorem Agr.take (A : Agr L L' K) {s : PS} (h : s.i ≤ K) (t : List UInt8) : takeT L' s t = takeT L s t := by
  unfold takeT
  rw [A.is h]
theorem Agr.opn (A : Agr L L' K) {s : PS} (h : s.i ≤ K) (t : List UInt8) : openT L' s t = openT L s t := by
  have h2 : (if isT L s t = true ∧ 40 ≤ s.deep then failT L s 12 else s).i ≤ K := by
    split
    · unfold failT
      split <;> exact h
    · exact h
  unfold openT
  simp only
  rw [A.is h, A.fail h, A.want h2]
theorem Agr.name (A : Agr L L' K) {s : PS} (h : s.i ≤ K) : nameT L' s = nameT L s := by
  unfold nameT
  rw [A.cur h, A.fail h]
theorem Agr.qname (A : Agr L L' K) {s : PS} (h : (qnameT L s).2.i ≤ K) : qnameT L' s = qnameT L s := by
  have h0 : s.i ≤ K := Nat.le_trans (qname_goes A.a s).i h
  unfold qnameT at h ⊢
  simp only at h ⊢
  rw [A.name h0]
  have h1 : (nameT L s).2.i ≤ K := by
    split at h
    · exact Nat.le_trans (Nat.le_succ _) (Nat.le_trans (name_goes A.a (nameT L s).2.go).i h)
    · exact h
  rw [A.is h1]
  split
  · rename_i hq
    rw [if_pos hq] at h
    rw [A.name (Nat.le_trans (name_goes A.a _).i h)]
  · rfl
theorem Agr.which (A : Agr L L' K) {s : PS} (h : s.i ≤ K) : ∀ ops : List (List UInt8 × Int), whichT L' s ops = whichT L s ops
  | [] => rfl
  | (t, k) :: r => by
    unfold whichT
    rw [A.is h, A.which h r]
/-- A piece of an expression tells the same, if it isn't too far. -/
def ExA (_L : List Tk) (K N : Nat) (U U' : EX) : Prop := ∀ s l, frT K s < N → (U s l).2.i ≤ K → U' s l = U s l
theorem Agr.opLoop (A : Agr L L' K) (ops : List (List UInt8 × Int)) {U U' : EX} {N : Nat} (hU : ExA L K N U U') (hG : ∀ s l, Goes L s (U s l).2) : ∀ (q q' : Nat) (s : PS) (l : List Nd), frT K s < q → frT K s < q' → frT K s ≤ N → (opLoop L ops U q s l).2.i ≤ K → opLoop L' ops U' q' s l = opLoop L ops U q s l
  | 0, _, _, _, h, _, _, _ => absurd h (Nat.not_lt_zero _)
  | _ + 1, 0, _, _, _, h, _, _ => absurd h (Nat.not_lt_zero _)
  | q + 1, q' + 1, s, l, h1, h2, h3, h4 => by
    have h0 : s.i ≤ K := Nat.le_trans (opLoop_goes A.a ops hG _ _ _).i h4
    unfold Go.Proofs.YtlofkmoeilikkaaDoor.opLoop at h4 ⊢
    by_cases he : s.e ≠ 0
    · rw [if_pos he, if_pos he]
    · rw [if_neg he] at h4
      rw [if_neg he, if_neg he, A.which h0]
      cases hw : whichT L s ops with
      | none => rfl
      | some k =>
        rw [hw] at h4
        simp only at h4 ⊢
        have he0 : s.e = 0 := by simpa using he
        have hf := fr_go he0 h0
        have hk : (U s.go l).2.i ≤ K := Nat.le_trans (opLoop_goes A.a ops hG _ _ _).i h4
        rw [hU s.go l (by omega) hk, A.cur h0]
        have hr := (hG s.go l).fr (K := K)
        exact A.opLoop ops hU hG q q' _ _ (by omega) (by omega) (by omega) h4
theorem Agr.opT (A : Agr L L' K) (ops : List (List UInt8 × Int)) {U U' : EX} {N : Nat} (hU : ExA L K N U U') (hG : ∀ s l, Goes L s (U s l).2) (q q' : Nat) (hq : N ≤ q) (hq' : N ≤ q') : ExA L K N (opT L ops U q) (opT L' ops U' q') := by
  intro s l h1 h2
  unfold Go.Proofs.YtlofkmoeilikkaaDoor.opT at h2 ⊢
  simp only at h2 ⊢
  have hk : (U s l).2.i ≤ K := Nat.le_trans (opLoop_goes A.a ops hG _ _ _).i h2
  rw [hU s l h1 hk]
  have hr := (hG s l).fr (K := K)
  exact A.opLoop ops hU hG q q' _ _ (by omega) (by omega) (by omega) h2
theorem Agr.expr (A : Agr L L' K) {U U' : EX} {N : Nat} (hU : ExA L K N U U') (hG : ∀ s l, Goes L s (U s l).2) (q q' : Nat) (hq : N ≤ q) (hq' : N ≤ q') : ExA L K N (exprT L U q) (exprT L' U' q') := by
  have hT : ExA L K N (termT L U q) (termT L' U' q') := A.opT mulOps hU hG q q' hq hq'
  have gT : ∀ s l, Goes L s (termT L U q s l).2 := fun s l => opT_goes A.a _ hG q s l
  have hS : ExA L K N (sumT L U q) (sumT L' U' q') := A.opT addOps hT gT q q' hq hq'
  have gS : ∀ s l, Goes L s (sumT L U q s l).2 := fun s l => opT_goes A.a _ gT q s l
  intro s l h1 h2
  unfold exprT at h2 ⊢
  simp only at h2 ⊢
  have hk : (sumT L U q s l).2.i ≤ K := by
    cases hw : whichT L (sumT L U q s l).2 relOps with
    | none => rw [hw] at h2; exact h2
    | some k =>
      rw [hw] at h2
      exact Nat.le_trans (Nat.le_succ _) (Nat.le_trans (gS (sumT L U q s l).2.go (sumT L U q s l).1).i h2)
  rw [hS s l h1 hk, A.which hk]
  cases hw : whichT L (sumT L U q s l).2 relOps with
  | none => rfl
  | some k =>
    rw [hw] at h2
    simp only at h2 ⊢
    obtain ⟨t, ht⟩ := which_is hw
    have hf := fr_go (isT_e ht).1 hk
    have hr := (gS s l).fr (K := K)
    rw [hS _ _ (by omega) h2, A.cur hk]
theorem Agr.unary (A : Agr L L' K) : ∀ (n n' N : Nat), N ≤ n → N ≤ n' → ExA L K N (unaryT L n) (unaryT L' n')
  | 0, _, N, h, _ => fun s l h1 _ => absurd h1 (by omega)
  | _ + 1, 0, N, _, h => fun s l h1 _ => absurd h1 (by omega)
  | n + 1, n' + 1, N, hn, hn' => fun s l h1 h2 => by
    have h0 : s.i ≤ K := Nat.le_trans (unary_goes A.a _ _ _).i h2
    unfold unaryT at h2 ⊢
    simp only at h2 ⊢
    rw [A.cur h0, A.is h0, A.is h0, A.is h0, A.opn h0, A.opn h0, A.fail h0]
    by_cases he : s.e ≠ 0
    · rw [if_pos he, if_pos he]
    rw [if_neg he] at h2 ⊢
    rw [if_neg he]
    have he0 : s.e = 0 := by simpa using he
    split at h2
    · rename_i hc
      rw [if_pos hc, if_pos hc]
      have hf := fr_open (L := L) (t := (curT L s).text) he0 h0
      rw [A.unary n n' (N - 1) (by omega) (by omega) _ l (by omega) h2]
    · rename_i hc
      rw [if_neg hc, if_neg hc]
      split at h2
      · rename_i hc2
        rw [if_pos hc2, if_pos hc2]
        have hf := fr_open (L := L) (t := [40]) he0 h0
        have hk := Nat.le_trans (want_goes A.a _ _).i h2
        rw [A.expr (A.unary n n' (N - 1) (by omega) (by omega)) (unary_goes A.a n) n n' (by omega) (by omega) _ l (by omega) hk, A.want hk]
      · rename_i hc2
        rw [if_neg hc2, if_neg hc2]
        split at h2
        · rename_i hc3
          rw [if_pos hc3, if_pos hc3]
        · rename_i hc3
          rw [if_neg hc3, if_neg hc3]
          split at h2
          · rename_i hc4
            rw [if_pos hc4, if_pos hc4, A.qname h2]
          · rename_i hc4
            rw [if_neg hc4, if_neg hc4]
theorem Agr.exprN (A : Agr L L' K) {s : PS} (h : (exprN L s).2.i ≤ K) : exprN L' s = exprN L s :=
  A.expr (A.unary _ _ (K + 2) (by have := A.la; omega) (by have := A.lb; omega)) (unary_goes A.a _) _ _ (by have := A.la; omega) (by have := A.lb; omega) s [] (fr_lt K s) h

/-- A piece that makes something tells the same. -/
def OneA {α : Type} (K : Nat) (one one' : PS → α × PS) : Prop := ∀ s, (one s).2.i ≤ K → one' s = one s
theorem Agr.nameA (A : Agr L L' K) : OneA K (nameT L) (nameT L') := fun s h => A.name (Nat.le_trans (name_goes A.a s).i h)
theorem Agr.listLoop (A : Agr L L' K) {α : Type} {one one' : PS → α × PS} (h1 : OneA K one one') (hG : ∀ s, Goes L s (one s).2) : ∀ (q q' : Nat) (s : PS) (acc : List α), frT K s < q → frT K s < q' → (listLoop L one q s acc).2.i ≤ K → listLoop L' one' q' s acc = listLoop L one q s acc
  | 0, _, _, _, h, _, _ => absurd h (Nat.not_lt_zero _)
  | _ + 1, 0, _, _, _, h, _ => absurd h (Nat.not_lt_zero _)
  | q + 1, q' + 1, s, acc, a1, a2, h4 => by
    unfold Go.Proofs.YtlofkmoeilikkaaDoor.listLoop at h4 ⊢
    simp only at h4 ⊢
    by_cases he : s.e ≠ 0
    · rw [if_pos he, if_pos he]
    rw [if_neg he] at h4 ⊢
    rw [if_neg he]
    have hk : (one s).2.i ≤ K := by
      split at h4
      · exact Nat.le_trans (Nat.le_succ _) (Nat.le_trans (listLoop_goes A.a hG _ (one s).2.go _).i h4)
      · exact h4
    rw [h1 s hk, A.is hk]
    split at h4
    · rename_i hc
      rw [if_pos hc, if_pos hc]
      have hf := fr_go (isT_e hc).1 hk
      have hr := (hG s).fr (K := K)
      exact A.listLoop h1 hG q q' _ _ (by omega) (by omega) h4
    · rename_i hc
      rw [if_neg hc, if_neg hc]
theorem Agr.list (A : Agr L L' K) {α : Type} {one one' : PS → α × PS} (h1 : OneA K one one') (hG : ∀ s, Goes L s (one s).2) {s : PS} {t : List UInt8} (h : (listT L one s t).2.i ≤ K) : listT L' one' s t = listT L one s t := by
  have h0 : s.i ≤ K := Nat.le_trans (list_goes A.a hG s t).i h
  unfold listT at h ⊢
  simp only at h ⊢
  rw [A.is h0]
  have hk := Nat.le_trans (want_goes A.a _ _).i h
  split at h
  · rename_i hc
    rw [if_pos hc] at hk
    rw [if_pos hc, if_pos hc, A.want hk]
  · rename_i hc
    rw [if_neg hc] at hk
    rw [if_neg hc, if_neg hc, A.listLoop h1 hG (L.length + 1) (L'.length + 1) s [] (by have := fr_lt K s; have := A.la; omega) (by have := fr_lt K s; have := A.lb; omega) hk, A.want hk]
theorem Agr.param (A : Agr L L' K) : OneA K (paramT L) (paramT L') := by
  intro s h
  have k3 : (wantT L (nameT L s).2 [58]).i ≤ K := Nat.le_trans (name_goes A.a _).i h
  have k2 : (nameT L s).2.i ≤ K := Nat.le_trans (want_goes A.a _ _).i k3
  have k1 : s.i ≤ K := Nat.le_trans (name_goes A.a _).i k2
  unfold paramT
  simp only
  rw [A.name k1, A.want k2, A.name k3, A.cur k1]
theorem Agr.exprA (A : Agr L L' K) : OneA K (Go.Proofs.YtlofkmoeilikkaaDoor.exprN L) (Go.Proofs.YtlofkmoeilikkaaDoor.exprN L') := fun _ h => A.exprN h
theorem Agr.call (A : Agr L L' K) {s : PS} {pos : Nat} (h : (callT L s pos).2.i ≤ K) : callT L' s pos = callT L s pos := by
  unfold callT at h ⊢
  simp only at h ⊢
  have k4 := Nat.le_trans (list_goes A.a (exprN_goes A.a) _ _).i h
  have k3 := Nat.le_trans (want_goes A.a _ _).i k4
  have k2 : (qnameT L s).2.i ≤ K := by
    split at k3
    · exact Nat.le_trans (Nat.le_succ _) (Nat.le_trans (qname_goes A.a (qnameT L s).2.go).i k3)
    · exact k3
  rw [A.qname k2, A.is k2]
  split
  · rename_i hc
    rw [if_pos hc] at h k3 k4
    rw [A.qname k3, A.want k3, A.list A.exprA (exprN_goes A.a) h]
  · rename_i hc
    rw [if_neg hc] at h k3 k4
    rw [A.want k3, A.list A.exprA (exprN_goes A.a) h]
theorem Agr.set (A : Agr L L' K) {s : PS} {pos : Nat} (h : (setT L s pos).2.i ≤ K) : setT L' s pos = setT L s pos := by
  unfold setT at h ⊢
  simp only at h ⊢
  have k2 := Nat.le_trans (exprN_goes A.a _).i h
  have k1 := Nat.le_trans (want_goes A.a _ _).i k2
  rw [A.qname k1, A.want k1, A.exprN h]
theorem Agr.let (A : Agr L L' K) {s : PS} {pos : Nat} (h : (letT L s pos).2.i ≤ K) : letT L' s pos = letT L s pos := by
  unfold letT at h ⊢
  simp only at h ⊢
  have k4 := Nat.le_trans (exprN_goes A.a _).i h
  have k3 := Nat.le_trans (want_goes A.a _ _).i k4
  have k2 := Nat.le_trans (name_goes A.a _).i k3
  have k1 := Nat.le_trans (want_goes A.a _ _).i k2
  have k0 := Nat.le_trans (name_goes A.a _).i k1
  rw [A.name k0, A.want k1, A.name k2, A.want k3, A.exprN h]
theorem Agr.result (A : Agr L L' K) {s : PS} {pos : Nat} (h : (resultT L s pos).2.i ≤ K) : resultT L' s pos = resultT L s pos := by
  unfold resultT at h ⊢
  simp only at h ⊢
  have k2 := Nat.le_trans (exprN_goes A.a _).i h
  have k1 := Nat.le_trans (want_goes A.a _ _).i k2
  rw [A.want k1, A.exprN h]
theorem Agr.emit (A : Agr L L' K) {s : PS} {pos : Nat} (h : (emitT L s pos).2.i ≤ K) : emitT L' s pos = emitT L s pos := by
  unfold emitT at h ⊢
  simp only at h ⊢
  rw [A.name (Nat.le_trans (name_goes A.a _).i h)]
theorem Agr.end (A : Agr L L' K) {r r' : SH × PS} (h : (endT L r).2.i ≤ K) (hr : r.2.i ≤ K → r' = r) : endT L' r' = endT L r := by
  unfold endT at h ⊢
  simp only at h ⊢
  have k := Nat.le_trans (want_goes A.a _ _).i h
  rw [hr k, A.want k]
theorem Agr.stmLoop (A : Agr L L' K) {S S' : PS → Stm × PS} {N : Nat} (hS : ∀ s, frT K s < N → (S s).2.i ≤ K → S' s = S s) (hG : ∀ s, Goes L s (S s).2) (hF : ∀ s, s.e = 0 → s.i ≤ K → frT K s < N → frT K (S s).2 < frT K s) : ∀ (q q' : Nat) (s : PS) (acc : List Stm), frT K s < q → frT K s < q' → frT K s < N → (stmLoop L S q s acc).2.i ≤ K → stmLoop L' S' q' s acc = stmLoop L S q s acc
  | 0, _, _, _, h, _, _, _ => absurd h (Nat.not_lt_zero _)
  | _ + 1, 0, _, _, _, h, _, _ => absurd h (Nat.not_lt_zero _)
  | q + 1, q' + 1, s, acc, a1, a2, a3, h4 => by
    have h0 : s.i ≤ K := Nat.le_trans (stmLoop_goes A.a hG _ _ _).i h4
    unfold Go.Proofs.YtlofkmoeilikkaaDoor.stmLoop at h4 ⊢
    simp only at h4 ⊢
    rw [A.is h0]
    split at h4
    · rename_i hc
      rw [if_pos hc, if_pos hc]
    · rename_i hc
      rw [if_neg hc, if_neg hc]
      have he : s.e = 0 := by
        rw [not_or, Decidable.not_not] at hc
        exact hc.1
      have hk : (S s).2.i ≤ K := Nat.le_trans (stmLoop_goes A.a hG _ _ _).i h4
      have hf := hF s he h0 a3
      rw [hS s a3 hk]
      exact A.stmLoop hS hG hF q q' _ _ (by omega) (by omega) (by omega) h4
theorem Agr.block (A : Agr L L' K) {S S' : PS → Stm × PS} {N : Nat} (hS : ∀ s, frT K s < N → (S s).2.i ≤ K → S' s = S s) (hG : ∀ s, Goes L s (S s).2) (hF : ∀ s, s.e = 0 → s.i ≤ K → frT K s < N → frT K (S s).2 < frT K s) (q q' : Nat) (s : PS) (a1 : N ≤ q) (a2 : N ≤ q') (a3 : frT K s < N) (h : (blockT L S q s).2.i ≤ K) : blockT L' S' q' s = blockT L S q s := by
  have h0 : s.i ≤ K := Nat.le_trans (block_goes A.a hG _ _).i h
  unfold blockT at h ⊢
  simp only at h ⊢
  have k1 : (Go.Proofs.YtlofkmoeilikkaaDoor.stmLoop L S q (openT L s [123]) []).2.i ≤ K := Nat.le_trans (want_goes A.a _ [125]).i h
  have hfr : frT K (openT L s [123]) ≤ frT K s := by
    by_cases he : s.e = 0
    · exact Nat.le_of_lt (fr_open he h0)
    · have : (openT L s [123]).e ≠ 0 := by
        have hw : ∀ x, wantT L (if isT L s x = true ∧ 40 ≤ s.deep then failT L s 12 else s) x = s := by
          intro x
          rw [isT_err he, if_neg (by simp)]
          unfold wantT
          rw [isT_err he, if_neg (by simp), fail_err he]
        show (wantT L (if isT L s [123] = true ∧ 40 ≤ s.deep then failT L s 12 else s) [123]).e ≠ 0
        rw [hw]
        exact he
      rw [frT_err this]
      exact Nat.zero_le _
  rw [A.opn h0, A.stmLoop hS hG hF q q' _ _ (by omega) (by omega) (by omega) k1, A.want k1]
theorem Agr.stmt (A : Agr L L' K) : ∀ (n n' : Nat) (s : PS), frT K s < n → frT K s < n' → (stmtT L n s).2.i ≤ K → stmtT L' n' s = stmtT L n s
  | 0, _, _, h, _, _ => absurd h (Nat.not_lt_zero _)
  | _ + 1, 0, _, _, h, _ => absurd h (Nat.not_lt_zero _)
  | n + 1, n' + 1, s, a1, a2, h => by
    have h0 : s.i ≤ K := Nat.le_trans (stmt_goes A.a _ _).i h
    have blk : ∀ (s2 : PS), frT K s2 < frT K s → (blockT L (stmtT L n) n s2).2.i ≤ K → blockT L' (stmtT L' n') n' s2 = blockT L (stmtT L n) n s2 := fun s2 hf hk =>
      A.block (N := frT K s) (fun s3 h3 h4 => A.stmt n n' s3 (by omega) (by omega) h4) (stmt_goes A.a n) (fun s3 he hi hf3 => by
        obtain ⟨n, rfl⟩ : ∃ n2, n = n2 + 1 := ⟨n - 1, by omega⟩
        exact fr_stmt A.a n he hi) n n' s2 (by omega) (by omega) hf hk
    unfold stmtT at h ⊢
    simp only at h ⊢
    rw [A.cur h0, A.is h0, A.is h0, A.is h0, A.is h0, A.is h0, A.is h0, A.is h0, A.fail h0]
    split at h
    · rename_i hc
      rw [if_pos hc, if_pos hc]
      exact A.end h fun k => A.set k
    rename_i hc
    rw [if_neg hc, if_neg hc]
    clear hc
    split at h
    · rename_i hc
      rw [if_pos hc, if_pos hc]
      exact A.end h fun k => A.let k
    rename_i hc
    rw [if_neg hc, if_neg hc]
    clear hc
    split at h
    · rename_i hc
      rw [if_pos hc, if_pos hc]
      exact A.end h fun k => A.result k
    rename_i hc
    rw [if_neg hc, if_neg hc]
    clear hc
    split at h
    · rename_i hc
      rw [if_pos hc, if_pos hc]
      exact A.end h fun k => A.call k
    rename_i hc
    rw [if_neg hc, if_neg hc]
    clear hc
    split at h
    · rename_i hc
      rw [if_pos hc, if_pos hc]
      exact A.end h fun k => A.emit k
    rename_i hc
    rw [if_neg hc, if_neg hc]
    clear hc
    split at h
    · rename_i hc
      rw [if_pos hc, if_pos hc]
      exact A.end h fun _ => rfl
    rename_i hc
    rw [if_neg hc, if_neg hc]
    clear hc
    split at h
    · rename_i hc
      rw [if_pos hc, if_pos hc]
      have hf := fr_go (isT_e hc).1 h0
      have hx := (exprN_goes A.a s.go).fr (K := K)
      have kb : (blockT L (stmtT L n) n (Go.Proofs.YtlofkmoeilikkaaDoor.exprN L s.go).2).2.i ≤ K := by
        split at h
        · exact Nat.le_trans (Nat.le_succ _) (Nat.le_trans (block_goes A.a (stmt_goes A.a n) n (blockT L (stmtT L n) n (Go.Proofs.YtlofkmoeilikkaaDoor.exprN L s.go).2).2.go).i h)
        · exact h
      have kx := Nat.le_trans (block_goes A.a (stmt_goes A.a n) n _).i kb
      rw [A.exprN kx, blk _ (by omega) kb, A.is kb]
      split at h
      · rename_i hd
        rw [if_pos hd, if_pos hd]
        have hg := fr_go (isT_e hd).1 kb
        have hb := (block_goes A.a (stmt_goes A.a n) n (Go.Proofs.YtlofkmoeilikkaaDoor.exprN L s.go).2).fr (K := K)
        rw [blk _ (by omega) h]
      · rename_i hd
        rw [if_neg hd, if_neg hd]
    rename_i hc
    rw [if_neg hc, if_neg hc]
    clear hc
    split at h
    · rename_i hc
      rw [if_pos hc, if_pos hc]
      have hf := fr_go (isT_e hc).1 h0
      have hx := (exprN_goes A.a s.go).fr (K := K)
      have kx := Nat.le_trans (block_goes A.a (stmt_goes A.a n) n _).i h
      rw [A.exprN kx, blk _ (by omega) h]
    · rename_i hc
      rw [if_neg hc, if_neg hc]
theorem Agr.blockN (A : Agr L L' K) : OneA K (blockN L) (blockN L') := by
  intro s h
  have := fr_lt K s
  have := A.la
  have := A.lb
  unfold Go.Proofs.YtlofkmoeilikkaaDoor.blockN at h ⊢
  exact A.block (N := K + 2) (fun s3 h3 h4 => A.stmt _ _ s3 (by omega) (by omega) h4) (stmt_goes A.a _) (fun s3 he hi hf3 => fr_stmt A.a _ he hi) _ _ s (by omega) (by omega) (fr_lt K s) h
theorem Agr.proc (A : Agr L L' K) : OneA K (procT L) (procT L') := by
  intro s h
  unfold procT at h ⊢
  simp only at h ⊢
  have k9 := Nat.le_trans (blockN_goes A.a _).i h
  have k8 := Nat.le_trans (list_goes A.a (name_goes A.a) _ _).i k9
  have k7 := Nat.le_trans (want_goes A.a _ _).i k8
  have k6 := Nat.le_trans (want_goes A.a _ _).i k7
  have k5 := Nat.le_trans (name_goes A.a _).i k6
  have k4 := Nat.le_trans (want_goes A.a _ _).i k5
  have k3 : (listT L (paramT L) (wantT L (nameT L s).2 [40]) [41]).2.i ≤ K := by
    split at k4
    · exact Nat.le_trans (Nat.le_succ _) (Nat.le_trans (name_goes A.a (listT L (paramT L) (wantT L (nameT L s).2 [40]) [41]).2.go).i k4)
    · exact k4
  have k2 := Nat.le_trans (list_goes A.a (param_goes A.a) _ _).i k3
  have k1 := Nat.le_trans (want_goes A.a _ _).i k2
  have k0 := Nat.le_trans (name_goes A.a _).i k1
  rw [A.name k0, A.want k1, A.list A.param (param_goes A.a) k3, A.is k3, A.cur k0]
  split
  · rename_i hc
    simp only [if_pos hc] at h k4 k5 k6 k7 k8 k9
    rw [A.nameA _ k4, A.want k4, A.name k5, A.want k6, A.want k7, A.list A.nameA (name_goes A.a) k9, A.blockN _ h]
  · rename_i hc
    simp only [if_neg hc] at h k4 k5 k6 k7 k8 k9
    rw [A.want k4, A.name k5, A.want k6, A.want k7, A.list A.nameA (name_goes A.a) k9, A.blockN _ h]
theorem Agr.var (A : Agr L L' K) : OneA K (varT L) (varT L') := by
  intro s h
  unfold varT at h ⊢
  simp only at h ⊢
  have k5 : (takeT L (wantT L (nameT L (wantT L (nameT L s).2 [58])).2 [61]) [45]).i ≤ K := by
    split at h
    · exact Nat.le_trans (fail_goes (L := L) _ _).i h
    · exact Nat.le_trans (Nat.le_succ _) (Nat.le_trans (want_goes A.a (takeT L (wantT L (nameT L (wantT L (nameT L s).2 [58])).2 [61]) [45]).go [59]).i h)
  have k4 := Nat.le_trans (take_goes A.a _ _).i k5
  have k3 := Nat.le_trans (want_goes A.a _ _).i k4
  have k2 := Nat.le_trans (name_goes A.a _).i k3
  have k1 := Nat.le_trans (want_goes A.a _ _).i k2
  have k0 := Nat.le_trans (name_goes A.a _).i k1
  rw [A.name k0, A.want k1, A.name k2, A.want k3, A.take k4, A.cur k5, A.cur k0, A.fail k5, A.is k4]
  split
  · rfl
  · rename_i hc
    rw [if_neg hc] at h
    have k6 := Nat.le_trans (want_goes A.a _ _).i h
    rw [A.want k6]
theorem Agr.impLoop (A : Agr L L' K) : ∀ (q q' : Nat) (s : PS) (acc : List Imp), frT K s < q → frT K s < q' → (impLoop L q s acc).2.i ≤ K → impLoop L' q' s acc = impLoop L q s acc
  | 0, _, _, _, h, _, _ => absurd h (Nat.not_lt_zero _)
  | _ + 1, 0, _, _, _, h, _ => absurd h (Nat.not_lt_zero _)
  | q + 1, q' + 1, s, acc, a1, a2, h4 => by
    have gl : ∀ (q : Nat) (s : PS) (acc : List Imp), Goes L s (Go.Proofs.YtlofkmoeilikkaaDoor.impLoop L q s acc).2 := by
      intro q
      induction q with
      | zero => exact fun s acc => Goes.refl _ _
      | succ q ih =>
        intro s acc
        unfold Go.Proofs.YtlofkmoeilikkaaDoor.impLoop
        simp only
        split
        · rename_i hc
          exact (is_goes A.a hc).trans ((name_goes A.a _).trans ((want_goes A.a _ _).trans (ih _ _)))
        · exact Goes.refl _ _
    have h0 : s.i ≤ K := Nat.le_trans (gl _ _ _).i h4
    unfold Go.Proofs.YtlofkmoeilikkaaDoor.impLoop at h4 ⊢
    simp only at h4 ⊢
    rw [A.is h0]
    split at h4
    · rename_i hc
      rw [if_pos hc, if_pos hc]
      have k3 := Nat.le_trans (gl _ _ _).i h4
      have k2 := Nat.le_trans (want_goes A.a _ _).i k3
      have k1 := Nat.le_trans (name_goes A.a _).i k2
      have hf := fr_go (isT_e hc).1 h0
      have hr := ((name_goes A.a s.go).trans (want_goes A.a (nameT L s.go).2 [59])).fr (K := K)
      rw [A.name k1, A.cur k1, A.want k2]
      exact A.impLoop q q' _ _ (by omega) (by omega) h4
    · rename_i hc
      rw [if_neg hc, if_neg hc]
theorem imp_goes' (hL : TokL L) : ∀ (q : Nat) (s : PS) (acc : List Imp), Goes L s (impLoop L q s acc).2 := by
  intro q
  induction q with
  | zero => exact fun s acc => Goes.refl _ _
  | succ q ih =>
    intro s acc
    unfold impLoop
    simp only
    split
    · rename_i hc
      exact (is_goes hL hc).trans ((name_goes hL _).trans ((want_goes hL _ _).trans (ih _ _)))
    · exact Goes.refl _ _
theorem decl_goes' (hL : TokL L) : ∀ (q : Nat) (s : PS) (vs : List Vrb) (ps : List Prc), Goes L s (declLoop L q s vs ps).2 := by
  intro q
  induction q with
  | zero => exact fun s vs ps => Goes.refl _ _
  | succ q ih =>
    intro s vs ps
    unfold declLoop
    simp only
    split
    · exact Goes.refl _ _
    split
    · rename_i hc
      exact (is_goes hL hc).trans ((var_goes hL _).trans (ih _ _ _))
    split
    · rename_i hc
      exact (is_goes hL hc).trans ((proc_goes hL _).trans (ih _ _ _))
    · exact (fail_goes _ _).trans (ih _ _ _)
theorem Agr.declLoop (A : Agr L L' K) : ∀ (q q' : Nat) (s : PS) (vs : List Vrb) (ps : List Prc), frT K s < q → frT K s < q' → (declLoop L q s vs ps).2.i ≤ K → declLoop L' q' s vs ps = declLoop L q s vs ps
  | 0, _, _, _, _, h, _, _ => absurd h (Nat.not_lt_zero _)
  | _ + 1, 0, _, _, _, _, h, _ => absurd h (Nat.not_lt_zero _)
  | q + 1, q' + 1, s, vs, ps, a1, a2, h4 => by
    have h0 : s.i ≤ K := Nat.le_trans (decl_goes' A.a _ _ _ _).i h4
    unfold Go.Proofs.YtlofkmoeilikkaaDoor.declLoop at h4 ⊢
    simp only at h4 ⊢
    rw [A.cur h0, A.is h0, A.is h0, A.fail h0]
    split at h4
    · rename_i hc
      rw [if_pos hc, if_pos hc]
    rename_i hc
    rw [if_neg hc, if_neg hc]
    have he : s.e = 0 := by
      rw [not_or, Decidable.not_not] at hc
      exact hc.1
    clear hc
    have hf := fr_go he h0
    split at h4
    · rename_i hc
      rw [if_pos hc, if_pos hc]
      have k1 := Nat.le_trans (decl_goes' A.a _ _ _ _).i h4
      have hr := (var_goes A.a s.go).fr (K := K)
      rw [A.var _ k1]
      exact A.declLoop q q' _ _ _ (by omega) (by omega) h4
    rename_i hc
    rw [if_neg hc, if_neg hc]
    clear hc
    split at h4
    · rename_i hc
      rw [if_pos hc, if_pos hc]
      have k1 := Nat.le_trans (decl_goes' A.a _ _ _ _).i h4
      have hr := (proc_goes A.a s.go).fr (K := K)
      rw [A.proc _ k1]
      exact A.declLoop q q' _ _ _ (by omega) (by omega) h4
    · rename_i hc
      rw [if_neg hc, if_neg hc]
      have hr := fr_fail (L := L) (x := 11) (by decide) he h0
      exact A.declLoop q q' _ _ _ (by omega) (by omega) h4
/-- The whole module. -/
theorem Agr.module (A : Agr L L' K) {s : PS} (h : (moduleT L s).2.i ≤ K) : moduleT L' s = moduleT L s := by
  unfold moduleT at h ⊢
  simp only at h ⊢
  have k4 := Nat.le_trans (decl_goes' A.a _ _ _ _).i h
  have k3 := Nat.le_trans (imp_goes' A.a _ _ _).i k4
  have k2 := Nat.le_trans (want_goes A.a _ _).i k3
  have k1 := Nat.le_trans (name_goes A.a _).i k2
  have k0 := Nat.le_trans (want_goes A.a _ _).i k1
  have := A.la
  have := A.lb
  rw [A.want k0, A.name k1, A.cur k1, A.want k2, A.impLoop (L.length + 1) (L'.length + 1) _ _ (by have := fr_lt K (wantT L (nameT L (wantT L s kModule)).2 [59]); omega) (by have := fr_lt K (wantT L (nameT L (wantT L s kModule)).2 [59]); omega) k4]
  rw [A.declLoop (L.length + 1) (L'.length + 1) _ _ _ (by have := fr_lt K (Go.Proofs.YtlofkmoeilikkaaDoor.impLoop L (L.length + 1) (wantT L (nameT L (wantT L s kModule)).2 [59]) []).2; omega) (by have := fr_lt K (Go.Proofs.YtlofkmoeilikkaaDoor.impLoop L (L.length + 1) (wantT L (nameT L (wantT L s kModule)).2 [59]) []).2; omega) h]

end Go.Proofs.YtlofkmoeilikkaaDoor

/- A text cut behind a token, with a blank and another text behind it: what the lexer and the parser tell of it. Plain facts. Numbers and types by name. -/
namespace Go.Proofs.YtlofkmoeilikkaaDoor
open Go.RowKit Go.Lib
set_option maxRecDepth 100000

theorem runL_cut {p : UInt8 → Bool} (hp : p 32 = false) (b : List UInt8) : ∀ (r : List UInt8) (m : Nat), runL p r ≤ m → runL p (r.take m ++ 32 :: b) = runL p r
  | [], m, _ => by
    rw [List.take_nil, List.nil_append]
    unfold runL
    rw [List.takeWhile_cons, hp]
    rfl
  | x :: r, m, h => by
    cases hx : p x with
    | true =>
      have e : runL p (x :: r) = runL p r + 1 := by
        unfold runL
        rw [List.takeWhile_cons, hx]
        rfl
      obtain ⟨m, rfl⟩ : ∃ m2, m = m2 + 1 := ⟨m - 1, by omega⟩
      have e2 : runL p ((x :: r).take (m + 1) ++ 32 :: b) = runL p (r.take m ++ 32 :: b) + 1 := by
        rw [List.take_succ_cons, List.cons_append]
        unfold runL
        rw [List.takeWhile_cons, hx]
        rfl
      rw [e, e2, runL_cut hp b r m (by omega)]
    | false =>
      have e : runL p (x :: r) = 0 := by
        unfold runL
        rw [List.takeWhile_cons, hx]
        rfl
      rw [e]
      cases m with
      | zero =>
        rw [List.take_zero, List.nil_append]
        unfold runL
        rw [List.takeWhile_cons, hp]
        rfl
      | succ m =>
        rw [List.take_succ_cons, List.cons_append]
        unfold runL
        rw [List.takeWhile_cons, hx]
        rfl
theorem runL_in (p : UInt8 → Bool) (X : List UInt8) : ∀ (r : List UInt8) (m : Nat), runL p r < m → m ≤ r.length → runL p (r.take m ++ X) = runL p r
  | [], m, h, h2 => by
    simp only [List.length_nil] at h2
    omega
  | x :: r, m, h, h2 => by
    simp only [List.length_cons] at h2
    obtain ⟨m, rfl⟩ : ∃ m2, m = m2 + 1 := ⟨m - 1, by omega⟩
    rw [List.take_succ_cons, List.cons_append]
    cases hx : p x with
    | true =>
      have e : ∀ l, runL p (x :: l) = runL p l + 1 := fun l => by
        unfold runL
        rw [List.takeWhile_cons, hx]
        rfl
      rw [e] at h
      rw [e, e, runL_in p X r m (by omega) (by omega)]
    | false =>
      have e : ∀ l, runL p (x :: l) = 0 := fun l => by
        unfold runL
        rw [List.takeWhile_cons, hx]
        rfl
      rw [e, e]
theorem stepL_cut {c : UInt8} {r : List UInt8} {k : Int} {n m : Nat} (b : List UInt8) (hs : stepL (c :: r) = .tok k n) (hm : n ≤ m + 1) : stepL (c :: (r.take m ++ 32 :: b)) = .tok k n := by
  have h2 := runL_le isWrd r
  have h3 := runL_le isDig r
  change stepC c r = _ at hs
  show stepC c (r.take m ++ 32 :: b) = _
  unfold stepC at hs ⊢
  split at hs
  · cases hs
  rename_i c1
  split at hs
  · cases hs
  rename_i c2
  rw [if_neg c1, if_neg c2]
  split at hs
  · rename_i c3
    rw [if_pos c3]
    split at hs
    · cases hs
    rename_i c4
    simp only [LStep.tok.injEq] at hs
    obtain ⟨hk, rfl⟩ := hs
    have e1 := runL_cut (p := isWrd) rfl b r m (by omega)
    have e2 : (c :: (r.take m ++ 32 :: b)).take (1 + runL isWrd r) = (c :: r).take (1 + runL isWrd r) := by
      rw [Nat.add_comm, List.take_succ_cons, List.take_succ_cons, List.take_append_of_le_length (by rw [List.length_take]; omega), List.take_take, Nat.min_eq_left (by omega)]
    rw [e1, if_neg c4, e2, hk]
  rename_i c3
  rw [if_neg c3]
  split at hs
  · rename_i c4
    rw [if_pos c4]
    split at hs
    · cases hs
    rename_i c5
    split at hs
    · cases hs
    rename_i c6
    simp only [LStep.tok.injEq] at hs
    obtain ⟨hk, rfl⟩ := hs
    have e1 := runL_cut (p := isDig) rfl b r m (by omega)
    have e2 : afterL ((r.take m ++ 32 :: b).drop (runL isDig r)) = false := by
      rw [List.drop_append_of_le_length (by rw [List.length_take]; omega)]
      rw [not_or] at c6
      have c7 := c6.2
      rw [Bool.not_eq_true] at c7
      rw [List.drop_take]
      cases hd : r.drop (runL isDig r) with
      | nil => rw [List.take_nil]; rfl
      | cons x l =>
        rw [hd] at c7
        cases m - runL isDig r with
        | zero => rfl
        | succ q =>
          rw [List.take_succ_cons]
          exact c7
    rw [e1, if_neg c5, if_neg (by rw [e2]; rw [not_or] at c6; exact fun h => h.elim c6.1 (by simp)), hk]
  rename_i c4
  rw [if_neg c4]
  split at hs
  · cases hs
  rename_i c5
  simp only [LStep.tok.injEq] at hs
  obtain ⟨hk, hn⟩ := hs
  have t2 : twoL c 32 = false := by
    unfold twoL
    simp
  have e : signL (c :: (r.take m ++ 32 :: b)) = signL (c :: r) := by
    cases r with
    | nil =>
      rw [List.take_nil, List.nil_append]
      show (if twoL c 32 = true then 2 else if oneL c = true then 1 else 0) = if oneL c = true then 1 else 0
      rw [t2]
      rfl
    | cons d r =>
      cases m with
      | zero =>
        rw [List.take_zero, List.nil_append]
        show (if twoL c 32 = true then 2 else if oneL c = true then 1 else 0) = if twoL c d = true then 2 else if oneL c = true then 1 else 0
        have htf : twoL c d = false := by
          cases ht : twoL c d with
          | false => rfl
          | true =>
            have : signL (c :: d :: r) = 2 := by
              show (if twoL c d = true then 2 else if oneL c = true then 1 else 0) = 2
              rw [if_pos ht]
            omega
        rw [t2, htf]
      | succ m => rfl
  rw [e, if_neg c5, hk, hn]
theorem stepL_past {c : UInt8} {r : List UInt8} {n m : Nat} (X : List UInt8) (hs : stepL (c :: r) = .skip n) (hm : n ≤ m) (hl : m ≤ r.length) : stepL (c :: (r.take m ++ X)) = .skip n := by
  change stepC c r = _ at hs
  show stepC c (r.take m ++ X) = _
  unfold stepC at hs ⊢
  split at hs
  · rename_i c1
    rw [if_pos c1, hs]
  rename_i c1
  rw [if_neg c1]
  split at hs
  · rename_i c2
    rw [if_pos c2]
    simp only [LStep.skip.injEq] at hs
    rw [runL_in _ X r m (by omega) hl, hs]
  · rename_i c2
    exfalso
    split at hs
    · split at hs <;> cases hs
    split at hs
    · split at hs
      · cases hs
      split at hs <;> cases hs
    split at hs <;> cases hs

/-- Cut behind a token. -/
theorem lexA_cut (b : List UInt8) : ∀ (k i : Nat) (r : List UInt8) (j : Nat) (t : Tk), r.length ≤ k → (lexA i r).e = 0 → (lexA i r).l[j]? = some t → j + 1 < (lexA i r).l.length →
    i ≤ t.pos ∧ 0 < t.text.length ∧ t.pos - i + t.text.length ≤ r.length ∧ lexA i (r.take (t.pos - i + t.text.length) ++ 32 :: b) = appL ((lexA i r).l.take (j + 1)) (lexA (t.pos + t.text.length + 1) b)
  | _, i, [], j, t, _, _, _, hl => by
    rw [lexA_nil] at hl
    simp at hl
  | 0, _, c :: r, _, _, h, _, _, _ => by simp at h
  | k + 1, i, c :: r, j, t, h, h0, ht, hl => by
    simp only [List.length_cons] at h
    cases hs : stepL (c :: r) with
    | skip n =>
      have hn := (stepL_n (c := c) (r := r)).1 n hs
      rw [lexA_skip hs] at h0 ht hl ⊢
      obtain ⟨a1, a0, a2, a3⟩ := lexA_cut b k (i + n) ((c :: r).drop n) j t (by simp only [List.length_drop, List.length_cons]; omega) h0 ht hl
      rw [List.length_drop, List.length_cons] at a2
      refine ⟨by omega, a0, by rw [List.length_cons]; omega, ?_⟩
      obtain ⟨m, hm⟩ : ∃ m, t.pos - i + t.text.length = m + 1 := ⟨t.pos - i + t.text.length - 1, by omega⟩
      have hp := stepL_past (m := m) (32 :: b) hs (by omega) (by omega)
      rw [hm, List.take_succ_cons, List.cons_append, lexA_skip hp]
      have e : (c :: (r.take m ++ 32 :: b)).drop n = ((c :: r).drop n).take (t.pos - (i + n) + t.text.length) ++ 32 :: b := by
        rw [← List.cons_append, ← List.take_succ_cons, List.drop_append_of_le_length (by rw [List.length_take, List.length_cons]; omega), List.drop_take]
        congr 2
        omega
      rw [e]
      exact a3
    | tok x n =>
      have hn := (stepL_n (c := c) (r := r)).2 x n hs
      rw [lexA_tok hs] at h0 ht hl ⊢
      have h0' : (lexA (i + n) ((c :: r).drop n)).e = 0 := h0
      have el : (consL ⟨x, (c :: r).take n, i⟩ (lexA (i + n) ((c :: r).drop n))).l = ⟨x, (c :: r).take n, i⟩ :: (lexA (i + n) ((c :: r).drop n)).l := by
        unfold consL
        simp only
        rw [if_pos h0']
      rw [el] at ht hl ⊢
      cases j with
      | zero =>
        simp only [List.getElem?_cons_zero, Option.some.injEq] at ht
        subst ht
        have etl : ((c :: r).take n).length = n := by
          rw [List.length_take, List.length_cons]
          omega
        refine ⟨Nat.le_refl _, by show 0 < ((c :: r).take n).length; omega, by show i - i + ((c :: r).take n).length ≤ _; rw [etl, List.length_cons]; omega, ?_⟩
        show lexA i ((c :: r).take (i - i + ((c :: r).take n).length) ++ 32 :: b) = appL [_] (lexA (i + ((c :: r).take n).length + 1) b)
        rw [etl, Nat.sub_self, Nat.zero_add]
        obtain ⟨m, rfl⟩ : ∃ m, n = m + 1 := ⟨n - 1, by omega⟩
        have hp := stepL_cut b hs (Nat.le_refl _)
        rw [List.take_succ_cons, List.cons_append, lexA_tok hp]
        have e1 : (c :: (r.take m ++ 32 :: b)).take (m + 1) = c :: r.take m := by
          rw [List.take_succ_cons, List.take_append_of_le_length (by rw [List.length_take]; omega), List.take_take, Nat.min_self]
        have e2 : (c :: (r.take m ++ 32 :: b)).drop (m + 1) = 32 :: b := by
          rw [List.drop_succ_cons, List.drop_left' (by rw [List.length_take]; omega)]
        rw [e1, e2, lexA_skip (n := 1) rfl]
        have := consL_appL ⟨x, c :: r.take m, i⟩ [] (lexA (i + (m + 1) + 1) b)
        rw [appL_nil] at this
        exact this
      | succ j =>
        rw [List.getElem?_cons_succ] at ht
        rw [List.length_cons] at hl
        obtain ⟨a1, a0, a2, a3⟩ := lexA_cut b k (i + n) ((c :: r).drop n) j t (by simp only [List.length_drop, List.length_cons]; omega) h0' ht (by omega)
        rw [List.length_drop, List.length_cons] at a2
        refine ⟨by omega, a0, by rw [List.length_cons]; omega, ?_⟩
        obtain ⟨m, hm⟩ : ∃ m, t.pos - i + t.text.length = m + 1 := ⟨t.pos - i + t.text.length - 1, by omega⟩
        have hp := stepL_cut (m := m) b hs (by omega)
        rw [hm, List.take_succ_cons, List.cons_append, lexA_tok hp]
        have e : (c :: (r.take m ++ 32 :: b)).drop n = ((c :: r).drop n).take (t.pos - (i + n) + t.text.length) ++ 32 :: b := by
          rw [← List.cons_append, ← List.take_succ_cons, List.drop_append_of_le_length (by rw [List.length_take, List.length_cons]; omega), List.drop_take]
          congr 2
          omega
        have e1 : (c :: (r.take m ++ 32 :: b)).take n = (c :: r).take n := by
          rw [← List.cons_append, ← List.take_succ_cons, List.take_append_of_le_length (by rw [List.length_take, List.length_cons]; omega), List.take_take, Nat.min_eq_left (by omega)]
        rw [e, e1, a3, consL_appL, List.take_succ_cons]
    | bad e =>
      rw [lexA_bad hs] at h0
      have h0' : e = 0 := h0
      rcases stepL_bad hs with rfl | rfl <;> cases h0'

theorem module_goes {L : List Tk} (hL : TokL L) (s : PS) : Goes L s (moduleT L s).2 :=
  (want_goes hL _ _).trans ((name_goes hL _).trans ((want_goes hL _ _).trans ((imp_goes' hL _ _ _).trans (decl_goes' hL _ _ _ _))))

theorem parseP_err {a : List UInt8} (h : (lexP a).e = 0) (he : (parseP a).2.1 ≠ 0) : (moduleT (lexP a).l ps0).2.e ≠ 0 ∧ parseP a = (mdl0, (moduleT (lexP a).l ps0).2.e, (moduleT (lexP a).l ps0).2.pos) := by
  by_cases h2 : (moduleT (lexP a).l ps0).2.e ≠ 0
  · refine ⟨h2, ?_⟩
    unfold parseP
    rw [if_neg (by rw [h]; simp)]
    simp only
    rw [if_pos h2]
  · exfalso
    apply he
    unfold parseP
    rw [if_neg (by rw [h]; simp)]
    simp only
    rw [if_neg h2]
/-- An error's place is a token's. -/
theorem places_at {a : List UInt8} (h : (lexP a).e = 0) (he : (parseP a).2.1 ≠ 0) : (moduleT (lexP a).l ps0).2.i < (lexP a).l.length ∧ ∀ t, (lexP a).l[(moduleT (lexP a).l ps0).2.i]? = some t → t.pos = (parseP a).2.2 := by
  obtain ⟨h2, h3⟩ := parseP_err h he
  have hL := (lexP_tokL h).1
  have g := module_goes hL ps0
  have hi := g.lt hL.pos
  refine ⟨hi, fun t ht => ?_⟩
  have hp := g.at_ (fun h => absurd rfl h) h2
  rw [h3]
  show t.pos = (moduleT (lexP a).l ps0).2.pos
  rw [hp]
  show _ = ((lexP a).l.getD _ ⟨0, [], 0⟩).pos
  rw [List.getD_eq_getElem?_getD, ht]
  rfl
/-- What stands behind the token changes neither. -/
theorem places_same {a b : List UInt8} (ha : a.length ≤ 1000) (hb : b.length ≤ 1000) (h1 : (lexP a).e = 0) (h2 : (lexP b).e = 0) (he : (parseP a).2.1 ≠ 0) {k : Nat} {t : Tk} (ht : (lexP a).l[k]? = some t) (hk : k + 1 < (lexP a).l.length) (hr : (moduleT (lexP a).l ps0).2.i ≤ k) :
    t.pos + t.text.length ≤ a.length ∧ (parseP (a.take (t.pos + t.text.length) ++ 32 :: b)).2 = (parseP a).2 := by
  have sm : ∀ {l : List UInt8}, l.length ≤ 8192 → lexP l = lexA 0 l := fun h => if_neg (by omega)
  obtain ⟨e2, e3⟩ := parseP_err h1 he
  rw [sm (by omega)] at h2
  have h1' := h1
  have ht' := ht
  have hk' := hk
  rw [sm (by omega)] at h1' ht' hk'
  obtain ⟨_, _, c2, c3⟩ := lexA_cut b _ 0 a k t (Nat.le_refl _) h1' ht' hk'
  rw [Nat.sub_zero] at c2 c3
  refine ⟨c2, ?_⟩
  obtain ⟨s1, s2⟩ := lexA_shift (t.pos + t.text.length + 1) _ 0 b (Nat.le_refl _)
  rw [Nat.zero_add] at s1 s2
  have s3 := s2.trans h2
  have hl : lexP (a.take (t.pos + t.text.length) ++ 32 :: b) = appL ((lexA 0 a).l.take (k + 1)) (lexA (t.pos + t.text.length + 1) b) := by
    rw [sm (by rw [List.length_append, List.length_take, List.length_cons]; omega), c3]
  have he0 : (lexP (a.take (t.pos + t.text.length) ++ 32 :: b)).e = 0 := by
    rw [hl]
    exact s3
  have hll : (lexP (a.take (t.pos + t.text.length) ++ 32 :: b)).l = (lexP a).l.take (k + 1) ++ (lexA (t.pos + t.text.length + 1) b).l := by
    rw [hl, sm (by omega)]
    unfold appL
    rw [if_pos s3]
  have hlen : 0 < (lexA (t.pos + t.text.length + 1) b).l.length := List.length_pos_iff.2 ((lexA_l _ (t.pos + t.text.length + 1) b (Nat.le_refl _)).1 s3).1
  have A : Agr (lexP a).l (lexP (a.take (t.pos + t.text.length) ++ 32 :: b)).l k := by
    refine ⟨(lexP_tokL h1).1, (lexP_tokL he0).1, fun i hi => ?_, by omega, ?_⟩
    · rw [hll, List.getD_eq_getElem?_getD, List.getD_eq_getElem?_getD, List.getElem?_append_left (by rw [List.length_take]; omega), List.getElem?_take, if_pos (by omega)]
    · rw [hll, List.length_append, List.length_take]
      omega
  have hm := A.module (s := ps0) hr
  have hp : parseP (a.take (t.pos + t.text.length) ++ 32 :: b) = (mdl0, (moduleT (lexP a).l ps0).2.e, (moduleT (lexP a).l ps0).2.pos) := by
    unfold parseP
    rw [if_neg (by rw [he0]; simp)]
    simp only
    rw [hm, if_pos e2]
  rw [hp, e3]

end Go.Proofs.YtlofkmoeilikkaaDoor

namespace Go.Proofs.YtlofkmoeilikkaaDoor
open Go.RowKit Go.Lib
set_option maxRecDepth 100000

/-- The last token at the place, ahead of the i-th. -/
def KInv (L : List Tk) (y i : Nat) (kk : Int) : Prop :=
  (kk = -1 ∧ ∀ j, j < i → ∀ t, L[j]? = some t → t.pos ≠ y) ∨ ∃ k : Nat, kk = k ∧ k < i ∧ ∃ t, L[k]? = some t ∧ t.pos = y ∧ ∀ j, k < j → j < i → ∀ t, L[j]? = some t → t.pos ≠ y
theorem KInv.step {L : List Tk} {y i : Nat} {kk : Int} {o : Tk} (h : KInv L y i kk) (ho : L[i]? = some o) (hp : ¬ o.pos = y) : KInv L y (i + 1) kk := by
  have one : ∀ j, j < i + 1 → ∀ t, L[j]? = some t → j < i ∨ t.pos ≠ y := fun j hj t ht => by
    by_cases h : j < i
    · exact .inl h
    · obtain rfl : j = i := by omega
      rw [ho] at ht
      cases ht
      exact .inr hp
  rcases h with ⟨h1, h2⟩ | ⟨k, h1, h2, t, h3, h4, h5⟩
  · exact .inl ⟨h1, fun j hj t ht => (one j hj t ht).elim (fun h => h2 j h t ht) id⟩
  · exact .inr ⟨k, h1, by omega, t, h3, h4, fun j h6 hj t ht => (one j hj t ht).elim (fun h => h5 j h6 h t ht) id⟩
set_option maxHeartbeats 16000000 in
theorem places_walk (K : ParseK) (KL : LexK) (a b : List UInt8) (w : World) (ht : SgW w) : Calls Tryd.prog 4 #[.string (tx a), .string (tx b)] w fun e w' => e = .returned (.bool true) ∧ Below w.heap.size w w' := by
  have HK := Lib.hid (And.intro K KL)
  have HT := Lib.hid ht
  have z1 := tx_size a
  have z2 := tx_size b
  by_cases hA : 1000 < a.length
  · have y1 : (1000 : Int) < (a.length : Int) := by omega
    clear K KL ht
    go_enter Tryd.func4, Tryd.ntmps4
    go_wp2_with (first | (go_at_call 12; refine (lnum_at _ _).mono ?_; rintro e w' ⟨rfl, rfl⟩) | (go_at_call 9; refine (awake_par HK.out.1 _ HT.out).mono ?_; rintro e w' ⟨rfl, hb9⟩; have H9 := Lib.hid (hb9); clear hb9))
    go_ret
    exact ⟨rfl, H9.out⟩
  have y1 : ¬ (1000 : Int) < (a.length : Int) := by omega
  by_cases hB : 1000 < b.length
  · have y2 : (1000 : Int) < (b.length : Int) := by omega
    clear K KL ht
    go_enter Tryd.func4, Tryd.ntmps4
    go_wp2_with (first | (go_at_call 12; refine (lnum_at _ _).mono ?_; rintro e w' ⟨rfl, rfl⟩) | (go_at_call 9; refine (awake_par HK.out.1 _ HT.out).mono ?_; rintro e w' ⟨rfl, hb9⟩; have H9 := Lib.hid (hb9); clear hb9))
    go_ret
    exact ⟨rfl, H9.out⟩
  have y2 : ¬ (1000 : Int) < (b.length : Int) := by omega
  have P1 := K.mod a w ht
  have F1 := fun (h1 : (lexP a).e = 0) (he : (parseP a).2.1 ≠ 0) => places_at h1 he
  have F2 := fun (h1 : (lexP a).e = 0) (h2 : (lexP b).e = 0) (he : (parseP a).2.1 ≠ 0) (k : Nat) (t : Tk) (ht : (lexP a).l[k]? = some t) (hk : k + 1 < (lexP a).l.length) (hr : (moduleT (lexP a).l ps0).2.i ≤ k) => places_same (by omega) (by omega) h1 h2 he ht hk hr
  have PA := fun (w : World) (h : SgW w) => KL.lex a w h
  have PB := fun (w : World) (h : SgW w) => KL.lex b w h
  generalize (moduleT (lexP a).l ps0).2.i = ri at *
  generalize lexP a = RA at *
  generalize lexP b = RB at *
  obtain ⟨L, xa, pa⟩ := RA
  obtain ⟨Lb, xb, pb⟩ := RB
  obtain ⟨RP, hRP⟩ : ∃ R, parseP a = R := ⟨_, rfl⟩
  rw [hRP] at P1
  try simp only [hRP] at F1
  try rw [hRP] at F2
  try simp only [hRP] at F2
  obtain ⟨md, x, y⟩ := RP
  obtain ⟨nm, mp, mi, mv, mq⟩ := md
  try simp only at F1
  try simp only at F2
  have HFX := Lib.hid (And.intro F1 F2)
  have HP := Lib.hid (And.intro PA PB)
  clear K KL ht F1 F2 hRP PA PB
  go_enter Tryd.func4, Tryd.ntmps4
  go_wp2_with fail
  refine P1.mono ?_
  rintro e w1 ⟨vI, vV, vP, rfl, hv, hb1⟩
  obtain ⟨⟨aI, nI, cI, rfl⟩, ⟨aV, nV, cV, rfl⟩, ⟨aP, nP, cP, rfl⟩⟩ := modV_shapes hv
  have hb2 := hb1.alloc hb1.size (.cells #[.string (tx nm), .int .i64 (mp : Int), .slice aI nI cI, .slice aV nV cV, .slice aP nP cP] 27)
  obtain ⟨w2, hw2⟩ : ∃ w2, w1.alloc (.cells #[.string (tx nm), .int .i64 (mp : Int), .slice aI nI cI, .slice aV nV cV, .slice aP nP cP] 27) = w2 := ⟨_, rfl⟩
  rw [hw2] at hb2
  have H2 := Lib.hid hb2
  clear hv hb1 hb2 P1
  go_wp2_with fail
  clear hw2
  refine (HP.out.1 w2 (HT.out.later H2.out)).mono ?_
  rintro e w3 ⟨ao, n, c, rfl, hT, hb3⟩
  have H3 := Lib.hid (H2.out.trans (hb3.mono H2.out.size))
  have HR3 := Lib.hid hT
  clear hT hb3 H2
  go_wp2_with fail
  refine (HP.out.2 w3 (HT.out.later H3.out)).mono ?_
  rintro e W ⟨aob, nb, cb, rfl, hTb, hb4⟩
  have H6 := Lib.hid (H3.out.trans (hb4.mono H3.out.size))
  have HR := Lib.hid (HR3.out.later hb4)
  clear hTb hb4 H3 HR3 HP
  try simp only at HR
  by_cases hxa : xa = 0
  case neg =>
    clear HFX
    go_wp2_with (first | (go_at_call 12; refine (lnum_at _ _).mono ?_; rintro e w' ⟨rfl, rfl⟩) | (go_at_call 9; refine (awake_par HK.out.1 _ (HT.out.later H6.out)).mono ?_; rintro e w' ⟨rfl, hb9⟩; have H9 := Lib.hid (H6.out.trans (hb9.mono H6.out.size)); clear hb9))
    go_ret
    exact ⟨rfl, H9.out⟩
  subst hxa
  by_cases hxb : xb = 0
  case neg =>
    clear HFX
    go_wp2_with (first | (go_at_call 12; refine (lnum_at _ _).mono ?_; rintro e w' ⟨rfl, rfl⟩) | (go_at_call 9; refine (awake_par HK.out.1 _ (HT.out.later H6.out)).mono ?_; rintro e w' ⟨rfl, hb9⟩; have H9 := Lib.hid (H6.out.trans (hb9.mono H6.out.size)); clear hb9))
    go_ret
    exact ⟨rfl, H9.out⟩
  subst hxb
  by_cases hx11 : x = 11
  · subst hx11
    have HF : Hid ((ri < L.length ∧ ∀ t, L[ri]? = some t → t.pos = y) ∧ ∀ k t, L[k]? = some t → k + 1 < L.length → ri ≤ k → t.pos + t.text.length ≤ a.length ∧ (parseP (a.take (t.pos + t.text.length) ++ 32 :: b)).2 = (11, y)) := Lib.hid ⟨HFX.out.1 rfl (by decide), HFX.out.2 rfl rfl (by decide)⟩
    clear HFX
    go_wp2_with (first | (go_at_call 12; refine (lnum_at _ _).mono ?_; rintro e w' ⟨rfl, rfl⟩))
    go_loopw [14, 15] (fun u v wr => ∃ i : Nat, i ≤ n ∧ v = .int .i64 i ∧ W = wr ∧ ∃ kk : Int, u = .int .i64 kk ∧ Hid (KInv L y i kk))
      (fun _ v _ => n - (RowKit.intOf v).toNat)
    case atStart => exact ⟨0, Nat.zero_le _, rfl, rfl, -1, rfl, Lib.hid (.inl ⟨rfl, fun j hj => absurd hj (Nat.not_lt_zero _)⟩)⟩
    case round =>
      obtain ⟨i, hi, rfl, rfl, kk, rfl, hK⟩ := hrel
      have hn5 : n ≤ 100000 := HR.out.2.1
      by_cases hlt : i < n
      · have h3 : (i : Int) < (n : Int) := by omega
        obtain ⟨a1, o, rfl, ho, c0, c1, c2⟩ := HR.out.at hlt
        by_cases hp : o.pos = y
        · have y9 : (o.pos : Int) = (y : Int) := by omega
          have H8 : Hid (KInv L y (i + 1) i) := Lib.hid (.inr ⟨i, rfl, Nat.lt_succ_self i, o, ho, hp, fun j h1 h2 => absurd h2 (by omega)⟩)
          clear ho hp c0 c1
          go_wp2_with fail
          exact ⟨⟨i + 1, by omega, by go_num, by first | rfl | trivial, i, rfl, H8⟩, by simp [RowKit.intOf]; omega⟩
        · have y9 : ¬ (o.pos : Int) = (y : Int) := by omega
          have H8 : Hid (KInv L y (i + 1) kk) := Lib.hid (hK.out.step ho hp)
          clear ho hp c0 c1
          go_wp2_with fail
          exact ⟨⟨i + 1, by omega, by go_num, by first | rfl | trivial, kk, rfl, H8⟩, by simp [RowKit.intOf]; omega⟩
      · have h3 : ¬ (i : Int) < (n : Int) := by omega
        obtain rfl : i = n := by omega
        obtain ⟨k, rfl, hki, o, ho, hop, hlast⟩ : ∃ k : Nat, kk = k ∧ k < i ∧ ∃ o, L[k]? = some o ∧ o.pos = y ∧ ri ≤ k := by
          obtain ⟨f1, f2⟩ := HF.out.1
          have hin : i = L.length := HR.out.1
          obtain ⟨t, ht⟩ : ∃ t, L[ri]? = some t := ⟨_, List.getElem?_eq_getElem f1⟩
          have hpt := f2 t ht
          rcases hK.out with ⟨_, h⟩ | ⟨k, rfl, h1, o, h2, h4, h5⟩
          · exact absurd hpt (h ri (by omega) t ht)
          · refine ⟨k, rfl, h1, o, h2, h4, ?_⟩
            by_cases hq : ri ≤ k
            · exact hq
            · exact absurd hpt (h5 ri (by omega) (by omega) t ht)
        have hk0 : ¬ (k : Int) < 0 := by omega
        by_cases hend : k + 1 = i
        · have y7 : (k : Int) = (i : Int) - 1 := by omega
          have hi5 : i ≤ 100000 := HR.out.2.1
          clear ho hop hlast hK
          go_wp2_with (first | (go_at_call 12; refine (lnum_at _ _).mono ?_; rintro e w' ⟨rfl, rfl⟩) | (go_at_call 9; refine (awake_par HK.out.1 _ (HT.out.later H6.out)).mono ?_; rintro e w' ⟨rfl, hb9⟩; have H9 := Lib.hid (H6.out.trans (hb9.mono H6.out.size)); clear hb9))
          go_ret
          exact ⟨rfl, H9.out⟩
        · have y7 : ¬ (k : Int) = (i : Int) - 1 := by omega
          have hi5 : i ≤ 100000 := HR.out.2.1
          obtain ⟨g1, g2⟩ := HF.out.2 k o ho (by have : i = L.length := HR.out.1; omega) hlast
          obtain ⟨a1, o2, rfl, ho2, c0, c1, c2⟩ := HR.out.at hki
          rw [ho] at ho2
          cases ho2
          obtain ⟨kd, tt, py⟩ := o
          simp only at hop g1 g2 c0 c1 c2
          subst hop
          have zt := tx_size tt
          have s1 : ∀ w, Sem.run Tryd.prog (Instr.slice 9 (.string (tx a)) none (some (.int .i64 ((py : Int) + (tt.length : Int)))) none) w = .ok (.string (tx (a.take (py + tt.length)))) w := fun w => slice_tx0 g1 rfl (by omega) w
          have t1 : tx (a.take (py + tt.length)) ++ ⟨#[32]⟩ ++ tx b = tx (a.take (py + tt.length) ++ 32 :: b) := by
            rw [show (⟨#[32]⟩ : ByteArray) = tx [32] from rfl, tx_cat, tx_cat]
            simp
          have P2 := HK.out.1.mod (a.take (py + tt.length) ++ 32 :: b) W (HT.out.later H6.out)
          have zq : (tx (a.take (py + tt.length))).size = py + tt.length := by rw [tx_size, List.length_take]; omega
          have hpy : py + tt.length ≤ 1000 := by omega
          generalize a.take (py + tt.length) = A at *
          generalize parseP (A ++ 32 :: b) = R2 at *
          obtain ⟨md2, x2, y2⟩ := R2
          simp only [Prod.mk.injEq] at g2
          obtain ⟨rfl, rfl⟩ := g2
          obtain ⟨nm2, mp2, mi2, mv2, mq2⟩ := md2
          clear ho hK c0 hlast
          go_wp2_with fail
          refine P2.mono ?_
          rintro e w5 ⟨vI2, vV2, vP2, rfl, hv2, hb5⟩
          obtain ⟨⟨aI2, nI2, cI2, rfl⟩, ⟨aV2, nV2, cV2, rfl⟩, ⟨aP2, nP2, cP2, rfl⟩⟩ := modV_shapes hv2
          have hb6 := hb5.alloc hb5.size (.cells #[.string (tx nm2), .int .i64 (mp2 : Int), .slice aI2 nI2 cI2, .slice aV2 nV2 cV2, .slice aP2 nP2 cP2] 27)
          have H7 := Lib.hid (H6.out.trans (hb6.mono H6.out.size))
          clear hv2 hb5 hb6 P2 s1 t1 c1 c2 zt zq z1 z2
          obtain ⟨w6, hw6⟩ : ∃ w6, w5.alloc (.cells #[.string (tx nm2), .int .i64 (mp2 : Int), .slice aI2 nI2 cI2, .slice aV2 nV2 cV2, .slice aP2 nP2 cP2] 27) = w6 := ⟨_, rfl⟩
          rw [hw6] at H7
          go_wp2_with (first | (go_at_call 12; refine (lnum_at _ _).mono ?_; rintro e w' ⟨rfl, rfl⟩) | (go_at_call 9; refine (awake_par HK.out.1 _ (HT.out.later H7.out)).mono ?_; rintro e w' ⟨rfl, hb9⟩; have H9 := Lib.hid (H7.out.trans (hb9.mono H7.out.size)); clear hb9))
          go_ret
          exact ⟨rfl, H9.out⟩
  by_cases hx12 : x = 12
  · subst hx12
    have HF : Hid ((ri < L.length ∧ ∀ t, L[ri]? = some t → t.pos = y) ∧ ∀ k t, L[k]? = some t → k + 1 < L.length → ri ≤ k → t.pos + t.text.length ≤ a.length ∧ (parseP (a.take (t.pos + t.text.length) ++ 32 :: b)).2 = (12, y)) := Lib.hid ⟨HFX.out.1 rfl (by decide), HFX.out.2 rfl rfl (by decide)⟩
    clear HFX
    go_wp2_with (first | (go_at_call 12; refine (lnum_at _ _).mono ?_; rintro e w' ⟨rfl, rfl⟩))
    go_loopw [14, 15] (fun u v wr => ∃ i : Nat, i ≤ n ∧ v = .int .i64 i ∧ W = wr ∧ ∃ kk : Int, u = .int .i64 kk ∧ Hid (KInv L y i kk))
      (fun _ v _ => n - (RowKit.intOf v).toNat)
    case atStart => exact ⟨0, Nat.zero_le _, rfl, rfl, -1, rfl, Lib.hid (.inl ⟨rfl, fun j hj => absurd hj (Nat.not_lt_zero _)⟩)⟩
    case round =>
      obtain ⟨i, hi, rfl, rfl, kk, rfl, hK⟩ := hrel
      have hn5 : n ≤ 100000 := HR.out.2.1
      by_cases hlt : i < n
      · have h3 : (i : Int) < (n : Int) := by omega
        obtain ⟨a1, o, rfl, ho, c0, c1, c2⟩ := HR.out.at hlt
        by_cases hp : o.pos = y
        · have y9 : (o.pos : Int) = (y : Int) := by omega
          have H8 : Hid (KInv L y (i + 1) i) := Lib.hid (.inr ⟨i, rfl, Nat.lt_succ_self i, o, ho, hp, fun j h1 h2 => absurd h2 (by omega)⟩)
          clear ho hp c0 c1
          go_wp2_with fail
          exact ⟨⟨i + 1, by omega, by go_num, by first | rfl | trivial, i, rfl, H8⟩, by simp [RowKit.intOf]; omega⟩
        · have y9 : ¬ (o.pos : Int) = (y : Int) := by omega
          have H8 : Hid (KInv L y (i + 1) kk) := Lib.hid (hK.out.step ho hp)
          clear ho hp c0 c1
          go_wp2_with fail
          exact ⟨⟨i + 1, by omega, by go_num, by first | rfl | trivial, kk, rfl, H8⟩, by simp [RowKit.intOf]; omega⟩
      · have h3 : ¬ (i : Int) < (n : Int) := by omega
        obtain rfl : i = n := by omega
        obtain ⟨k, rfl, hki, o, ho, hop, hlast⟩ : ∃ k : Nat, kk = k ∧ k < i ∧ ∃ o, L[k]? = some o ∧ o.pos = y ∧ ri ≤ k := by
          obtain ⟨f1, f2⟩ := HF.out.1
          have hin : i = L.length := HR.out.1
          obtain ⟨t, ht⟩ : ∃ t, L[ri]? = some t := ⟨_, List.getElem?_eq_getElem f1⟩
          have hpt := f2 t ht
          rcases hK.out with ⟨_, h⟩ | ⟨k, rfl, h1, o, h2, h4, h5⟩
          · exact absurd hpt (h ri (by omega) t ht)
          · refine ⟨k, rfl, h1, o, h2, h4, ?_⟩
            by_cases hq : ri ≤ k
            · exact hq
            · exact absurd hpt (h5 ri (by omega) (by omega) t ht)
        have hk0 : ¬ (k : Int) < 0 := by omega
        by_cases hend : k + 1 = i
        · have y7 : (k : Int) = (i : Int) - 1 := by omega
          have hi5 : i ≤ 100000 := HR.out.2.1
          clear ho hop hlast hK
          go_wp2_with (first | (go_at_call 12; refine (lnum_at _ _).mono ?_; rintro e w' ⟨rfl, rfl⟩) | (go_at_call 9; refine (awake_par HK.out.1 _ (HT.out.later H6.out)).mono ?_; rintro e w' ⟨rfl, hb9⟩; have H9 := Lib.hid (H6.out.trans (hb9.mono H6.out.size)); clear hb9))
          go_ret
          exact ⟨rfl, H9.out⟩
        · have y7 : ¬ (k : Int) = (i : Int) - 1 := by omega
          have hi5 : i ≤ 100000 := HR.out.2.1
          obtain ⟨g1, g2⟩ := HF.out.2 k o ho (by have : i = L.length := HR.out.1; omega) hlast
          obtain ⟨a1, o2, rfl, ho2, c0, c1, c2⟩ := HR.out.at hki
          rw [ho] at ho2
          cases ho2
          obtain ⟨kd, tt, py⟩ := o
          simp only at hop g1 g2 c0 c1 c2
          subst hop
          have zt := tx_size tt
          have s1 : ∀ w, Sem.run Tryd.prog (Instr.slice 9 (.string (tx a)) none (some (.int .i64 ((py : Int) + (tt.length : Int)))) none) w = .ok (.string (tx (a.take (py + tt.length)))) w := fun w => slice_tx0 g1 rfl (by omega) w
          have t1 : tx (a.take (py + tt.length)) ++ ⟨#[32]⟩ ++ tx b = tx (a.take (py + tt.length) ++ 32 :: b) := by
            rw [show (⟨#[32]⟩ : ByteArray) = tx [32] from rfl, tx_cat, tx_cat]
            simp
          have P2 := HK.out.1.mod (a.take (py + tt.length) ++ 32 :: b) W (HT.out.later H6.out)
          have zq : (tx (a.take (py + tt.length))).size = py + tt.length := by rw [tx_size, List.length_take]; omega
          have hpy : py + tt.length ≤ 1000 := by omega
          generalize a.take (py + tt.length) = A at *
          generalize parseP (A ++ 32 :: b) = R2 at *
          obtain ⟨md2, x2, y2⟩ := R2
          simp only [Prod.mk.injEq] at g2
          obtain ⟨rfl, rfl⟩ := g2
          obtain ⟨nm2, mp2, mi2, mv2, mq2⟩ := md2
          clear ho hK c0 hlast
          go_wp2_with fail
          refine P2.mono ?_
          rintro e w5 ⟨vI2, vV2, vP2, rfl, hv2, hb5⟩
          obtain ⟨⟨aI2, nI2, cI2, rfl⟩, ⟨aV2, nV2, cV2, rfl⟩, ⟨aP2, nP2, cP2, rfl⟩⟩ := modV_shapes hv2
          have hb6 := hb5.alloc hb5.size (.cells #[.string (tx nm2), .int .i64 (mp2 : Int), .slice aI2 nI2 cI2, .slice aV2 nV2 cV2, .slice aP2 nP2 cP2] 27)
          have H7 := Lib.hid (H6.out.trans (hb6.mono H6.out.size))
          clear hv2 hb5 hb6 P2 s1 t1 c1 c2 zt zq z1 z2
          obtain ⟨w6, hw6⟩ : ∃ w6, w5.alloc (.cells #[.string (tx nm2), .int .i64 (mp2 : Int), .slice aI2 nI2 cI2, .slice aV2 nV2 cV2, .slice aP2 nP2 cP2] 27) = w6 := ⟨_, rfl⟩
          rw [hw6] at H7
          go_wp2_with (first | (go_at_call 12; refine (lnum_at _ _).mono ?_; rintro e w' ⟨rfl, rfl⟩) | (go_at_call 9; refine (awake_par HK.out.1 _ (HT.out.later H7.out)).mono ?_; rintro e w' ⟨rfl, hb9⟩; have H9 := Lib.hid (H7.out.trans (hb9.mono H7.out.size)); clear hb9))
          go_ret
          exact ⟨rfl, H9.out⟩
  · have y11 : (x != 11) = true := by simpa using hx11
    have y12 : (x != 12) = true := by simpa using hx12
    clear HFX
    go_wp2_with (first | (go_at_call 12; refine (lnum_at _ _).mono ?_; rintro e w' ⟨rfl, rfl⟩) | (go_at_call 9; refine (awake_par HK.out.1 _ (HT.out.later H6.out)).mono ?_; rintro e w' ⟨rfl, hb9⟩; have H9 := Lib.hid (H6.out.trans (hb9.mono H6.out.size)); clear hb9))
    go_ret
    exact ⟨rfl, H9.out⟩

theorem places_S (K : ParseK) (KL : LexK) (a b : ByteArray) (w : World) (ht : SgW w) : Calls Tryd.prog 4 #[.string a, .string b] w fun e w' => e = .returned (.bool true) ∧ Below w.heap.size w w' :=
  places_walk K KL a.data.toList b.data.toList w ht

end Go.Proofs.YtlofkmoeilikkaaDoor
