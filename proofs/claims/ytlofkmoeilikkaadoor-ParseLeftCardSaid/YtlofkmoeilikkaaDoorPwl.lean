/- ParseLeft, walked over what is asked of the code's parser. Numbers and types by name. -/
import Derived.Test.YtlofkmoeilikkaaDoorPan
import Derived.Test.YtlofkmoeilikkaaDoorBe4
import Derived.Test.YtlofkmoeilikkaaDoorLxg
import Derived.Test.YtlofkmoeilikkaaDoorPwd
import Derived.Test.YtlofkmoeilikkaaDoorDig
import Derived.Test.YtlofkmoeilikkaaDoorPaz
/- Two lists of tokens that are one up to a place: the plain parser that ends there at the latest tells the same. Plain facts. Numbers and types by name. -/
namespace Go.Proofs.YtlofkmoeilikkaaDoor
open Go.RowKit Go.Lib

/-- One up to the token K. -/
structure Agr (L L' : List Tk) (K : Nat) : Prop where
  a : TokL L
  b : TokL L'
  same : ∀ i, i ≤ K → L'.getD i ⟨0, [], 0⟩ = L.getD i ⟨0, [], 0⟩
  la : K < L.length
  lb : K < L'.length
/-- How far it is to there. -/
def frT (K : Nat) (s : PS) : Nat := if s.e ≠ 0 then 0 else K + 1 - s.i
theorem frT_e {K : Nat} {s : PS} (h : s.e = 0) : frT K s = K + 1 - s.i := if_neg (by simpa using h)
theorem frT_err {K : Nat} {s : PS} (h : s.e ≠ 0) : frT K s = 0 := if_pos h
theorem fr_lt (K : Nat) (s : PS) : frT K s < K + 2 := by
  unfold frT
  split <;> omega
variable {L L' : List Tk} {K : Nat}
theorem Goes.fr {s s' : PS} (h : Goes L s s') : frT K s' ≤ frT K s := by
  by_cases he : s'.e = 0
  · by_cases hs : s.e = 0
    · rw [frT_e he, frT_e hs]
      have := h.i
      omega
    · rw [h.err hs]
      exact Nat.le_refl _
  · rw [frT_err he]
    exact Nat.zero_le _
theorem fr_go {s : PS} (he : s.e = 0) (hi : s.i ≤ K) : frT K s.go < frT K s := by
  rw [frT_e he, frT_e (show s.go.e = 0 from he)]
  show K + 1 - (s.i + 1) < _
  omega
theorem fr_fail {s : PS} {x : Int} (hx : x ≠ 0) (he : s.e = 0) (hi : s.i ≤ K) : frT K (failT L s x) < frT K s := by
  rw [frT_err (fail_e hx), frT_e he]
  omega
theorem fr_name {s : PS} (he : s.e = 0) (hi : s.i ≤ K) : frT K (nameT L s).2 < frT K s := by
  unfold nameT
  split
  · exact fr_fail (by decide) he hi
  · exact fr_go he hi
theorem fr_qname (hL : TokL L) {s : PS} (he : s.e = 0) (hi : s.i ≤ K) : frT K (qnameT L s).2 < frT K s := by
  unfold qnameT
  simp only
  split
  · rename_i h
    exact Nat.lt_of_le_of_lt ((is_goes hL h).trans (name_goes hL _)).fr (fr_name he hi)
  · exact fr_name he hi
theorem fr_want {s : PS} {t : List UInt8} (he : s.e = 0) (hi : s.i ≤ K) : frT K (wantT L s t) < frT K s := by
  unfold wantT
  split
  · exact fr_go he hi
  · exact fr_fail (by decide) he hi
theorem fr_open {s : PS} {t : List UInt8} (he : s.e = 0) (hi : s.i ≤ K) : frT K (openT L s t) < frT K s := by
  show frT K (wantT L (if isT L s t = true ∧ 40 ≤ s.deep then failT L s 12 else s) t) < _
  split
  · have h1 : (failT L s 12).e ≠ 0 := fail_e (by decide)
    unfold wantT
    rw [isT_err h1, if_neg (by simp), fail_err h1]
    exact fr_fail (by decide) he hi
  · exact fr_want he hi
theorem fr_stmt (hL : TokL L) (n : Nat) {s : PS} (he : s.e = 0) (hi : s.i ≤ K) : frT K (stmtT L (n + 1) s).2 < frT K s := by
  have g : ∀ {s' : PS}, Goes L s.go s' → frT K s' < frT K s := fun h => Nat.lt_of_le_of_lt h.fr (fr_go he hi)
  unfold stmtT
  simp only
  split
  · exact Nat.lt_of_le_of_lt (end_goes hL (s := (qnameT L s).2) ((want_goes hL _ _).trans (exprN_goes hL _))).fr (fr_qname hL he hi)
  split
  · exact g (end_goes hL (let_goes hL _ _))
  split
  · exact g (end_goes hL (result_goes hL _ _))
  split
  · exact g (end_goes hL (call_goes hL _ _))
  split
  · exact g (end_goes hL (name_goes hL _))
  split
  · exact g (end_goes hL (Goes.refl _ _))
  split
  · have hb := (exprN_goes hL s.go).trans (block_goes hL (stmt_goes hL n) n _)
    split
    · rename_i h2
      exact g (hb.trans ((is_goes hL h2).trans (block_goes hL (stmt_goes hL n) n _)))
    · exact g hb
  split
  · exact g ((exprN_goes hL s.go).trans (block_goes hL (stmt_goes hL n) n _))
  · exact fr_fail (by decide) he hi

theorem Agr.cur (A : Agr L L' K) {s : PS} (h : s.i ≤ K) : curT L' s = curT L s := A.same _ h
theorem Agr.is (A : Agr L L' K) {s : PS} (h : s.i ≤ K) (t : List UInt8) : isT L' s t = isT L s t := by
  unfold isT
  rw [A.cur h]
theorem Agr.fail (A : Agr L L' K) {s : PS} (h : s.i ≤ K) (x : Int) : failT L' s x = failT L s x := by
  unfold failT
  rw [A.cur h]
theorem Agr.want (A : Agr L L' K) {s : PS} (h : s.i ≤ K) (t : List UInt8) : wantT L' s t = wantT L s t := by
  unfold wantT
  rw [A.is h, A.fail h]
theorem Agr.take (A : Agr L L' K) {s : PS} (h : s.i ≤ K) (t : List UInt8) : takeT L' s t = takeT L s t := by
  unfold takeT
  rw [A.is h]
theorem Agr.opn (A : Agr L L' K) {s : PS} (h : s.i ≤ K) (t : List UInt8) : openT L' s t = openT L s t := by
  have h2 : (if isT L s t = true ∧ 40 ≤ s.deep then failT L s 12 else s).i ≤ K := by
    split
    · unfold failT
      split <;> exact h
    · exact h
  unfold openT
  simp only
  rw [A.is h, A.fail h, A.want h2]
theorem Agr.name (A : Agr L L' K) {s : PS} (h : s.i ≤ K) : nameT L' s = nameT L s := by
  unfold nameT
  rw [A.cur h, A.fail h]
theorem Agr.qname (A : Agr L L' K) {s : PS} (h : (qnameT L s).2.i ≤ K) : qnameT L' s = qnameT L s := by
  have h0 : s.i ≤ K := Nat.le_trans (qname_goes A.a s).i h
  unfold qnameT at h ⊢
  simp only at h ⊢
  rw [A.name h0]
  have h1 : (nameT L s).2.i ≤ K := by
    split at h
    · exact Nat.le_trans (Nat.le_succ _) (Nat.le_trans (name_goes A.a (nameT L s).2.go).i h)
    · exact h
  rw [A.is h1]
  split
  · rename_i hq
    rw [if_pos hq] at h
    rw [A.name (Nat.le_trans (name_goes A.a _).i h)]
  · rfl
theorem Agr.which (A : Agr L L' K) {s : PS} (h : s.i ≤ K) : ∀ ops : List (List UInt8 × Int), whichT L' s ops = whichT L s ops
  | [] => rfl
  | (t, k) :: r => by
    unfold whichT
    rw [A.is h, A.which h r]
/-- A piece of an expression tells the same, if it isn't too far. -/
def ExA (_L : List Tk) (K N : Nat) (U U' : EX) : Prop := ∀ s l, frT K s < N → (U s l).2.i ≤ K → U' s l = U s l
theorem Agr.opLoop (A : Agr L L' K) (ops : List (List UInt8 × Int)) {U U' : EX} {N : Nat} (hU : ExA L K N U U') (hG : ∀ s l, Goes L s (U s l).2) : ∀ (q q' : Nat) (s : PS) (l : List Nd), frT K s < q → frT K s < q' → frT K s ≤ N → (opLoop L ops U q s l).2.i ≤ K → opLoop L' ops U' q' s l = opLoop L ops U q s l
  | 0, _, _, _, h, _, _, _ => absurd h (Nat.not_lt_zero _)
  | _ + 1, 0, _, _, _, h, _, _ => absurd h (Nat.not_lt_zero _)
  | q + 1, q' + 1, s, l, h1, h2, h3, h4 => by
    have h0 : s.i ≤ K := Nat.le_trans (opLoop_goes A.a ops hG _ _ _).i h4
    unfold Go.Proofs.YtlofkmoeilikkaaDoor.opLoop at h4 ⊢
    by_cases he : s.e ≠ 0
    · rw [if_pos he, if_pos he]
    · rw [if_neg he] at h4
      rw [if_neg he, if_neg he, A.which h0]
      cases hw : whichT L s ops with
      | none => rfl
      | some k =>
        rw [hw] at h4
        simp only at h4 ⊢
        have he0 : s.e = 0 := by simpa using he
        have hf := fr_go he0 h0
        have hk : (U s.go l).2.i ≤ K := Nat.le_trans (opLoop_goes A.a ops hG _ _ _).i h4
        rw [hU s.go l (by omega) hk, A.cur h0]
        have hr := (hG s.go l).fr (K := K)
        exact A.opLoop ops hU hG q q' _ _ (by omega) (by omega) (by omega) h4
theorem Agr.opT (A : Agr L L' K) (ops : List (List UInt8 × Int)) {U U' : EX} {N : Nat} (hU : ExA L K N U U') (hG : ∀ s l, Goes L s (U s l).2) (q q' : Nat) (hq : N ≤ q) (hq' : N ≤ q') : ExA L K N (opT L ops U q) (opT L' ops U' q') := by
  intro s l h1 h2
  unfold Go.Proofs.YtlofkmoeilikkaaDoor.opT at h2 ⊢
  simp only at h2 ⊢
  have hk : (U s l).2.i ≤ K := Nat.le_trans (opLoop_goes A.a ops hG _ _ _).i h2
  rw [hU s l h1 hk]
  have hr := (hG s l).fr (K := K)
  exact A.opLoop ops hU hG q q' _ _ (by omega) (by omega) (by omega) h2
theorem Agr.expr (A : Agr L L' K) {U U' : EX} {N : Nat} (hU : ExA L K N U U') (hG : ∀ s l, Goes L s (U s l).2) (q q' : Nat) (hq : N ≤ q) (hq' : N ≤ q') : ExA L K N (exprT L U q) (exprT L' U' q') := by
  have hT : ExA L K N (termT L U q) (termT L' U' q') := A.opT mulOps hU hG q q' hq hq'
  have gT : ∀ s l, Goes L s (termT L U q s l).2 := fun s l => opT_goes A.a _ hG q s l
  have hS : ExA L K N (sumT L U q) (sumT L' U' q') := A.opT addOps hT gT q q' hq hq'
  have gS : ∀ s l, Goes L s (sumT L U q s l).2 := fun s l => opT_goes A.a _ gT q s l
  intro s l h1 h2
  unfold exprT at h2 ⊢
  simp only at h2 ⊢
  have hk : (sumT L U q s l).2.i ≤ K := by
    cases hw : whichT L (sumT L U q s l).2 relOps with
    | none => rw [hw] at h2; exact h2
    | some k =>
      rw [hw] at h2
      exact Nat.le_trans (Nat.le_succ _) (Nat.le_trans (gS (sumT L U q s l).2.go (sumT L U q s l).1).i h2)
  rw [hS s l h1 hk, A.which hk]
  cases hw : whichT L (sumT L U q s l).2 relOps with
  | none => rfl
  | some k =>
    rw [hw] at h2
    simp only at h2 ⊢
    obtain ⟨t, ht⟩ := which_is hw
    have hf := fr_go (isT_e ht).1 hk
    have hr := (gS s l).fr (K := K)
    rw [hS _ _ (by omega) h2, A.cur hk]
theorem Agr.unary (A : Agr L L' K) : ∀ (n n' N : Nat), N ≤ n → N ≤ n' → ExA L K N (unaryT L n) (unaryT L' n')
  | 0, _, N, h, _ => fun s l h1 _ => absurd h1 (by omega)
  | _ + 1, 0, N, _, h => fun s l h1 _ => absurd h1 (by omega)
  | n + 1, n' + 1, N, hn, hn' => fun s l h1 h2 => by
    have h0 : s.i ≤ K := Nat.le_trans (unary_goes A.a _ _ _).i h2
    unfold unaryT at h2 ⊢
    simp only at h2 ⊢
    rw [A.cur h0, A.is h0, A.is h0, A.is h0, A.opn h0, A.opn h0, A.fail h0]
    by_cases he : s.e ≠ 0
    · rw [if_pos he, if_pos he]
    rw [if_neg he] at h2 ⊢
    rw [if_neg he]
    have he0 : s.e = 0 := by simpa using he
    split at h2
    · rename_i hc
      rw [if_pos hc, if_pos hc]
      have hf := fr_open (L := L) (t := (curT L s).text) he0 h0
      rw [A.unary n n' (N - 1) (by omega) (by omega) _ l (by omega) h2]
    · rename_i hc
      rw [if_neg hc, if_neg hc]
      split at h2
      · rename_i hc2
        rw [if_pos hc2, if_pos hc2]
        have hf := fr_open (L := L) (t := [40]) he0 h0
        have hk := Nat.le_trans (want_goes A.a _ _).i h2
        rw [A.expr (A.unary n n' (N - 1) (by omega) (by omega)) (unary_goes A.a n) n n' (by omega) (by omega) _ l (by omega) hk, A.want hk]
      · rename_i hc2
        rw [if_neg hc2, if_neg hc2]
        split at h2
        · rename_i hc3
          rw [if_pos hc3, if_pos hc3]
        · rename_i hc3
          rw [if_neg hc3, if_neg hc3]
          split at h2
          · rename_i hc4
            rw [if_pos hc4, if_pos hc4, A.qname h2]
          · rename_i hc4
            rw [if_neg hc4, if_neg hc4]
theorem Agr.exprN (A : Agr L L' K) {s : PS} (h : (exprN L s).2.i ≤ K) : exprN L' s = exprN L s :=
  A.expr (A.unary _ _ (K + 2) (by have := A.la; omega) (by have := A.lb; omega)) (unary_goes A.a _) _ _ (by have := A.la; omega) (by have := A.lb; omega) s [] (fr_lt K s) h

/-- A piece that makes something tells the same. -/
def OneA {α : Type} (K : Nat) (one one' : PS → α × PS) : Prop := ∀ s, (one s).2.i ≤ K → one' s = one s
theorem Agr.nameA (A : Agr L L' K) : OneA K (nameT L) (nameT L') := fun s h => A.name (Nat.le_trans (name_goes A.a s).i h)
theorem Agr.listLoop (A : Agr L L' K) {α : Type} {one one' : PS → α × PS} (h1 : OneA K one one') (hG : ∀ s, Goes L s (one s).2) : ∀ (q q' : Nat) (s : PS) (acc : List α), frT K s < q → frT K s < q' → (listLoop L one q s acc).2.i ≤ K → listLoop L' one' q' s acc = listLoop L one q s acc
  | 0, _, _, _, h, _, _ => absurd h (Nat.not_lt_zero _)
  | _ + 1, 0, _, _, _, h, _ => absurd h (Nat.not_lt_zero _)
  | q + 1, q' + 1, s, acc, a1, a2, h4 => by
    unfold Go.Proofs.YtlofkmoeilikkaaDoor.listLoop at h4 ⊢
    simp only at h4 ⊢
    by_cases he : s.e ≠ 0
    · rw [if_pos he, if_pos he]
    rw [if_neg he] at h4 ⊢
    rw [if_neg he]
    have hk : (one s).2.i ≤ K := by
      split at h4
      · exact Nat.le_trans (Nat.le_succ _) (Nat.le_trans (listLoop_goes A.a hG _ (one s).2.go _).i h4)
      · exact h4
    rw [h1 s hk, A.is hk]
    split at h4
    · rename_i hc
      rw [if_pos hc, if_pos hc]
      have hf := fr_go (isT_e hc).1 hk
      have hr := (hG s).fr (K := K)
      exact A.listLoop h1 hG q q' _ _ (by omega) (by omega) h4
    · rename_i hc
      rw [if_neg hc, if_neg hc]
theorem Agr.list (A : Agr L L' K) {α : Type} {one one' : PS → α × PS} (h1 : OneA K one one') (hG : ∀ s, Goes L s (one s).2) {s : PS} {t : List UInt8} (h : (listT L one s t).2.i ≤ K) : listT L' one' s t = listT L one s t := by
  have h0 : s.i ≤ K := Nat.le_trans (list_goes A.a hG s t).i h
  unfold listT at h ⊢
  simp only at h ⊢
  rw [A.is h0]
  have hk := Nat.le_trans (want_goes A.a _ _).i h
  split at h
  · rename_i hc
    rw [if_pos hc] at hk
    rw [if_pos hc, if_pos hc, A.want hk]
  · rename_i hc
    rw [if_neg hc] at hk
    rw [if_neg hc, if_neg hc, A.listLoop h1 hG (L.length + 1) (L'.length + 1) s [] (by have := fr_lt K s; have := A.la; omega) (by have := fr_lt K s; have := A.lb; omega) hk, A.want hk]
theorem Agr.param (A : Agr L L' K) : OneA K (paramT L) (paramT L') := by
  intro s h
  have k3 : (wantT L (nameT L s).2 [58]).i ≤ K := Nat.le_trans (name_goes A.a _).i h
  have k2 : (nameT L s).2.i ≤ K := Nat.le_trans (want_goes A.a _ _).i k3
  have k1 : s.i ≤ K := Nat.le_trans (name_goes A.a _).i k2
  unfold paramT
  simp only
  rw [A.name k1, A.want k2, A.name k3, A.cur k1]
theorem Agr.exprA (A : Agr L L' K) : OneA K (Go.Proofs.YtlofkmoeilikkaaDoor.exprN L) (Go.Proofs.YtlofkmoeilikkaaDoor.exprN L') := fun _ h => A.exprN h
theorem Agr.call (A : Agr L L' K) {s : PS} {pos : Nat} (h : (callT L s pos).2.i ≤ K) : callT L' s pos = callT L s pos := by
  unfold callT at h ⊢
  simp only at h ⊢
  have k4 := Nat.le_trans (list_goes A.a (exprN_goes A.a) _ _).i h
  have k3 := Nat.le_trans (want_goes A.a _ _).i k4
  have k2 : (qnameT L s).2.i ≤ K := by
    split at k3
    · exact Nat.le_trans (Nat.le_succ _) (Nat.le_trans (qname_goes A.a (qnameT L s).2.go).i k3)
    · exact k3
  rw [A.qname k2, A.is k2]
  split
  · rename_i hc
    rw [if_pos hc] at h k3 k4
    rw [A.qname k3, A.want k3, A.list A.exprA (exprN_goes A.a) h]
  · rename_i hc
    rw [if_neg hc] at h k3 k4
    rw [A.want k3, A.list A.exprA (exprN_goes A.a) h]
theorem Agr.set (A : Agr L L' K) {s : PS} {pos : Nat} (h : (setT L s pos).2.i ≤ K) : setT L' s pos = setT L s pos := by
  unfold setT at h ⊢
  simp only at h ⊢
  have k2 := Nat.le_trans (exprN_goes A.a _).i h
  have k1 := Nat.le_trans (want_goes A.a _ _).i k2
  rw [A.qname k1, A.want k1, A.exprN h]
theorem Agr.let (A : Agr L L' K) {s : PS} {pos : Nat} (h : (letT L s pos).2.i ≤ K) : letT L' s pos = letT L s pos := by
  unfold letT at h ⊢
  simp only at h ⊢
  have k4 := Nat.le_trans (exprN_goes A.a _).i h
  have k3 := Nat.le_trans (want_goes A.a _ _).i k4
  have k2 := Nat.le_trans (name_goes A.a _).i k3
  have k1 := Nat.le_trans (want_goes A.a _ _).i k2
  have k0 := Nat.le_trans (name_goes A.a _).i k1
  rw [A.name k0, A.want k1, A.name k2, A.want k3, A.exprN h]
theorem Agr.result (A : Agr L L' K) {s : PS} {pos : Nat} (h : (resultT L s pos).2.i ≤ K) : resultT L' s pos = resultT L s pos := by
  unfold resultT at h ⊢
  simp only at h ⊢
  have k2 := Nat.le_trans (exprN_goes A.a _).i h
  have k1 := Nat.le_trans (want_goes A.a _ _).i k2
  rw [A.want k1, A.exprN h]
theorem Agr.emit (A : Agr L L' K) {s : PS} {pos : Nat} (h : (emitT L s pos).2.i ≤ K) : emitT L' s pos = emitT L s pos := by
  unfold emitT at h ⊢
  simp only at h ⊢
  rw [A.name (Nat.le_trans (name_goes A.a _).i h)]
theorem Agr.end (A : Agr L L' K) {r r' : SH × PS} (h : (endT L r).2.i ≤ K) (hr : r.2.i ≤ K → r' = r) : endT L' r' = endT L r := by
  unfold endT at h ⊢
  simp only at h ⊢
  have k := Nat.le_trans (want_goes A.a _ _).i h
  rw [hr k, A.want k]
theorem Agr.stmLoop (A : Agr L L' K) {S S' : PS → Stm × PS} {N : Nat} (hS : ∀ s, frT K s < N → (S s).2.i ≤ K → S' s = S s) (hG : ∀ s, Goes L s (S s).2) (hF : ∀ s, s.e = 0 → s.i ≤ K → frT K s < N → frT K (S s).2 < frT K s) : ∀ (q q' : Nat) (s : PS) (acc : List Stm), frT K s < q → frT K s < q' → frT K s < N → (stmLoop L S q s acc).2.i ≤ K → stmLoop L' S' q' s acc = stmLoop L S q s acc
  | 0, _, _, _, h, _, _, _ => absurd h (Nat.not_lt_zero _)
  | _ + 1, 0, _, _, _, h, _, _ => absurd h (Nat.not_lt_zero _)
  | q + 1, q' + 1, s, acc, a1, a2, a3, h4 => by
    have h0 : s.i ≤ K := Nat.le_trans (stmLoop_goes A.a hG _ _ _).i h4
    unfold Go.Proofs.YtlofkmoeilikkaaDoor.stmLoop at h4 ⊢
    simp only at h4 ⊢
    rw [A.is h0]
    split at h4
    · rename_i hc
      rw [if_pos hc, if_pos hc]
    · rename_i hc
      rw [if_neg hc, if_neg hc]
      have he : s.e = 0 := by
        rw [not_or, Decidable.not_not] at hc
        exact hc.1
      have hk : (S s).2.i ≤ K := Nat.le_trans (stmLoop_goes A.a hG _ _ _).i h4
      have hf := hF s he h0 a3
      rw [hS s a3 hk]
      exact A.stmLoop hS hG hF q q' _ _ (by omega) (by omega) (by omega) h4
theorem Agr.block (A : Agr L L' K) {S S' : PS → Stm × PS} {N : Nat} (hS : ∀ s, frT K s < N → (S s).2.i ≤ K → S' s = S s) (hG : ∀ s, Goes L s (S s).2) (hF : ∀ s, s.e = 0 → s.i ≤ K → frT K s < N → frT K (S s).2 < frT K s) (q q' : Nat) (s : PS) (a1 : N ≤ q) (a2 : N ≤ q') (a3 : frT K s < N) (h : (blockT L S q s).2.i ≤ K) : blockT L' S' q' s = blockT L S q s := by
  have h0 : s.i ≤ K := Nat.le_trans (block_goes A.a hG _ _).i h
  unfold blockT at h ⊢
  simp only at h ⊢
  have k1 : (Go.Proofs.YtlofkmoeilikkaaDoor.stmLoop L S q (openT L s [123]) []).2.i ≤ K := Nat.le_trans (want_goes A.a _ [125]).i h
  have hfr : frT K (openT L s [123]) ≤ frT K s := by
    by_cases he : s.e = 0
    · exact Nat.le_of_lt (fr_open he h0)
    · have : (openT L s [123]).e ≠ 0 := by
        have hw : ∀ x, wantT L (if isT L s x = true ∧ 40 ≤ s.deep then failT L s 12 else s) x = s := by
          intro x
          rw [isT_err he, if_neg (by simp)]
          unfold wantT
          rw [isT_err he, if_neg (by simp), fail_err he]
        show (wantT L (if isT L s [123] = true ∧ 40 ≤ s.deep then failT L s 12 else s) [123]).e ≠ 0
        rw [hw]
        exact he
      rw [frT_err this]
      exact Nat.zero_le _
  rw [A.opn h0, A.stmLoop hS hG hF q q' _ _ (by omega) (by omega) (by omega) k1, A.want k1]
theorem Agr.stmt (A : Agr L L' K) : ∀ (n n' : Nat) (s : PS), frT K s < n → frT K s < n' → (stmtT L n s).2.i ≤ K → stmtT L' n' s = stmtT L n s
  | 0, _, _, h, _, _ => absurd h (Nat.not_lt_zero _)
  | _ + 1, 0, _, _, h, _ => absurd h (Nat.not_lt_zero _)
  | n + 1, n' + 1, s, a1, a2, h => by
    have h0 : s.i ≤ K := Nat.le_trans (stmt_goes A.a _ _).i h
    have blk : ∀ (s2 : PS), frT K s2 < frT K s → (blockT L (stmtT L n) n s2).2.i ≤ K → blockT L' (stmtT L' n') n' s2 = blockT L (stmtT L n) n s2 := fun s2 hf hk =>
      A.block (N := frT K s) (fun s3 h3 h4 => A.stmt n n' s3 (by omega) (by omega) h4) (stmt_goes A.a n) (fun s3 he hi hf3 => by
        obtain ⟨n, rfl⟩ : ∃ n2, n = n2 + 1 := ⟨n - 1, by omega⟩
        exact fr_stmt A.a n he hi) n n' s2 (by omega) (by omega) hf hk
    unfold stmtT at h ⊢
    simp only at h ⊢
    rw [A.cur h0, A.is h0, A.is h0, A.is h0, A.is h0, A.is h0, A.is h0, A.is h0, A.fail h0]
    split at h
    · rename_i hc
      rw [if_pos hc, if_pos hc]
      exact A.end h fun k => A.set k
    rename_i hc
    rw [if_neg hc, if_neg hc]
    clear hc
    split at h
    · rename_i hc
      rw [if_pos hc, if_pos hc]
      exact A.end h fun k => A.let k
    rename_i hc
    rw [if_neg hc, if_neg hc]
    clear hc
    split at h
    · rename_i hc
      rw [if_pos hc, if_pos hc]
      exact A.end h fun k => A.result k
    rename_i hc
    rw [if_neg hc, if_neg hc]
    clear hc
    split at h
    · rename_i hc
      rw [if_pos hc, if_pos hc]
      exact A.end h fun k => A.call k
    rename_i hc
    rw [if_neg hc, if_neg hc]
    clear hc
    split at h
    · rename_i hc
      rw [if_pos hc, if_pos hc]
      exact A.end h fun k => A.emit k
    rename_i hc
    rw [if_neg hc, if_neg hc]
    clear hc
    split at h
    · rename_i hc
      rw [if_pos hc, if_pos hc]
      exact A.end h fun _ => rfl
    rename_i hc
    rw [if_neg hc, if_neg hc]
    clear hc
    split at h
    · rename_i hc
      rw [if_pos hc, if_pos hc]
      have hf := fr_go (isT_e hc).1 h0
      have hx := (exprN_goes A.a s.go).fr (K := K)
      have kb : (blockT L (stmtT L n) n (Go.Proofs.YtlofkmoeilikkaaDoor.exprN L s.go).2).2.i ≤ K := by
        split at h
        · exact Nat.le_trans (Nat.le_succ _) (Nat.le_trans (block_goes A.a (stmt_goes A.a n) n (blockT L (stmtT L n) n (Go.Proofs.YtlofkmoeilikkaaDoor.exprN L s.go).2).2.go).i h)
        · exact h
      have kx := Nat.le_trans (block_goes A.a (stmt_goes A.a n) n _).i kb
      rw [A.exprN kx, blk _ (by omega) kb, A.is kb]
      split at h
      · rename_i hd
        rw [if_pos hd, if_pos hd]
        have hg := fr_go (isT_e hd).1 kb
        have hb := (block_goes A.a (stmt_goes A.a n) n (Go.Proofs.YtlofkmoeilikkaaDoor.exprN L s.go).2).fr (K := K)
        rw [blk _ (by omega) h]
      · rename_i hd
        rw [if_neg hd, if_neg hd]
    rename_i hc
    rw [if_neg hc, if_neg hc]
    clear hc
    split at h
    · rename_i hc
      rw [if_pos hc, if_pos hc]
      have hf := fr_go (isT_e hc).1 h0
      have hx := (exprN_goes A.a s.go).fr (K := K)
      have kx := Nat.le_trans (block_goes A.a (stmt_goes A.a n) n _).i h
      rw [A.exprN kx, blk _ (by omega) h]
    · rename_i hc
      rw [if_neg hc, if_neg hc]
theorem Agr.blockN (A : Agr L L' K) : OneA K (blockN L) (blockN L') := by
  intro s h
  have := fr_lt K s
  have := A.la
  have := A.lb
  unfold Go.Proofs.YtlofkmoeilikkaaDoor.blockN at h ⊢
  exact A.block (N := K + 2) (fun s3 h3 h4 => A.stmt _ _ s3 (by omega) (by omega) h4) (stmt_goes A.a _) (fun s3 he hi hf3 => fr_stmt A.a _ he hi) _ _ s (by omega) (by omega) (fr_lt K s) h
theorem Agr.proc (A : Agr L L' K) : OneA K (procT L) (procT L') := by
  intro s h
  unfold procT at h ⊢
  simp only at h ⊢
  have k9 := Nat.le_trans (blockN_goes A.a _).i h
  have k8 := Nat.le_trans (list_goes A.a (name_goes A.a) _ _).i k9
  have k7 := Nat.le_trans (want_goes A.a _ _).i k8
  have k6 := Nat.le_trans (want_goes A.a _ _).i k7
  have k5 := Nat.le_trans (name_goes A.a _).i k6
  have k4 := Nat.le_trans (want_goes A.a _ _).i k5
  have k3 : (listT L (paramT L) (wantT L (nameT L s).2 [40]) [41]).2.i ≤ K := by
    split at k4
    · exact Nat.le_trans (Nat.le_succ _) (Nat.le_trans (name_goes A.a (listT L (paramT L) (wantT L (nameT L s).2 [40]) [41]).2.go).i k4)
    · exact k4
  have k2 := Nat.le_trans (list_goes A.a (param_goes A.a) _ _).i k3
  have k1 := Nat.le_trans (want_goes A.a _ _).i k2
  have k0 := Nat.le_trans (name_goes A.a _).i k1
  rw [A.name k0, A.want k1, A.list A.param (param_goes A.a) k3, A.is k3, A.cur k0]
  split
  · rename_i hc
    simp only [if_pos hc] at h k4 k5 k6 k7 k8 k9
    rw [A.nameA _ k4, A.want k4, A.name k5, A.want k6, A.want k7, A.list A.nameA (name_goes A.a) k9, A.blockN _ h]
  · rename_i hc
    simp only [if_neg hc] at h k4 k5 k6 k7 k8 k9
    rw [A.want k4, A.name k5, A.want k6, A.want k7, A.list A.nameA (name_goes A.a) k9, A.blockN _ h]
theorem Agr.var (A : Agr L L' K) : OneA K (varT L) (varT L') := by
  intro s h
  unfold varT at h ⊢
  simp only at h ⊢
  have k5 : (takeT L (wantT L (nameT L (wantT L (nameT L s).2 [58])).2 [61]) [45]).i ≤ K := by
    split at h
    · exact Nat.le_trans (fail_goes (L := L) _ _).i h
    · exact Nat.le_trans (Nat.le_succ _) (Nat.le_trans (want_goes A.a (takeT L (wantT L (nameT L (wantT L (nameT L s).2 [58])).2 [61]) [45]).go [59]).i h)
  have k4 := Nat.le_trans (take_goes A.a _ _).i k5
  have k3 := Nat.le_trans (want_goes A.a _ _).i k4
  have k2 := Nat.le_trans (name_goes A.a _).i k3
  have k1 := Nat.le_trans (want_goes A.a _ _).i k2
  have k0 := Nat.le_trans (name_goes A.a _).i k1
  rw [A.name k0, A.want k1, A.name k2, A.want k3, A.take k4, A.cur k5, A.cur k0, A.fail k5, A.is k4]
  split
  · rfl
  · rename_i hc
    rw [if_neg hc] at h
    have k6 := Nat.le_trans (want_goes A.a _ _).i h
    rw [A.want k6]
theorem Agr.impLoop (A : Agr L L' K) : ∀ (q q' : Nat) (s : PS) (acc : List Imp), frT K s < q → frT K s < q' → (impLoop L q s acc).2.i ≤ K → impLoop L' q' s acc = impLoop L q s acc
  | 0, _, _, _, h, _, _ => absurd h (Nat.not_lt_zero _)
  | _ + 1, 0, _, _, _, h, _ => absurd h (Nat.not_lt_zero _)
  | q + 1, q' + 1, s, acc, a1, a2, h4 => by
    have gl : ∀ (q : Nat) (s : PS) (acc : List Imp), Goes L s (Go.Proofs.YtlofkmoeilikkaaDoor.impLoop L q s acc).2 := by
      intro q
      induction q with
      | zero => exact fun s acc => Goes.refl _ _
      | succ q ih =>
        intro s acc
        unfold Go.Proofs.YtlofkmoeilikkaaDoor.impLoop
        simp only
        split
        · rename_i hc
          exact (is_goes A.a hc).trans ((name_goes A.a _).trans ((want_goes A.a _ _).trans (ih _ _)))
        · exact Goes.refl _ _
    have h0 : s.i ≤ K := Nat.le_trans (gl _ _ _).i h4
    unfold Go.Proofs.YtlofkmoeilikkaaDoor.impLoop at h4 ⊢
    simp only at h4 ⊢
    rw [A.is h0]
    split at h4
    · rename_i hc
      rw [if_pos hc, if_pos hc]
      have k3 := Nat.le_trans (gl _ _ _).i h4
      have k2 := Nat.le_trans (want_goes A.a _ _).i k3
      have k1 := Nat.le_trans (name_goes A.a _).i k2
      have hf := fr_go (isT_e hc).1 h0
      have hr := ((name_goes A.a s.go).trans (want_goes A.a (nameT L s.go).2 [59])).fr (K := K)
      rw [A.name k1, A.cur k1, A.want k2]
      exact A.impLoop q q' _ _ (by omega) (by omega) h4
    · rename_i hc
      rw [if_neg hc, if_neg hc]
theorem imp_goes' (hL : TokL L) : ∀ (q : Nat) (s : PS) (acc : List Imp), Goes L s (impLoop L q s acc).2 := by
  intro q
  induction q with
  | zero => exact fun s acc => Goes.refl _ _
  | succ q ih =>
    intro s acc
    unfold impLoop
    simp only
    split
    · rename_i hc
      exact (is_goes hL hc).trans ((name_goes hL _).trans ((want_goes hL _ _).trans (ih _ _)))
    · exact Goes.refl _ _
theorem decl_goes' (hL : TokL L) : ∀ (q : Nat) (s : PS) (vs : List Vrb) (ps : List Prc), Goes L s (declLoop L q s vs ps).2 := by
  intro q
  induction q with
  | zero => exact fun s vs ps => Goes.refl _ _
  | succ q ih =>
    intro s vs ps
    unfold declLoop
    simp only
    split
    · exact Goes.refl _ _
    split
    · rename_i hc
      exact (is_goes hL hc).trans ((var_goes hL _).trans (ih _ _ _))
    split
    · rename_i hc
      exact (is_goes hL hc).trans ((proc_goes hL _).trans (ih _ _ _))
    · exact (fail_goes _ _).trans (ih _ _ _)
theorem Agr.declLoop (A : Agr L L' K) : ∀ (q q' : Nat) (s : PS) (vs : List Vrb) (ps : List Prc), frT K s < q → frT K s < q' → (declLoop L q s vs ps).2.i ≤ K → declLoop L' q' s vs ps = declLoop L q s vs ps
  | 0, _, _, _, _, h, _, _ => absurd h (Nat.not_lt_zero _)
  | _ + 1, 0, _, _, _, _, h, _ => absurd h (Nat.not_lt_zero _)
  | q + 1, q' + 1, s, vs, ps, a1, a2, h4 => by
    have h0 : s.i ≤ K := Nat.le_trans (decl_goes' A.a _ _ _ _).i h4
    unfold Go.Proofs.YtlofkmoeilikkaaDoor.declLoop at h4 ⊢
    simp only at h4 ⊢
    rw [A.cur h0, A.is h0, A.is h0, A.fail h0]
    split at h4
    · rename_i hc
      rw [if_pos hc, if_pos hc]
    rename_i hc
    rw [if_neg hc, if_neg hc]
    have he : s.e = 0 := by
      rw [not_or, Decidable.not_not] at hc
      exact hc.1
    clear hc
    have hf := fr_go he h0
    split at h4
    · rename_i hc
      rw [if_pos hc, if_pos hc]
      have k1 := Nat.le_trans (decl_goes' A.a _ _ _ _).i h4
      have hr := (var_goes A.a s.go).fr (K := K)
      rw [A.var _ k1]
      exact A.declLoop q q' _ _ _ (by omega) (by omega) h4
    rename_i hc
    rw [if_neg hc, if_neg hc]
    clear hc
    split at h4
    · rename_i hc
      rw [if_pos hc, if_pos hc]
      have k1 := Nat.le_trans (decl_goes' A.a _ _ _ _).i h4
      have hr := (proc_goes A.a s.go).fr (K := K)
      rw [A.proc _ k1]
      exact A.declLoop q q' _ _ _ (by omega) (by omega) h4
    · rename_i hc
      rw [if_neg hc, if_neg hc]
      have hr := fr_fail (L := L) (x := 11) (by decide) he h0
      exact A.declLoop q q' _ _ _ (by omega) (by omega) h4
/-- The whole module. -/
theorem Agr.module (A : Agr L L' K) {s : PS} (h : (moduleT L s).2.i ≤ K) : moduleT L' s = moduleT L s := by
  unfold moduleT at h ⊢
  simp only at h ⊢
  have k4 := Nat.le_trans (decl_goes' A.a _ _ _ _).i h
  have k3 := Nat.le_trans (imp_goes' A.a _ _ _).i k4
  have k2 := Nat.le_trans (want_goes A.a _ _).i k3
  have k1 := Nat.le_trans (name_goes A.a _).i k2
  have k0 := Nat.le_trans (want_goes A.a _ _).i k1
  have := A.la
  have := A.lb
  rw [A.want k0, A.name k1, A.cur k1, A.want k2, A.impLoop (L.length + 1) (L'.length + 1) _ _ (by have := fr_lt K (wantT L (nameT L (wantT L s kModule)).2 [59]); omega) (by have := fr_lt K (wantT L (nameT L (wantT L s kModule)).2 [59]); omega) k4]
  rw [A.declLoop (L.length + 1) (L'.length + 1) _ _ _ (by have := fr_lt K (Go.Proofs.YtlofkmoeilikkaaDoor.impLoop L (L.length + 1) (wantT L (nameT L (wantT L s kModule)).2 [59]) []).2; omega) (by have := fr_lt K (Go.Proofs.YtlofkmoeilikkaaDoor.impLoop L (L.length + 1) (wantT L (nameT L (wantT L s kModule)).2 [59]) []).2; omega) h]

end Go.Proofs.YtlofkmoeilikkaaDoor

/- A text cut behind a token, with a blank and another text behind it: what the lexer and the parser tell of it. Plain facts. Numbers and types by name. -/
namespace Go.Proofs.YtlofkmoeilikkaaDoor
open Go.RowKit Go.Lib
set_option maxRecDepth 100000

theorem runL_cut {p : UInt8 → Bool} (hp : p 32 = false) (b : List UInt8) : ∀ (r : List UInt8) (m : Nat), runL p r ≤ m → runL p (r.take m ++ 32 :: b) = runL p r
  | [], m, _ => by
    rw [List.take_nil, List.nil_append]
    unfold runL
    rw [List.takeWhile_cons, hp]
    rfl
  | x :: r, m, h => by
    cases hx : p x with
    | true =>
      have e : runL p (x :: r) = runL p r + 1 := by
        unfold runL
        rw [List.takeWhile_cons, hx]
        rfl
      obtain ⟨m, rfl⟩ : ∃ m2, m = m2 + 1 := ⟨m - 1, by omega⟩
      have e2 : runL p ((x :: r).take (m + 1) ++ 32 :: b) = runL p (r.take m ++ 32 :: b) + 1 := by
        rw [List.take_succ_cons, List.cons_append]
        unfold runL
        rw [List.takeWhile_cons, hx]
        rfl
      rw [e, e2, runL_cut hp b r m (by omega)]
    | false =>
      have e : runL p (x :: r) = 0 := by
        unfold runL
        rw [List.takeWhile_cons, hx]
        rfl
      rw [e]
      cases m with
      | zero =>
        rw [List.take_zero, List.nil_append]
        unfold runL
        rw [List.takeWhile_cons, hp]
        rfl
      | succ m =>
        rw [List.take_succ_cons, List.cons_append]
        unfold runL
        rw [List.takeWhile_cons, hx]
        rfl
theorem runL_in (p : UInt8 → Bool) (X : List UInt8) : ∀ (r : List UInt8) (m : Nat), runL p r < m → m ≤ r.length → runL p (r.take m ++ X) = runL p r
  | [], m, h, h2 => by
    simp only [List.length_nil] at h2
    omega
  | x :: r, m, h, h2 => by
    simp only [List.length_cons] at h2
    obtain ⟨m, rfl⟩ : ∃ m2, m = m2 + 1 := ⟨m - 1, by omega⟩
    rw [List.take_succ_cons, List.cons_append]
    cases hx : p x with
    | true =>
      have e : ∀ l, runL p (x :: l) = runL p l + 1 := fun l => by
        unfold runL
        rw [List.takeWhile_cons, hx]
        rfl
      rw [e] at h
      rw [e, e, runL_in p X r m (by omega) (by omega)]
    | false =>
      have e : ∀ l, runL p (x :: l) = 0 := fun l => by
        unfold runL
        rw [List.takeWhile_cons, hx]
        rfl
      rw [e, e]
theorem stepL_cut {c : UInt8} {r : List UInt8} {k : Int} {n m : Nat} (b : List UInt8) (hs : stepL (c :: r) = .tok k n) (hm : n ≤ m + 1) : stepL (c :: (r.take m ++ 32 :: b)) = .tok k n := by
  have h2 := runL_le isWrd r
  have h3 := runL_le isDig r
  change stepC c r = _ at hs
  show stepC c (r.take m ++ 32 :: b) = _
  unfold stepC at hs ⊢
  split at hs
  · cases hs
  rename_i c1
  split at hs
  · cases hs
  rename_i c2
  rw [if_neg c1, if_neg c2]
  split at hs
  · rename_i c3
    rw [if_pos c3]
    split at hs
    · cases hs
    rename_i c4
    simp only [LStep.tok.injEq] at hs
    obtain ⟨hk, rfl⟩ := hs
    have e1 := runL_cut (p := isWrd) rfl b r m (by omega)
    have e2 : (c :: (r.take m ++ 32 :: b)).take (1 + runL isWrd r) = (c :: r).take (1 + runL isWrd r) := by
      rw [Nat.add_comm, List.take_succ_cons, List.take_succ_cons, List.take_append_of_le_length (by rw [List.length_take]; omega), List.take_take, Nat.min_eq_left (by omega)]
    rw [e1, if_neg c4, e2, hk]
  rename_i c3
  rw [if_neg c3]
  split at hs
  · rename_i c4
    rw [if_pos c4]
    split at hs
    · cases hs
    rename_i c5
    split at hs
    · cases hs
    rename_i c6
    simp only [LStep.tok.injEq] at hs
    obtain ⟨hk, rfl⟩ := hs
    have e1 := runL_cut (p := isDig) rfl b r m (by omega)
    have e2 : afterL ((r.take m ++ 32 :: b).drop (runL isDig r)) = false := by
      rw [List.drop_append_of_le_length (by rw [List.length_take]; omega)]
      rw [not_or] at c6
      have c7 := c6.2
      rw [Bool.not_eq_true] at c7
      rw [List.drop_take]
      cases hd : r.drop (runL isDig r) with
      | nil => rw [List.take_nil]; rfl
      | cons x l =>
        rw [hd] at c7
        cases m - runL isDig r with
        | zero => rfl
        | succ q =>
          rw [List.take_succ_cons]
          exact c7
    rw [e1, if_neg c5, if_neg (by rw [e2]; rw [not_or] at c6; exact fun h => h.elim c6.1 (by simp)), hk]
  rename_i c4
  rw [if_neg c4]
  split at hs
  · cases hs
  rename_i c5
  simp only [LStep.tok.injEq] at hs
  obtain ⟨hk, hn⟩ := hs
  have t2 : twoL c 32 = false := by
    unfold twoL
    simp
  have e : signL (c :: (r.take m ++ 32 :: b)) = signL (c :: r) := by
    cases r with
    | nil =>
      rw [List.take_nil, List.nil_append]
      show (if twoL c 32 = true then 2 else if oneL c = true then 1 else 0) = if oneL c = true then 1 else 0
      rw [t2]
      rfl
    | cons d r =>
      cases m with
      | zero =>
        rw [List.take_zero, List.nil_append]
        show (if twoL c 32 = true then 2 else if oneL c = true then 1 else 0) = if twoL c d = true then 2 else if oneL c = true then 1 else 0
        have htf : twoL c d = false := by
          cases ht : twoL c d with
          | false => rfl
          | true =>
            have : signL (c :: d :: r) = 2 := by
              show (if twoL c d = true then 2 else if oneL c = true then 1 else 0) = 2
              rw [if_pos ht]
            omega
        rw [t2, htf]
      | succ m => rfl
  rw [e, if_neg c5, hk, hn]
theorem stepL_past {c : UInt8} {r : List UInt8} {n m : Nat} (X : List UInt8) (hs : stepL (c :: r) = .skip n) (hm : n ≤ m) (hl : m ≤ r.length) : stepL (c :: (r.take m ++ X)) = .skip n := by
  change stepC c r = _ at hs
  show stepC c (r.take m ++ X) = _
  unfold stepC at hs ⊢
  split at hs
  · rename_i c1
    rw [if_pos c1, hs]
  rename_i c1
  rw [if_neg c1]
  split at hs
  · rename_i c2
    rw [if_pos c2]
    simp only [LStep.skip.injEq] at hs
    rw [runL_in _ X r m (by omega) hl, hs]
  · rename_i c2
    exfalso
    split at hs
    · split at hs <;> cases hs
    split at hs
    · split at hs
      · cases hs
      split at hs <;> cases hs
    split at hs <;> cases hs

/-- Cut behind a token. -/
theorem lexA_cut (b : List UInt8) : ∀ (k i : Nat) (r : List UInt8) (j : Nat) (t : Tk), r.length ≤ k → (lexA i r).e = 0 → (lexA i r).l[j]? = some t → j + 1 < (lexA i r).l.length →
    i ≤ t.pos ∧ 0 < t.text.length ∧ t.pos - i + t.text.length ≤ r.length ∧ lexA i (r.take (t.pos - i + t.text.length) ++ 32 :: b) = appL ((lexA i r).l.take (j + 1)) (lexA (t.pos + t.text.length + 1) b)
  | _, i, [], j, t, _, _, _, hl => by
    rw [lexA_nil] at hl
    simp at hl
  | 0, _, c :: r, _, _, h, _, _, _ => by simp at h
  | k + 1, i, c :: r, j, t, h, h0, ht, hl => by
    simp only [List.length_cons] at h
    cases hs : stepL (c :: r) with
    | skip n =>
      have hn := (stepL_n (c := c) (r := r)).1 n hs
      rw [lexA_skip hs] at h0 ht hl ⊢
      obtain ⟨a1, a0, a2, a3⟩ := lexA_cut b k (i + n) ((c :: r).drop n) j t (by simp only [List.length_drop, List.length_cons]; omega) h0 ht hl
      rw [List.length_drop, List.length_cons] at a2
      refine ⟨by omega, a0, by rw [List.length_cons]; omega, ?_⟩
      obtain ⟨m, hm⟩ : ∃ m, t.pos - i + t.text.length = m + 1 := ⟨t.pos - i + t.text.length - 1, by omega⟩
      have hp := stepL_past (m := m) (32 :: b) hs (by omega) (by omega)
      rw [hm, List.take_succ_cons, List.cons_append, lexA_skip hp]
      have e : (c :: (r.take m ++ 32 :: b)).drop n = ((c :: r).drop n).take (t.pos - (i + n) + t.text.length) ++ 32 :: b := by
        rw [← List.cons_append, ← List.take_succ_cons, List.drop_append_of_le_length (by rw [List.length_take, List.length_cons]; omega), List.drop_take]
        congr 2
        omega
      rw [e]
      exact a3
    | tok x n =>
      have hn := (stepL_n (c := c) (r := r)).2 x n hs
      rw [lexA_tok hs] at h0 ht hl ⊢
      have h0' : (lexA (i + n) ((c :: r).drop n)).e = 0 := h0
      have el : (consL ⟨x, (c :: r).take n, i⟩ (lexA (i + n) ((c :: r).drop n))).l = ⟨x, (c :: r).take n, i⟩ :: (lexA (i + n) ((c :: r).drop n)).l := by
        unfold consL
        simp only
        rw [if_pos h0']
      rw [el] at ht hl ⊢
      cases j with
      | zero =>
        simp only [List.getElem?_cons_zero, Option.some.injEq] at ht
        subst ht
        have etl : ((c :: r).take n).length = n := by
          rw [List.length_take, List.length_cons]
          omega
        refine ⟨Nat.le_refl _, by show 0 < ((c :: r).take n).length; omega, by show i - i + ((c :: r).take n).length ≤ _; rw [etl, List.length_cons]; omega, ?_⟩
        show lexA i ((c :: r).take (i - i + ((c :: r).take n).length) ++ 32 :: b) = appL [_] (lexA (i + ((c :: r).take n).length + 1) b)
        rw [etl, Nat.sub_self, Nat.zero_add]
        obtain ⟨m, rfl⟩ : ∃ m, n = m + 1 := ⟨n - 1, by omega⟩
        have hp := stepL_cut b hs (Nat.le_refl _)
        rw [List.take_succ_cons, List.cons_append, lexA_tok hp]
        have e1 : (c :: (r.take m ++ 32 :: b)).take (m + 1) = c :: r.take m := by
          rw [List.take_succ_cons, List.take_append_of_le_length (by rw [List.length_take]; omega), List.take_take, Nat.min_self]
        have e2 : (c :: (r.take m ++ 32 :: b)).drop (m + 1) = 32 :: b := by
          rw [List.drop_succ_cons, List.drop_left' (by rw [List.length_take]; omega)]
        rw [e1, e2, lexA_skip (n := 1) rfl]
        have := consL_appL ⟨x, c :: r.take m, i⟩ [] (lexA (i + (m + 1) + 1) b)
        rw [appL_nil] at this
        exact this
      | succ j =>
        rw [List.getElem?_cons_succ] at ht
        rw [List.length_cons] at hl
        obtain ⟨a1, a0, a2, a3⟩ := lexA_cut b k (i + n) ((c :: r).drop n) j t (by simp only [List.length_drop, List.length_cons]; omega) h0' ht (by omega)
        rw [List.length_drop, List.length_cons] at a2
        refine ⟨by omega, a0, by rw [List.length_cons]; omega, ?_⟩
        obtain ⟨m, hm⟩ : ∃ m, t.pos - i + t.text.length = m + 1 := ⟨t.pos - i + t.text.length - 1, by omega⟩
        have hp := stepL_cut (m := m) b hs (by omega)
        rw [hm, List.take_succ_cons, List.cons_append, lexA_tok hp]
        have e : (c :: (r.take m ++ 32 :: b)).drop n = ((c :: r).drop n).take (t.pos - (i + n) + t.text.length) ++ 32 :: b := by
          rw [← List.cons_append, ← List.take_succ_cons, List.drop_append_of_le_length (by rw [List.length_take, List.length_cons]; omega), List.drop_take]
          congr 2
          omega
        have e1 : (c :: (r.take m ++ 32 :: b)).take n = (c :: r).take n := by
          rw [← List.cons_append, ← List.take_succ_cons, List.take_append_of_le_length (by rw [List.length_take, List.length_cons]; omega), List.take_take, Nat.min_eq_left (by omega)]
        rw [e, e1, a3, consL_appL, List.take_succ_cons]
    | bad e =>
      rw [lexA_bad hs] at h0
      have h0' : e = 0 := h0
      rcases stepL_bad hs with rfl | rfl <;> cases h0'

theorem module_goes {L : List Tk} (hL : TokL L) (s : PS) : Goes L s (moduleT L s).2 :=
  (want_goes hL _ _).trans ((name_goes hL _).trans ((want_goes hL _ _).trans ((imp_goes' hL _ _ _).trans (decl_goes' hL _ _ _ _))))

theorem parseP_err {a : List UInt8} (h : (lexP a).e = 0) (he : (parseP a).2.1 ≠ 0) : (moduleT (lexP a).l ps0).2.e ≠ 0 ∧ parseP a = (mdl0, (moduleT (lexP a).l ps0).2.e, (moduleT (lexP a).l ps0).2.pos) := by
  by_cases h2 : (moduleT (lexP a).l ps0).2.e ≠ 0
  · refine ⟨h2, ?_⟩
    unfold parseP
    rw [if_neg (by rw [h]; simp)]
    simp only
    rw [if_pos h2]
  · exfalso
    apply he
    unfold parseP
    rw [if_neg (by rw [h]; simp)]
    simp only
    rw [if_neg h2]
/-- An error's place is a token's. -/
theorem places_at {a : List UInt8} (h : (lexP a).e = 0) (he : (parseP a).2.1 ≠ 0) : (moduleT (lexP a).l ps0).2.i < (lexP a).l.length ∧ ∀ t, (lexP a).l[(moduleT (lexP a).l ps0).2.i]? = some t → t.pos = (parseP a).2.2 := by
  obtain ⟨h2, h3⟩ := parseP_err h he
  have hL := (lexP_tokL h).1
  have g := module_goes hL ps0
  have hi := g.lt hL.pos
  refine ⟨hi, fun t ht => ?_⟩
  have hp := g.at_ (fun h => absurd rfl h) h2
  rw [h3]
  show t.pos = (moduleT (lexP a).l ps0).2.pos
  rw [hp]
  show _ = ((lexP a).l.getD _ ⟨0, [], 0⟩).pos
  rw [List.getD_eq_getElem?_getD, ht]
  rfl
/-- What stands behind the token changes neither. -/
theorem places_same {a b : List UInt8} (ha : a.length ≤ 1000) (hb : b.length ≤ 1000) (h1 : (lexP a).e = 0) (h2 : (lexP b).e = 0) (he : (parseP a).2.1 ≠ 0) {k : Nat} {t : Tk} (ht : (lexP a).l[k]? = some t) (hk : k + 1 < (lexP a).l.length) (hr : (moduleT (lexP a).l ps0).2.i ≤ k) :
    t.pos + t.text.length ≤ a.length ∧ (parseP (a.take (t.pos + t.text.length) ++ 32 :: b)).2 = (parseP a).2 := by
  have sm : ∀ {l : List UInt8}, l.length ≤ 8192 → lexP l = lexA 0 l := fun h => if_neg (by omega)
  obtain ⟨e2, e3⟩ := parseP_err h1 he
  rw [sm (by omega)] at h2
  have h1' := h1
  have ht' := ht
  have hk' := hk
  rw [sm (by omega)] at h1' ht' hk'
  obtain ⟨_, _, c2, c3⟩ := lexA_cut b _ 0 a k t (Nat.le_refl _) h1' ht' hk'
  rw [Nat.sub_zero] at c2 c3
  refine ⟨c2, ?_⟩
  obtain ⟨s1, s2⟩ := lexA_shift (t.pos + t.text.length + 1) _ 0 b (Nat.le_refl _)
  rw [Nat.zero_add] at s1 s2
  have s3 := s2.trans h2
  have hl : lexP (a.take (t.pos + t.text.length) ++ 32 :: b) = appL ((lexA 0 a).l.take (k + 1)) (lexA (t.pos + t.text.length + 1) b) := by
    rw [sm (by rw [List.length_append, List.length_take, List.length_cons]; omega), c3]
  have he0 : (lexP (a.take (t.pos + t.text.length) ++ 32 :: b)).e = 0 := by
    rw [hl]
    exact s3
  have hll : (lexP (a.take (t.pos + t.text.length) ++ 32 :: b)).l = (lexP a).l.take (k + 1) ++ (lexA (t.pos + t.text.length + 1) b).l := by
    rw [hl, sm (by omega)]
    unfold appL
    rw [if_pos s3]
  have hlen : 0 < (lexA (t.pos + t.text.length + 1) b).l.length := List.length_pos_iff.2 ((lexA_l _ (t.pos + t.text.length + 1) b (Nat.le_refl _)).1 s3).1
  have A : Agr (lexP a).l (lexP (a.take (t.pos + t.text.length) ++ 32 :: b)).l k := by
    refine ⟨(lexP_tokL h1).1, (lexP_tokL he0).1, fun i hi => ?_, by omega, ?_⟩
    · rw [hll, List.getD_eq_getElem?_getD, List.getD_eq_getElem?_getD, List.getElem?_append_left (by rw [List.length_take]; omega), List.getElem?_take, if_pos (by omega)]
    · rw [hll, List.length_append, List.length_take]
      omega
  have hm := A.module (s := ps0) hr
  have hp : parseP (a.take (t.pos + t.text.length) ++ 32 :: b) = (mdl0, (moduleT (lexP a).l ps0).2.e, (moduleT (lexP a).l ps0).2.pos) := by
    unfold parseP
    rw [if_neg (by rw [he0]; simp)]
    simp only
    rw [hm, if_pos e2]
  rw [hp, e3]

end Go.Proofs.YtlofkmoeilikkaaDoor

/- ParseLeft's text: what the lexer and the parser tell of it. Plain facts. Numbers and types by name. -/
namespace Go.Proofs.YtlofkmoeilikkaaDoor
open Go.RowKit Go.Lib
set_option maxRecDepth 100000

/-- A byte's digits. -/
def dig8 (n : Nat) : List UInt8 := if n < 10 then [UInt8.ofNat (48 + n)] else if n < 100 then [UInt8.ofNat (48 + n / 10), UInt8.ofNat (48 + n % 10)] else [UInt8.ofNat (48 + n / 100), UInt8.ofNat (48 + n / 10 % 10), UInt8.ofNat (48 + n % 10)]
/-- Between two numbers, but for the last blank. -/
def chunkL (n : Nat) : List UInt8 := dig8 n ++ [32, 43, 32, 50, 32, 42]
def preL : List UInt8 := [109, 111, 100, 117, 108, 101, 32, 109, 59, 32, 112, 114, 111, 99, 32, 112, 40, 41, 32, 112, 99, 32, 97, 32, 117, 115, 101, 115, 32, 123, 125, 32, 123, 32, 114, 101, 115, 117, 108, 116, 32, 61]
/-- The numbers' text, with what shuts the block. -/
def sumL : Nat → List Nat → List UInt8
  | n, [] => dig8 n ++ [59, 32, 125]
  | n, m :: l => chunkL n ++ 32 :: sumL m l
/-- Kinds and texts. -/
def ktL (L : List Tk) : List (Int × List UInt8) := L.map fun t => (t.kind, t.text)
theorem kt_shift (m : Nat) (L : List Tk) : ktL (L.map (shiftT m)) = ktL L := by
  unfold ktL
  rw [List.map_map]
  rfl
/-- What stands behind a number, and from a number on. -/
def tailL : List Nat → List (Int × List UInt8)
  | [] => [(4, [59]), (4, [125]), (0, [])]
  | m :: l => (4, [43]) :: (2, [50]) :: (4, [42]) :: (2, dig8 m) :: tailL l
def toksL (n : Nat) (l : List Nat) : List (Int × List UInt8) := (2, dig8 n) :: tailL l
theorem chunk_lex : ∀ n : Fin 256, (lexA 0 (chunkL n)).e = 0 ∧ (ktL (lexA 0 (chunkL n)).l).take 4 = [(2, dig8 n), (4, [43]), (2, [50]), (4, [42])] ∧ (lexA 0 (chunkL n)).l.length = 5 ∧ (lexA 0 (chunkL n)).l[3]? = some ⟨4, [42], (chunkL n).length - 1⟩ := by decide +kernel
theorem last_lex : ∀ n : Fin 256, (lexA 0 (dig8 n ++ [59, 32, 125])).e = 0 ∧ ktL (lexA 0 (dig8 n ++ [59, 32, 125])).l = toksL n [] := by decide +kernel
def preK : List (Int × List UInt8) := [(3, [109, 111, 100, 117, 108, 101]), (1, [109]), (4, [59]), (3, [112, 114, 111, 99]), (1, [112]), (4, [40]), (4, [41]), (3, [112, 99]), (1, [97]), (3, [117, 115, 101, 115]), (4, [123]), (4, [125]), (4, [123]), (3, [114, 101, 115, 117, 108, 116]), (4, [61])]
theorem pre_lex : (lexA 0 preL).e = 0 ∧ (lexA 0 preL).l.length = 16 ∧ (ktL (lexA 0 preL).l).take 15 = preK ∧ (lexA 0 preL).l[14]? = some ⟨4, [61], preL.length - 1⟩ := by decide +kernel
theorem dig_val : ∀ n : Fin 256, numV (dig8 n) = n := by decide +kernel
theorem dig_len (n : Nat) : (dig8 n).length ≤ 3 ∧ 0 < (dig8 n).length := by
  unfold dig8
  split
  · simp
  · split <;> simp
/-- Where a text, cut at its last token, is followed by a blank and another. -/
theorem lex_glue {a b : List UInt8} {i j : Nat} {t : Tk} (h0 : (lexA 0 a).e = 0) (hl : (lexA 0 a).l.length = j + 2) (ht : (lexA 0 a).l[j]? = some t) (hp : t.pos + t.text.length = a.length) (hb : (lexA (i + a.length + 1) b).e = 0) :
    (lexA i (a ++ 32 :: b)).e = 0 ∧ ktL (lexA i (a ++ 32 :: b)).l = (ktL (lexA 0 a).l).take (j + 1) ++ ktL (lexA (i + a.length + 1) b).l := by
  obtain ⟨s1, s2⟩ := lexA_shift i _ 0 a (Nat.le_refl _)
  rw [Nat.zero_add] at s1 s2
  have ht' : (lexA i a).l[j]? = some (shiftT i t) := by
    rw [s1, List.getElem?_map, ht]
    rfl
  obtain ⟨_, _, _, c3⟩ := lexA_cut b _ i a j (shiftT i t) (Nat.le_refl _) (s2.trans h0) ht' (by rw [s1, List.length_map]; omega)
  have e1 : (shiftT i t).pos - i + (shiftT i t).text.length = a.length := by
    show t.pos + i - i + t.text.length = _
    omega
  have e2 : (shiftT i t).pos + (shiftT i t).text.length + 1 = i + a.length + 1 := by
    show t.pos + i + t.text.length + 1 = _
    omega
  rw [e1, e2, List.take_length] at c3
  rw [c3]
  refine ⟨hb, ?_⟩
  unfold appL
  rw [if_pos hb, s1]
  show ktL ((List.map (shiftT i) (lexA 0 a).l).take (j + 1) ++ _) = _
  unfold ktL
  rw [List.map_append, List.map_take, List.map_map]
  rfl
theorem sum_lex : ∀ (l : List Nat) (n i : Nat), n < 256 → (∀ m ∈ l, m < 256) → (lexA i (sumL n l)).e = 0 ∧ ktL (lexA i (sumL n l)).l = toksL n l
  | [], n, i, hn, _ => by
    obtain ⟨h1, h2⟩ := last_lex ⟨n, hn⟩
    obtain ⟨s1, s2⟩ := lexA_shift i _ 0 (dig8 n ++ [59, 32, 125]) (Nat.le_refl _)
    rw [Nat.zero_add] at s1 s2
    refine ⟨s2.trans h1, ?_⟩
    show ktL (lexA i (dig8 n ++ [59, 32, 125])).l = _
    rw [s1, kt_shift]
    exact h2
  | m :: l, n, i, hn, hl => by
    obtain ⟨h1, h2, h3, h4⟩ := chunk_lex ⟨n, hn⟩
    obtain ⟨r1, r2⟩ := sum_lex l m (i + (chunkL n).length + 1) (hl m (by simp)) (fun x hx => hl x (by simp [hx]))
    have hc : 0 < (chunkL n).length := by unfold chunkL; simp
    obtain ⟨g1, g2⟩ := lex_glue (i := i) (b := sumL m l) h1 h3 h4 (by show (chunkL n).length - 1 + 1 = (chunkL n).length; omega) r1
    refine ⟨g1, ?_⟩
    show ktL (lexA i (chunkL n ++ 32 :: sumL m l)).l = _
    rw [g2, r2, h2]
    rfl
def leftT (n : Nat) (l : List Nat) : List UInt8 := preL ++ 32 :: sumL n l
theorem left_lex (l : List Nat) (n : Nat) (hn : n < 256) (hl : ∀ m ∈ l, m < 256) : (lexA 0 (leftT n l)).e = 0 ∧ ktL (lexA 0 (leftT n l)).l = preK ++ toksL n l := by
  obtain ⟨h1, h2, h3, h4⟩ := pre_lex
  obtain ⟨r1, r2⟩ := sum_lex l n (0 + preL.length + 1) hn hl
  obtain ⟨g1, g2⟩ := lex_glue (i := 0) (b := sumL n l) h1 h2 h4 rfl r1
  refine ⟨g1, ?_⟩
  show ktL (lexA 0 (preL ++ 32 :: sumL n l)).l = _
  rw [g2, r2, h3]

section
variable {L : List Tk}
theorem kt_cur {s : PS} {x : Int × List UInt8} {r : List (Int × List UInt8)} (h : ktL (L.drop s.i) = x :: r) : (curT L s).kind = x.1 ∧ (curT L s).text = x.2 ∧ ktL (L.drop (s.i + 1)) = r := by
  unfold ktL at h
  cases hd : L.drop s.i with
  | nil => rw [hd] at h; cases h
  | cons t l =>
    rw [hd] at h
    simp only [List.map_cons, List.cons.injEq] at h
    have hg : curT L s = t := by
      unfold curT
      have : L[s.i]? = some t := by
        have := congrArg (·[0]?) hd
        simpa using this
      rw [List.getD_eq_getElem?_getD, this]
      rfl
    rw [hg, ← h.1]
    refine ⟨rfl, rfl, ?_⟩
    rw [← List.drop_drop, hd]
    exact h.2
theorem kt_is {s : PS} {x : Int × List UInt8} {r : List (Int × List UInt8)} (h : ktL (L.drop s.i) = x :: r) (he : s.e = 0) (t : List UInt8) : isT L s t = ((x.1 == 4 || x.1 == 3) && x.2 == t) := by
  obtain ⟨h1, h2, _⟩ := kt_cur h
  unfold isT
  rw [h1, h2, he]
  rfl
def numN (n : Nat) : Nd := ⟨1, n, [], [], -1, -1, 0⟩
def ez (n : Nd) : Nd := { n with pos := 0 }
theorem unary_num {s : PS} {n : Nat} {r : List (Int × List UInt8)} (h : ktL (L.drop s.i) = (2, dig8 n) :: r) (hn : n < 256) (he : s.e = 0) (q : Nat) (l : List Nd) : ∃ x, unaryT L (q + 1) s l = (l ++ [x], s.go) ∧ ez x = numN n := by
  obtain ⟨h1, h2, _⟩ := kt_cur h
  unfold unaryT
  simp only
  rw [if_neg (by rw [he]; simp), kt_is h he, kt_is h he, kt_is h he, if_neg (by simp), if_neg (by simp), if_pos h1, h2]
  refine ⟨_, rfl, ?_⟩
  have := dig_val ⟨n, hn⟩
  simp only at this
  rw [this]
  rfl
theorem which_no {s : PS} {x : Int × List UInt8} {r : List (Int × List UInt8)} (h : ktL (L.drop s.i) = x :: r) (he : s.e = 0) : ∀ ops : List (List UInt8 × Int), (∀ o ∈ ops, ¬ x.2 = o.1) → whichT L s ops = none
  | [], _ => rfl
  | (t, k) :: o, hx => by
    unfold whichT
    have h1 : (x.2 == t) = false := beq_eq_false_iff_ne.2 (hx (t, k) (by simp))
    rw [kt_is h he, h1, Bool.and_false, if_neg (by simp)]
    exact which_no h he o fun o ho => hx o (by simp [ho])
theorem op_stop {s : PS} {U : EX} {ops : List (List UInt8 × Int)} (he : s.e = 0) (hw : whichT L s ops = none) (q : Nat) (l : List Nd) : opLoop L ops U (q + 1) s l = (l, s) := by
  unfold opLoop
  rw [if_neg (by rw [he]; simp), hw]
theorem op_more {s : PS} {U : EX} {ops : List (List UInt8 × Int)} {k : Int} (he : s.e = 0) (hw : whichT L s ops = some k) (q : Nat) (l : List Nd) : opLoop L ops U (q + 1) s l = opLoop L ops U q (U s.go l).2 (twoT (U s.go l).1 ((l.length : Int) - 1) k (curT L s).pos) := by
  rw [opLoop, if_neg (by rw [he]; simp), hw]
theorem tail_no {s : PS} {l : List Nat} (h : ktL (L.drop s.i) = tailL l) (he : s.e = 0) : whichT L s mulOps = none := by
  cases l with
  | nil => exact which_no h he _ (by decide)
  | cons m l => exact which_no h he _ (by decide)
/-- A number alone. -/
theorem term_one {s : PS} {n : Nat} {l : List Nat} (h : ktL (L.drop s.i) = toksL n l) (hn : n < 256) (he : s.e = 0) (q N : Nat) (acc : List Nd) : ∃ x, termT L (unaryT L (q + 1)) (N + 1) s acc = (acc ++ [x], s.go) ∧ ez x = numN n := by
  obtain ⟨x, h1, h2⟩ := unary_num h hn he q acc
  obtain ⟨_, _, h3⟩ := kt_cur h
  refine ⟨x, ?_, h2⟩
  unfold termT opT
  simp only
  rw [h1]
  exact op_stop (s := s.go) he (tail_no h3 he) _ _
def mulN (a : Int) : Nd := ⟨7, 0, [], [], a, a + 1, 0⟩
def addN (a : Int) : Nd := ⟨5, 0, [], [], a, a + 3, 0⟩
/-- Two times a number. -/
theorem term_two {s : PS} {m : Nat} {l : List Nat} (h : ktL (L.drop s.i) = (2, [50]) :: (4, [42]) :: toksL m l) (hm : m < 256) (he : s.e = 0) (q N : Nat) (acc : List Nd) : ∃ x y z, termT L (unaryT L (q + 1)) (N + 2) s acc = (acc ++ [x, y, z], s.go.go.go) ∧ ez x = numN 2 ∧ ez y = numN m ∧ ez z = mulN acc.length := by
  obtain ⟨x, h1, h2⟩ := unary_num (n := 2) h (by decide) he q acc
  obtain ⟨_, _, h3⟩ := kt_cur h
  obtain ⟨_, _, h4⟩ := kt_cur (s := s.go) h3
  obtain ⟨y, h5, h6⟩ := unary_num (s := s.go.go) h4 hm he q (acc ++ [x])
  obtain ⟨_, _, h7⟩ := kt_cur (s := s.go.go) h4
  have hw : whichT L s.go mulOps = some 7 := by
    unfold mulOps whichT
    rw [kt_is (s := s.go) h3 he, if_pos (by decide)]
  refine ⟨x, y, ndK 7 (((acc ++ [x]).length : Int) - 1) (((acc ++ [x] ++ [y]).length : Int) - 1) (curT L s.go).pos, ?_, h2, h6, ?_⟩
  · unfold termT opT
    simp only
    rw [h1]
    simp only
    rw [op_more (s := s.go) he hw, h5]
    rw [op_stop (s := s.go.go.go) he (tail_no h7 he)]
    unfold twoT
    rw [List.append_assoc, List.append_assoc]
    rfl
  · unfold ez ndK mulN
    simp
    omega
/-- Nodes of the sum. -/
def sumN : List Nd → List Nat → List Nd
  | A, [] => A
  | A, m :: l => sumN (A ++ [numN 2, numN m, mulN A.length, addN ((A.length : Int) - 1)]) l
def PS.plus (s : PS) (k : Nat) : PS := { s with i := s.i + k }
theorem sum_loop (q N : Nat) : ∀ (l : List Nat) (F : Nat) (s : PS) (acc : List Nd), (∀ m ∈ l, m < 256) → s.e = 0 → ktL (L.drop s.i) = tailL l → l.length < F → ∃ r, opLoop L addOps (termT L (unaryT L (q + 1)) (N + 2)) F s acc = (r, s.plus (4 * l.length)) ∧ r.map ez = sumN (acc.map ez) l
  | [], F, s, acc, _, he, h, hF => by
    obtain ⟨F, rfl⟩ : ∃ f, F = f + 1 := ⟨F - 1, by simp at hF; omega⟩
    exact ⟨acc, op_stop he (which_no h he _ (by decide)) _ _, rfl⟩
  | m :: l, F, s, acc, hl, he, h, hF => by
    obtain ⟨F, rfl⟩ : ∃ f, F = f + 1 := ⟨F - 1, by simp at hF; omega⟩
    simp only [List.length_cons] at hF
    obtain ⟨_, _, h3⟩ := kt_cur h
    have hw : whichT L s addOps = some 5 := by
      unfold addOps whichT
      rw [kt_is h he, if_pos (by decide)]
    obtain ⟨x, y, z, e1, e2, e3, e4⟩ := term_two (s := s.go) (l := l) h3 (hl m (by simp)) he q N acc
    obtain ⟨_, _, h4⟩ := kt_cur (s := s.go) h3
    obtain ⟨_, _, h5⟩ := kt_cur (s := s.go.go) h4
    obtain ⟨_, _, h6⟩ := kt_cur (s := s.go.go.go) h5
    rw [op_more he hw, e1]
    obtain ⟨r, f1, f2⟩ := sum_loop q N l F s.go.go.go.go _ (fun x hx => hl x (by simp [hx])) he h6 (by omega)
    refine ⟨r, ?_, ?_⟩
    · rw [f1]
      congr 1
      show PS.mk _ _ _ _ = PS.mk _ _ _ _
      congr 1
      show s.i + 1 + 1 + 1 + 1 + 4 * l.length = s.i + 4 * (l.length + 1)
      omega
    · rw [f2]
      show _ = sumN (acc.map ez ++ [numN 2, numN m, mulN (acc.map ez).length, addN (((acc.map ez).length : Int) - 1)]) l
      congr 1
      unfold twoT
      simp only [List.map_append, List.map_cons, List.map_nil, e2, e3, e4, List.length_map, List.append_assoc, List.cons_append, List.nil_append]
      congr 4
      unfold ez ndK addN
      simp
      omega
/-- The whole expression. -/
theorem expr_left {s : PS} {n : Nat} {l : List Nat} (hn : n < 256) (hl : ∀ m ∈ l, m < 256) (he : s.e = 0) (h : ktL (L.drop s.i) = toksL n l) (hF : l.length + 1 < L.length) : ∃ r, exprN L s = (r, s.plus (4 * l.length + 1)) ∧ r.map ez = sumN [numN n] l := by
  obtain ⟨M, hM⟩ : ∃ M, L.length = M + 1 := ⟨L.length - 1, by omega⟩
  obtain ⟨x, h1, h2⟩ := term_one h hn he (M + 1) (M + 1) []
  obtain ⟨_, _, h3⟩ := kt_cur h
  obtain ⟨r, f1, f2⟩ := sum_loop (M + 1) M l (M + 2) s.go ([] ++ [x]) hl he h3 (by omega)
  refine ⟨r, ?_, ?_⟩
  · unfold exprN exprT
    simp only
    have e : sumT L (unaryT L (L.length + 1)) (L.length + 1) s [] = (r, s.plus (4 * l.length + 1)) := by
      rw [hM]
      unfold sumT opT
      simp only
      rw [h1]
      simp only
      rw [f1]
      congr 1
      show PS.mk _ _ _ _ = PS.mk _ _ _ _
      congr 1
      show s.i + 1 + 4 * l.length = s.i + (4 * l.length + 1)
      omega
    rw [e]
    simp only
    have ht : ∀ (l : List Nat) (s : PS), ktL (L.drop s.i) = tailL l → ktL (L.drop (s.i + 4 * l.length)) = tailL [] := by
      intro l
      induction l with
      | nil => exact fun s h => h
      | cons m l ih =>
        intro s h
        obtain ⟨_, _, a1⟩ := kt_cur h
        obtain ⟨_, _, a2⟩ := kt_cur (s := s.go) a1
        obtain ⟨_, _, a3⟩ := kt_cur (s := s.go.go) a2
        obtain ⟨_, _, a4⟩ := kt_cur (s := s.go.go.go) a3
        have := ih s.go.go.go.go a4
        rw [show s.i + 4 * (m :: l).length = s.go.go.go.go.i + 4 * l.length by
          show s.i + 4 * (l.length + 1) = s.i + 1 + 1 + 1 + 1 + 4 * l.length
          omega]
        exact this
    have h4 := ht l s.go h3
    rw [which_no (s := s.plus (4 * l.length + 1)) (x := (4, [59])) (r := [(4, [125]), (0, [])]) (by
      rw [show (s.plus (4 * l.length + 1)).i = s.go.i + 4 * l.length by
        show s.i + (4 * l.length + 1) = s.i + 1 + 4 * l.length
        omega]
      exact h4) he _ (by decide)]
  · rw [f2, List.nil_append, List.map_cons, List.map_nil, h2]
theorem name_yes {s : PS} {d : List UInt8} {r : List (Int × List UInt8)} (h : ktL (L.drop s.i) = (1, d) :: r) (he : s.e = 0) : nameT L s = (d, s.go) := by
  obtain ⟨h1, h2, _⟩ := kt_cur h
  unfold nameT
  rw [if_neg (by rw [h1, he]; simp), h2]
theorem want_yes {s : PS} {x : Int × List UInt8} {t : List UInt8} {r : List (Int × List UInt8)} (h : ktL (L.drop s.i) = x :: r) (he : s.e = 0) (hx : ((x.1 == 4 || x.1 == 3) && x.2 == t) = true) : wantT L s t = s.go := by
  unfold wantT
  rw [kt_is h he, hx, if_pos rfl]
theorem left_stmt {n : Nat} {l : List Nat} (hn : n < 256) (hl : ∀ m ∈ l, m < 256) (hk : ktL L = preK ++ toksL n l) (hF : l.length + 1 < L.length) (q : Nat) : ∃ r h, stmtT L (q + 1) ⟨13, 1, 0, 0⟩ = (.mk h [] [], ⟨15 + (4 * l.length + 1) + 1, 1, 0, 0⟩) ∧ h.e = r ∧ r.map ez = sumN [numN n] l ∧ ktL (L.drop (15 + (4 * l.length + 1) + 1)) = [(4, [125]), (0, [])] := by
  have hd : ∀ j, ktL (L.drop j) = (preK ++ toksL n l).drop j := fun j => by
    rw [← hk]
    unfold ktL
    rw [List.map_drop]
  obtain ⟨r, e1, e2⟩ := expr_left (s := ⟨15, 1, 0, 0⟩) hn hl rfl (hd 15) hF
  have he : ktL (L.drop (15 + (4 * l.length + 1))) = tailL [] := by
    rw [hd]
    have : ∀ (l : List Nat) (k : Nat), (tailL l).drop (4 * l.length) = tailL [] := by
      intro l
      induction l with
      | nil => exact fun _ => rfl
      | cons m l ih =>
        intro k
        rw [show 4 * (m :: l).length = 4 + 4 * l.length by simp; omega, ← List.drop_drop]
        exact ih k
    rw [show 15 + (4 * l.length + 1) = 16 + 4 * l.length by omega, ← List.drop_drop]
    exact this l 0
  obtain ⟨_, _, he2⟩ := kt_cur (s := ⟨15 + (4 * l.length + 1), 1, 0, 0⟩) he
  have h13 := hd 13
  obtain ⟨k1, _, _⟩ := kt_cur (s := ⟨13, 1, 0, 0⟩) h13
  refine ⟨r, { sh0 (curT L ⟨13, 1, 0, 0⟩).pos with kind := 3, e := r }, ?_, rfl, e2, he2⟩
  · unfold stmtT
    simp only
    rw [if_neg (by rw [k1]; decide), kt_is (s := ⟨13, 1, 0, 0⟩) h13 rfl, if_neg (by decide), kt_is (s := ⟨13, 1, 0, 0⟩) h13 rfl, if_pos (by decide)]
    unfold endT resultT
    simp only
    rw [want_yes (s := PS.go ⟨13, 1, 0, 0⟩) (hd 14) rfl (by decide)]
    have e1' : exprN L (PS.go (PS.go ⟨13, 1, 0, 0⟩)) = (r, PS.plus ⟨15, 1, 0, 0⟩ (4 * l.length + 1)) := e1
    rw [e1', want_yes (s := PS.plus ⟨15, 1, 0, 0⟩ (4 * l.length + 1)) he rfl (by decide)]
    rfl
theorem is_at {s : PS} {x : Int × List UInt8} {r : List (Int × List UInt8)} {t : List UInt8} (h : ktL (L.drop s.i) = x :: r) (he : s.e = 0) (b : Bool) (hb : ((x.1 == 4 || x.1 == 3) && x.2 == t) = b) : isT L s t = b := by rw [kt_is h he, hb]
theorem left_proc {n : Nat} {l : List Nat} (hn : n < 256) (hl : ∀ m ∈ l, m < 256) (hk : ktL L = preK ++ toksL n l) (hF : l.length + 2 < L.length) : ∃ p h, procT L ⟨4, 0, 0, 0⟩ = (p, ⟨15 + (4 * l.length + 1) + 2, 0, 0, 0⟩) ∧ p.body = [.mk h [] []] ∧ h.e.map ez = sumN [numN n] l ∧ ktL (L.drop (15 + (4 * l.length + 1) + 2)) = [(0, [])] := by
  have hd : ∀ j, ktL (L.drop j) = (preK ++ toksL n l).drop j := fun j => by
    rw [← hk]
    unfold ktL
    rw [List.map_drop]
  obtain ⟨M, hM⟩ : ∃ M, L.length = M + 2 := ⟨L.length - 2, by omega⟩
  obtain ⟨r, h, e1, e2, e3, e4⟩ := left_stmt hn hl hk (by omega) (M + 1 + 1)
  obtain ⟨_, _, e5⟩ := kt_cur (s := ⟨15 + (4 * l.length + 1) + 1, 1, 0, 0⟩) e4
  have hb : blockN L ⟨12, 0, 0, 0⟩ = ([.mk h [] []], ⟨15 + (4 * l.length + 1) + 2, 0, 0, 0⟩) := by
    unfold blockN blockT
    simp only
    have ho : openT L ⟨12, 0, 0, 0⟩ [123] = ⟨13, 1, 0, 0⟩ := by
      unfold openT
      simp only
      rw [if_neg (by simp), want_yes (s := ⟨12, 0, 0, 0⟩) (hd 12) rfl (by decide)]
      rfl
    rw [ho, hM]
    have hs : stmLoop L (stmtT L (M + 2 + 1)) (M + 2 + 1) ⟨13, 1, 0, 0⟩ [] = ([.mk h [] []], ⟨15 + (4 * l.length + 1) + 1, 1, 0, 0⟩) := by
      rw [stmLoop, is_at (s := ⟨13, 1, 0, 0⟩) (t := [125]) (hd 13) rfl false (by decide), if_neg (by simp)]
      simp only
      rw [e1]
      simp only
      rw [stmLoop, is_at (s := ⟨15 + (4 * l.length + 1) + 1, 1, 0, 0⟩) (t := [125]) e4 rfl true (by decide), if_pos (by simp)]
      rfl
    rw [hs]
    simp only
    rw [want_yes (s := ⟨15 + (4 * l.length + 1) + 1, 1, 0, 0⟩) e4 rfl (by decide)]
    rfl
  have q1 : listT L (paramT L) ⟨6, 0, 0, 0⟩ [41] = ([], ⟨7, 0, 0, 0⟩) := by
    unfold listT
    simp only
    rw [is_at (s := ⟨6, 0, 0, 0⟩) (t := [41]) (hd 6) rfl true (by decide), if_pos rfl]
    simp only
    rw [want_yes (s := ⟨6, 0, 0, 0⟩) (hd 6) rfl (by decide)]
    rfl
  have q2 : listT L (nameT L) ⟨11, 0, 0, 0⟩ [125] = ([], ⟨12, 0, 0, 0⟩) := by
    unfold listT
    simp only
    rw [is_at (s := ⟨11, 0, 0, 0⟩) (t := [125]) (hd 11) rfl true (by decide), if_pos rfl]
    simp only
    rw [want_yes (s := ⟨11, 0, 0, 0⟩) (hd 11) rfl (by decide)]
    rfl
  have w1 : nameT L ⟨4, 0, 0, 0⟩ = ([112], ⟨5, 0, 0, 0⟩) := name_yes (s := ⟨4, 0, 0, 0⟩) (hd 4) rfl
  have w2 : wantT L ⟨5, 0, 0, 0⟩ [40] = ⟨6, 0, 0, 0⟩ := want_yes (s := ⟨5, 0, 0, 0⟩) (hd 5) rfl (by decide)
  have w3 : isT L ⟨7, 0, 0, 0⟩ [45, 62] = false := is_at (s := ⟨7, 0, 0, 0⟩) (hd 7) rfl false (by decide)
  have w4 : wantT L ⟨7, 0, 0, 0⟩ kPc = ⟨8, 0, 0, 0⟩ := want_yes (s := ⟨7, 0, 0, 0⟩) (hd 7) rfl (by decide)
  have w5 : nameT L ⟨8, 0, 0, 0⟩ = ([97], ⟨9, 0, 0, 0⟩) := name_yes (s := ⟨8, 0, 0, 0⟩) (hd 8) rfl
  have w6 : wantT L ⟨9, 0, 0, 0⟩ kUses = ⟨10, 0, 0, 0⟩ := want_yes (s := ⟨9, 0, 0, 0⟩) (hd 9) rfl (by decide)
  have w7 : wantT L ⟨10, 0, 0, 0⟩ [123] = ⟨11, 0, 0, 0⟩ := want_yes (s := ⟨10, 0, 0, 0⟩) (hd 10) rfl (by decide)
  refine ⟨⟨[112], [], false, [], [97], [], [.mk h [] []], (curT L ⟨4, 0, 0, 0⟩).pos⟩, h, ?_, rfl, by rw [e2]; exact e3, e5⟩
  unfold procT
  simp only [w1, w2, q1, w3, w4, w5, w6, w7, q2, hb, Bool.false_eq_true, if_false]
/-- What the parser tells of the whole. -/
theorem left_module {n : Nat} {l : List Nat} (hn : n < 256) (hl : ∀ m ∈ l, m < 256) (hk : ktL L = preK ++ toksL n l) (hF : l.length + 2 < L.length) : ∃ m p h, moduleT L ps0 = (m, ⟨15 + (4 * l.length + 1) + 2, 0, 0, 0⟩) ∧ m.procs = [p] ∧ p.body = [.mk h [] []] ∧ h.e.map ez = sumN [numN n] l := by
  have hd : ∀ j, ktL (L.drop j) = (preK ++ toksL n l).drop j := fun j => by
    rw [← hk]
    unfold ktL
    rw [List.map_drop]
  obtain ⟨M, hM⟩ : ∃ M, L.length = M + 2 := ⟨L.length - 2, by omega⟩
  obtain ⟨p, h, e1, e2, e3, e4⟩ := left_proc hn hl hk hF
  obtain ⟨k0, _, _⟩ := kt_cur (s := ⟨15 + (4 * l.length + 1) + 2, 0, 0, 0⟩) e4
  obtain ⟨k3, _, _⟩ := kt_cur (s := ⟨3, 0, 0, 0⟩) (hd 3)
  have w1 : wantT L ps0 kModule = ⟨1, 0, 0, 0⟩ := want_yes (s := ps0) (hd 0) rfl (by decide)
  have w2 : nameT L ⟨1, 0, 0, 0⟩ = ([109], ⟨2, 0, 0, 0⟩) := name_yes (s := ⟨1, 0, 0, 0⟩) (hd 1) rfl
  have w3 : wantT L ⟨2, 0, 0, 0⟩ [59] = ⟨3, 0, 0, 0⟩ := want_yes (s := ⟨2, 0, 0, 0⟩) (hd 2) rfl (by decide)
  have w4 : impLoop L (L.length + 1) ⟨3, 0, 0, 0⟩ [] = ([], ⟨3, 0, 0, 0⟩) := by
    rw [impLoop, is_at (s := ⟨3, 0, 0, 0⟩) (t := kImport) (hd 3) rfl false (by decide), if_neg (by simp)]
  have w5 : declLoop L (L.length + 1) ⟨3, 0, 0, 0⟩ [] [] = (([], [p]), ⟨15 + (4 * l.length + 1) + 2, 0, 0, 0⟩) := by
    rw [hM, declLoop, if_neg (by rw [k3]; decide), is_at (s := ⟨3, 0, 0, 0⟩) (t := kVar) (hd 3) rfl false (by decide), if_neg (by simp), is_at (s := ⟨3, 0, 0, 0⟩) (t := kProc) (hd 3) rfl true (by decide), if_pos rfl]
    show declLoop L (M + 2) (procT L ⟨4, 0, 0, 0⟩).2 [] ([] ++ [(procT L ⟨4, 0, 0, 0⟩).1]) = _
    rw [e1, declLoop, if_pos (.inr k0)]
    rfl
  refine ⟨⟨[109], (curT L ⟨1, 0, 0, 0⟩).pos, [], [], [p]⟩, p, h, ?_, rfl, e2, e3⟩
  unfold moduleT
  simp only [w1, w2, w3, w4, w5]
end
theorem kt_len (L : List Tk) : (ktL L).length = L.length := by
  unfold ktL
  rw [List.length_map]
theorem tail_len : ∀ l : List Nat, (tailL l).length = 4 * l.length + 3
  | [] => rfl
  | m :: l => by
    show (tailL l).length + 1 + 1 + 1 + 1 = _
    rw [tail_len l, List.length_cons]
    omega
theorem sumL_len : ∀ (l : List Nat) (n : Nat), (sumL n l).length ≤ 6 + 10 * l.length
  | [], n => by
    have := (dig_len n).1
    unfold sumL
    simp only [List.length_append, List.length_cons, List.length_nil]
    omega
  | m :: l, n => by
    have h1 := (dig_len n).1
    have h2 := sumL_len l m
    show (chunkL n ++ 32 :: sumL m l).length ≤ _
    unfold chunkL
    simp only [List.length_append, List.length_cons, List.length_nil]
    omega
/-- What Module tells of it. -/
theorem left_told (l : List Nat) (n : Nat) (hn : n < 256) (hl : ∀ m ∈ l, m < 256) (h60 : l.length ≤ 60) : ∃ m p h, parseP (leftT n l) = (m, 0, 0) ∧ m.procs = [p] ∧ p.body = [.mk h [] []] ∧ h.e.map ez = sumN [numN n] l := by
  obtain ⟨h1, h2⟩ := left_lex l n hn hl
  have hlen : (leftT n l).length ≤ 8192 := by
    have := sumL_len l n
    unfold leftT
    rw [List.length_append, List.length_cons, show preL.length = 42 from rfl]
    omega
  have hp : lexP (leftT n l) = lexA 0 (leftT n l) := if_neg (by omega)
  have hF : l.length + 2 < (lexA 0 (leftT n l)).l.length := by
    have h3 := congrArg List.length h2
    rw [kt_len, List.length_append, show preK.length = 15 from rfl] at h3
    unfold toksL at h3
    rw [List.length_cons, tail_len] at h3
    omega
  obtain ⟨m, p, h, e1, e2, e3, e4⟩ := left_module hn hl h2 hF
  refine ⟨m, p, h, ?_, e2, e3, e4⟩
  unfold parseP
  rw [hp, if_neg (by rw [h1]; simp)]
  simp only
  rw [e1, if_neg (by simp)]

end Go.Proofs.YtlofkmoeilikkaaDoor

namespace Go.Proofs.YtlofkmoeilikkaaDoor
open Go.RowKit Go.Lib
set_option maxRecDepth 100000

theorem digs8 {n : Nat} (h : n < 256) : digs n = dig8 n := by
  unfold dig8
  split
  · rename_i h1
    exact digs_small h1
  · rename_i h1
    rw [digs_more h1]
    split
    · rename_i h2
      rw [digs_small (by omega)]
      rfl
    · rename_i h2
      rw [digs_more (by omega), digs_small (by omega), Nat.div_div_eq_div_mul]
      rfl
/-- The text so far. -/
def pT (n : Nat) (l : List Nat) : List UInt8 := dig8 n ++ l.flatMap fun m => [32, 43, 32, 50, 32, 42, 32] ++ dig8 m
theorem pT_snoc (n : Nat) (l : List Nat) (m : Nat) : pT n (l ++ [m]) = pT n l ++ [32, 43, 32, 50, 32, 42, 32] ++ dig8 m := by
  unfold pT
  simp
theorem pT_sum : ∀ (l : List Nat) (n : Nat), pT n l ++ [59, 32, 125] = sumL n l
  | [], n => by
    unfold pT sumL
    simp
  | m :: l, n => by
    show _ = chunkL n ++ 32 :: sumL m l
    rw [← pT_sum l m]
    unfold pT chunkL
    simp
theorem pT_len : ∀ (l : List Nat) (n : Nat), (pT n l).length ≤ 3 + 10 * l.length
  | [], n => by
    have := (dig_len n).1
    unfold pT
    simpa using this
  | m :: l, n => by
    have h1 := (dig_len n).1
    have h2 := pT_len l m
    unfold pT at h2 ⊢
    simp only [List.flatMap_cons, List.length_append, List.length_cons, List.length_nil] at h2 ⊢
    omega
theorem sumN_snoc : ∀ (l : List Nat) (A : List Nd) (m : Nat), sumN A (l ++ [m]) = sumN A l ++ [numN 2, numN m, mulN (sumN A l).length, addN (((sumN A l).length : Int) - 1)]
  | [], _, _ => rfl
  | _ :: l, _, m => sumN_snoc l _ m
theorem sumN_len : ∀ (l : List Nat) (A : List Nd), (sumN A l).length = A.length + 4 * l.length
  | [], _ => rfl
  | _ :: l, _ => by
    show (sumN _ l).length = _
    rw [sumN_len l]
    simp only [List.length_append, List.length_cons, List.length_nil]
    omega

/-- The numbers of some bytes. -/
def nums (l : List UInt8) : List Nat := l.map UInt8.toNat

theorem own_lit (w : World) (base : Nat) (o : Nd) (hb : base ≤ w.heap.size) : OwnN (w.alloc (.cells #[.int .i64 o.kind, .int .i64 o.num, .string (tx o.mod), .string (tx o.name), .int .i64 o.a, .int .i64 o.b, .int .i64 (o.pos : Int)] 45)) base (.slice (some ⟨w.heap.size, 0, none⟩) 1 1) 1 [o] :=
  ⟨rfl, rfl, .inr ⟨w.heap.size, 1, _, rfl, hb, heap_alloc_new _ _, Nat.le_refl _, by decide, rfl, rfl⟩⟩
theorem nums_take {t : List UInt8} {i : Nat} {x : UInt8} (h : t[i]? = some x) : nums (t.take (i + 1)) = nums (t.take i) ++ [x.toNat] := by
  unfold nums
  rw [List.take_add_one, h]
  simp

theorem own_four {w : World} {base : Nat} {v : Value} {A : List Nd} {m q x : Nat} (hm : m = q + 1) (hA : m = A.length)
    (h : w.ownsRow base 45 7 v (m + 2 + 1 + 1) (((nvs A ++ (nv (numN 2) ++ nv (numN x))) ++ nv ⟨7, 0, [], [], (q : Int) + 1, (q : Int) + 2, 0⟩) ++ nv ⟨5, 0, [], [], (q : Int), (q : Int) + 3, 0⟩)) :
    OwnN w base v (m + 2 + 1 + 1) (A ++ [numN 2, numN x, mulN A.length, addN ((A.length : Int) - 1)]) := by
  refine ⟨by rw [List.length_append, ← hA]; rfl, ?_⟩
  have e1 : mulN (A.length : Int) = ⟨7, 0, [], [], (q : Int) + 1, (q : Int) + 2, 0⟩ := by
    unfold mulN
    rw [← hA, hm]
    congr 1
  have e2 : addN ((A.length : Int) - 1) = ⟨5, 0, [], [], (q : Int), (q : Int) + 3, 0⟩ := by
    unfold addN
    rw [← hA, hm]
    congr 1 <;> simp
  rw [e1, e2]
  have e3 : nvs (A ++ [numN 2, numN x, ⟨7, 0, [], [], (q : Int) + 1, (q : Int) + 2, 0⟩, ⟨5, 0, [], [], (q : Int), (q : Int) + 3, 0⟩]) = ((nvs A ++ (nv (numN 2) ++ nv (numN x))) ++ nv ⟨7, 0, [], [], (q : Int) + 1, (q : Int) + 2, 0⟩) ++ nv ⟨5, 0, [], [], (q : Int), (q : Int) + 3, 0⟩ := by
    unfold nvs
    simp
  rw [e3]
  exact h

theorem left_cells {w : World} {P : Nat → Prop} {md : Mdl} {pr : Prc} {hd : SH} {vI vV vP : Value} (hv : ModV w P md (mdlV md vI vV vP)) (e2 : md.procs = [pr]) (e3 : pr.body = [.mk hd [] []]) :
    ∃ aP cP aB cB vE kE, vP = .slice (some aP) 1 cP ∧ w.cell? ⟨aP.block, aP.off + 6, none⟩ = some (.slice (some aB) 1 cB) ∧ w.cell? ⟨aB.block, aB.off + 8, none⟩ = some vE ∧ NodesP w P vE kE hd.e := by
  obtain ⟨vI', nI, vV', nV, vP', nP, e, _, _, h3⟩ := hv
  simp only [mdlV, List.cons.injEq, true_and, and_true] at e
  obtain ⟨rfl, rfl, rfl⟩ := e
  rw [e2] at h3
  obtain ⟨rfl, _, _, cs, ⟨ao, cap, rfl, _, _, hz, hat⟩, c, d, rfl, hc8, hpv, hd0⟩ := h3
  obtain rfl : d = [] := hd0
  obtain ⟨_, _, _, _, vB, nB, rfl, _, _, hb⟩ := hpv
  rw [e3] at hb
  obtain ⟨rfl, _, _, cb, ⟨ao2, cap2, rfl, _, _, hz2, hat2⟩, c2, d2, rfl, hc12, hsv, hd2⟩ := hb
  obtain rfl : d2 = [] := hd2
  obtain ⟨vE, nE, _, _, _, _, _, _, rfl, hne, _, _, _⟩ := StmV.iff.1 hsv
  obtain ⟨aP, rfl⟩ : ∃ a, ao = some a := by
    cases ao with
    | none => exact absurd (hz rfl).1 (by simp)
    | some a => exact ⟨a, rfl⟩
  obtain ⟨aB, rfl⟩ : ∃ a, ao2 = some a := by
    cases ao2 with
    | none => exact absurd (hz2 rfl).1 (by simp)
    | some a => exact ⟨a, rfl⟩
  exact ⟨aP, cap, aB, cap2, vE, nE, rfl, hat aP rfl 6 _ rfl, hat2 aB rfl 8 _ rfl, hne⟩
/-- A node's cells. -/
def NdC (w : World) (a : Addr) (o : Nd) : Prop := w.cell? a = some (.int .i64 o.kind) ∧ w.cell? ⟨a.block, a.off + 1, none⟩ = some (.int .i64 o.num) ∧ w.cell? ⟨a.block, a.off + 2, none⟩ = some (.string (tx o.mod)) ∧ w.cell? ⟨a.block, a.off + 3, none⟩ = some (.string (tx o.name)) ∧ w.cell? ⟨a.block, a.off + 4, none⟩ = some (.int .i64 o.a) ∧ w.cell? ⟨a.block, a.off + 5, none⟩ = some (.int .i64 o.b) ∧ w.cell? ⟨a.block, a.off + 6, none⟩ = some (.int .i64 (o.pos : Int))
theorem cells_nd {w : World} {v : Value} {k : Nat} {l : List Nd} (h : Cells w v 7 k (nvs l)) (hl : k = l.length) {j : Nat} (hj : j < k) : ∃ a c o, v = .slice (some a) k c ∧ k ≤ c ∧ l[j]? = some o ∧ NdC w (a.add (j * 7)) o := by
  obtain ⟨ao, c, rfl, _, hc, hz, hat⟩ := h
  obtain ⟨a, rfl⟩ : ∃ a, ao = some a := by
    cases ao with
    | none => exact absurd (hz rfl).1 (by omega)
    | some a => exact ⟨a, rfl⟩
  obtain ⟨o, ho⟩ : ∃ o, l[j]? = some o := ⟨_, List.getElem?_eq_getElem (by omega)⟩
  have hb : (a.add (j * 7)).block = a.block := by unfold Addr.add; split <;> rfl
  have ca : ∀ i u, i < 7 → (nv o)[i]? = some u → 0 < i → w.cell? ⟨(a.add (j * 7)).block, (a.add (j * 7)).off + i, none⟩ = some u := fun i u hi hu h0 => by
    have := hat a rfl (j * 7 + i) u (by rw [nvs_at ho i hi]; exact hu)
    have e : a.add (j * 7 + i) = ⟨(a.add (j * 7)).block, (a.add (j * 7)).off + i, none⟩ := by
      unfold Addr.add
      rw [if_neg (by omega)]
      split
      · rename_i h7
        rw [h7, Nat.zero_add]
      · congr 1
        show _ = a.off + j * 7 + i
        omega
    rw [← e]
    exact this
  have c0 : w.cell? (a.add (j * 7)) = some (.int .i64 o.kind) := hat a rfl (j * 7) _ (by have := nvs_at ho 0 (by decide); rw [Nat.add_zero] at this; rw [this]; rfl)
  exact ⟨a, c, o, rfl, hc, ho, c0, ca 1 _ (by decide) rfl (by decide), ca 2 _ (by decide) rfl (by decide), ca 3 _ (by decide) rfl (by decide), ca 4 _ (by decide) rfl (by decide), ca 5 _ (by decide) rfl (by decide), ca 6 _ (by decide) rfl (by decide)⟩
theorem parts_nvs : ∀ {l : List Nd} {cs : List Value}, Parts 7 NdV l cs → cs = nvs l
  | [], _, h => h
  | _ :: l, _, ⟨c, d, e, _, h2, h3⟩ => by
    subst e
    rw [h2, parts_nvs h3]
    rfl

set_option maxHeartbeats 16000000 in
theorem left_walk (K : ParseK) (l : List UInt8) (v : Value) (w : World) (ht : SgW w) (hr : Reads w v (bv l)) : Calls Tryd.prog 6 #[v] w fun e w' => e = .returned (.bool true) ∧ Below w.heap.size w w' := by
  have HK := Lib.hid K
  have HT := Lib.hid ht
  obtain ⟨ao, c, rfl, hc0, hnz, hat⟩ := hr
  rw [bv_length] at hc0 ⊢
  clear K ht
  by_cases h0 : l.length = 0
  · have h0' : (l.length : Int) = 0 := by omega
    clear hat hnz
    go_enter Tryd.func6, Tryd.ntmps6
    go_wp2_with (go_at_call 9; refine (awake_par HK.out _ HT.out).mono ?_; rintro e w' ⟨rfl, hb9⟩; have H9 := Lib.hid hb9; clear hb9)
    go_ret
    exact ⟨rfl, H9.out⟩
  have h0' : ¬ (l.length : Int) = 0 := by omega
  by_cases h60 : 60 < l.length
  · have y1 : (60 : Int) < (l.length : Int) := by omega
    clear hat hnz
    go_enter Tryd.func6, Tryd.ntmps6
    go_wp2_with (go_at_call 9; refine (awake_par HK.out _ HT.out).mono ?_; rintro e w' ⟨rfl, hb9⟩; have H9 := Lib.hid hb9; clear hb9)
    go_ret
    exact ⟨rfl, H9.out⟩
  have y1 : ¬ (60 : Int) < (l.length : Int) := by omega
  obtain ⟨a, rfl⟩ : ∃ a, ao = some a := by
    cases ao with
    | some a => exact ⟨a, rfl⟩
    | none =>
      have := (hnz rfl).1
      rw [← bv_length, this] at h0
      exact absurd rfl h0
  have hcell : ∀ (i : Nat) (x : UInt8), l[i]? = some x → w.cell? (a.add i) = some (.int .u8 (x.toNat : Int)) := fun i x hx => hat a rfl i _ (by unfold bv; rw [List.getElem?_map, hx]; rfl)
  have HC := Lib.hid hcell
  obtain ⟨x0, t, rfl⟩ : ∃ x t, l = x :: t := by
    cases l with
    | nil => exact absurd rfl h0
    | cons x t => exact ⟨x, t, rfl⟩
  have c0 : w.cell? a = some (.int .u8 (x0.toNat : Int)) := by
    have := hcell 0 x0 rfl
    unfold Addr.add at this
    rwa [if_pos rfl] at this
  have hx0 := x0.toNat_lt
  have D0 := digits_ref x0.toNat w (by omega)
  rw [digs8 (by omega)] at D0
  obtain ⟨n, hn⟩ : ∃ n, (x0 :: t).length = n := ⟨_, rfl⟩
  have HN := Lib.hid hn
  rw [hn] at h0 h60 h0' y1 hc0 ⊢
  clear hat hnz hcell hn
  go_enter Tryd.func6, Tryd.ntmps6
  go_wp2_with fail
  refine D0.mono ?_
  rintro e w1 ⟨rfl, hb1⟩
  have hg0 : w1.cell? a = some (.int .u8 (x0.toNat : Int)) := by
    rw [World.cell?_of_block (hb1.block _ (World.block_lt_of_cell? w _ c0))]
    exact c0
  obtain ⟨w2, hw2⟩ : ∃ w2, w1.alloc (.cells #[.int .i64 1, .int .i64 (x0.toNat : Int), .string ⟨#[]⟩, .string ⟨#[]⟩, .int .i64 (-1), .int .i64 (-1), .int .i64 0] 45) = w2 := ⟨_, rfl⟩
  have HO : Hid (OwnN w2 w.heap.size (.slice (some ⟨w1.heap.size, 0, none⟩) 1 1) 1 [numN x0.toNat] ∧ Below w.heap.size w w2) := Lib.hid (by
    rw [← hw2]
    exact ⟨own_lit w1 w.heap.size (numN x0.toNat) hb1.size, hb1.alloc hb1.size _⟩)
  clear D0
  go_wp2_with fail
  clear hg0 c0 hw2 hb1
  generalize w1.heap.size = W1 at *
  go_loopw [3, 4, 5, 6] (fun sv lv iv _ wr => ∃ (i m : Nat) (ao : Option Addr) (cp : Nat), i < n ∧ Hid (m = 4 * i + 1) ∧ sv = .string (tx (pT x0.toNat (nums (t.take i)))) ∧ lv = .slice ao m cp ∧ iv = .int .i64 ((i + 1 : Nat) : Int) ∧ Hid (OwnN wr w.heap.size (.slice ao m cp) m (sumN [numN x0.toNat] (nums (t.take i))) ∧ Below w.heap.size w wr))
    (fun _ _ iv _ _ => n + 1 - (RowKit.intOf iv).toNat)
  case atStart => exact ⟨0, 1, _, _, by omega, Lib.hid rfl, by simp [pT, nums]; rfl, rfl, rfl, HO⟩
  case round =>
    obtain ⟨i, m, ao, cp, hi, hm, rfl, rfl, rfl, hO⟩ := hrel
    clear HO
    by_cases hlt : i + 1 < n
    · have h3 : ((i + 1 : Nat) : Int) < (n : Int) := by omega
      obtain ⟨x, hx⟩ : ∃ x, t[i]? = some x := ⟨_, List.getElem?_eq_getElem (by have := HN.out; simp at this; omega)⟩
      have hxl := x.toNat_lt
      have cw := HC.out (i + 1) x hx
      unfold Addr.add at cw
      rw [if_neg (by omega)] at cw
      have cr : wr.cell? ⟨a.block, a.off + (i + 1), none⟩ = some (.int .u8 (x.toNat : Int)) := by
        rw [World.cell?_of_block (hO.out.2.block _ (World.block_lt_of_cell? w _ cw))]
        exact cw
      have hpl : (tx (pT x0.toNat (nums (t.take i)))).size ≤ 700 := by
        rw [tx_size]
        have := pT_len (nums (t.take i)) x0.toNat
        unfold nums at this ⊢
        simp only [List.length_map, List.length_take] at this
        omega
      have D1 := digits_ref x.toNat wr (by omega)
      rw [digs8 (by omega)] at D1
      go_wp2_with fail
      refine D1.mono ?_
      rintro e w5 ⟨rfl, hb5⟩
      have c5 : w5.cell? ⟨a.block, a.off + (i + 1), none⟩ = some (.int .u8 (x.toNat : Int)) := by
        rw [World.cell?_of_block (hb5.block _ (World.block_lt_of_cell? wr _ cr))]
        exact cr
      have H5 : Hid (OwnN w5 w.heap.size (.slice ao m cp) m (sumN [numN x0.toNat] (nums (t.take i))) ∧ Below w.heap.size w w5) := Lib.hid ⟨hO.out.1.chg (Chg.of_below (F := []) hb5) (fun k _ => by simp), hO.out.2.trans (hb5.mono hO.out.2.size)⟩
      have t1 : tx (pT x0.toNat (nums (t.take i))) ++ ⟨#[32, 43, 32, 50, 32, 42, 32]⟩ ++ txt (dig8 x.toNat) = tx (pT x0.toNat (nums (t.take (i + 1)))) := by
        rw [show (⟨#[32, 43, 32, 50, 32, 42, 32]⟩ : ByteArray) = tx [32, 43, 32, 50, 32, 42, 32] from rfl, show txt (dig8 x.toNat) = tx (dig8 x.toNat) from rfl, tx_cat, tx_cat, nums_take hx, pT_snoc]
      have hdl : (txt (dig8 x.toNat)).size ≤ 3 := (dig_len x.toNat).1
      obtain ⟨q, hq⟩ : ∃ q, q = 4 * i := ⟨_, rfl⟩
      have hmq : m = q + 1 := by have := hm.out; omega
      have hm1 : (m : Int) - 1 = (q : Int) := by omega
      have hm0 : m ≤ 300 := by have := hm.out; omega
      have FL1 : Hid (m + 2 ≤ 1000000) := Lib.hid (by omega)
      have FL2 : Hid (m + 2 + 1 ≤ 1000000) := Lib.hid (by omega)
      have FL3 : Hid (m + 2 + 1 + 1 ≤ 1000000) := Lib.hid (by omega)
      have hx2 := nums_take hx
      have HX := Lib.hid hx2
      have HM := Lib.hid (And.intro hm.out hmq)
      clear D1 hO cr cw hx hb5 hx2 hmq hq hm
      go_wp2_with (first | (at_builtin; refine wpList_append_gen elemNode rfl (.tmp 50) (.tmp 58) rfl w.heap.size _ m _ rfl (H5.out.1.2.alloc _) _ 2 (nv (numN 2) ++ nv (numN x.toNat)) rfl (Cells.lit w5 (nv (numN 2) ++ nv (numN x.toNat)) 45 (0, 0) 7 2 rfl) (by intro u hu; rcases List.mem_append.1 hu with h | h <;> exact nv_one _ u h) (m + 2) rfl FL1 (by decide) (by have := H5.out.2.size; simp; omega) ?_; intro ao6 c6 w6 hown6 hb6 hg6 ho6; have H6 := Lib.hid (And.intro hown6 (H5.out.2.trans (((Below.refl _ w5).alloc H5.out.2.size _).trans hb6))); clear hown6 hb6 hg6 ho6) | (at_builtin; refine wpList_append_gen elemNode rfl (.tmp 60) (.tmp 66) rfl w.heap.size _ (m + 2) _ rfl (H6.out.1.alloc _) _ 1 (nv ⟨7, 0, [], [], (q : Int) + 1, (q : Int) + 2, 0⟩) rfl (node_lit w6 ⟨7, 0, [], [], (q : Int) + 1, (q : Int) + 2, 0⟩) (nv_one _) (m + 2 + 1) rfl FL2 (by decide) (by have := H6.out.2.size; simp; omega) ?_; intro ao7 c7 w7 hown7 hb7 hg7 ho7; have H7 := Lib.hid (And.intro hown7 (H6.out.2.trans (((Below.refl _ w6).alloc H6.out.2.size _).trans hb7))); clear hown7 hb7 hg7 ho7) | (at_builtin; refine wpList_append_gen elemNode rfl (.tmp 68) (.tmp 73) rfl w.heap.size _ (m + 2 + 1) _ rfl (H7.out.1.alloc _) _ 1 (nv ⟨5, 0, [], [], (q : Int), (q : Int) + 3, 0⟩) rfl (node_lit w7 ⟨5, 0, [], [], (q : Int), (q : Int) + 3, 0⟩) (nv_one _) (m + 2 + 1 + 1) rfl FL3 (by decide) (by have := H7.out.2.size; simp; omega) ?_; intro ao8 c8 w8 hown8 hb8 hg8 ho8; have H8 := Lib.hid (And.intro hown8 (H7.out.2.trans (((Below.refl _ w7).alloc H7.out.2.size _).trans hb8))); clear hown8 hb8 hg8 ho8))
      refine ⟨⟨i + 1, m + 2 + 1 + 1, ao8, c8, hlt, Lib.hid (by have := HM.out; omega), rfl, rfl, by go_num, Lib.hid ⟨?_, H8.out.2⟩⟩, by simp [RowKit.intOf]; omega⟩
      rw [HX.out, sumN_snoc]
      exact own_four HM.out.2 H5.out.1.1 H8.out.1
    · have h3 : ¬ ((i + 1 : Nat) : Int) < (n : Int) := by omega
      have hit : t.take i = t := List.take_of_length_le (by have := HN.out; simp at this; omega)
      rw [hit] at hO ⊢
      have hln : ∀ m ∈ nums t, m < 256 := by
        intro m hm
        unfold nums at hm
        obtain ⟨u, _, rfl⟩ := List.mem_map.1 hm
        exact u.toNat_lt
      have hl6 : (nums t).length ≤ 60 := by have := HN.out; unfold nums; simp at this ⊢; omega
      obtain ⟨md, pr, hd, e1, e2, e3, e4⟩ := left_told (nums t) x0.toNat hx0 hln hl6
      have t2 : (⟨#[109, 111, 100, 117, 108, 101, 32, 109, 59, 32, 112, 114, 111, 99, 32, 112, 40, 41, 32, 112, 99, 32, 97, 32, 117, 115, 101, 115, 32, 123, 125, 32, 123, 32, 114, 101, 115, 117, 108, 116, 32, 61, 32]⟩ : ByteArray) ++ tx (pT x0.toNat (nums t)) ++ ⟨#[59, 32, 125]⟩ = tx (leftT x0.toNat (nums t)) := by
        rw [show (⟨#[109, 111, 100, 117, 108, 101, 32, 109, 59, 32, 112, 114, 111, 99, 32, 112, 40, 41, 32, 112, 99, 32, 97, 32, 117, 115, 101, 115, 32, 123, 125, 32, 123, 32, 114, 101, 115, 117, 108, 116, 32, 61, 32]⟩ : ByteArray) = tx (preL ++ [32]) from rfl, show (⟨#[59, 32, 125]⟩ : ByteArray) = tx [59, 32, 125] from rfl, tx_cat, tx_cat]
        unfold leftT
        rw [← pT_sum]
        simp
      have hpl : (tx (pT x0.toNat (nums t))).size ≤ 700 := by
        rw [tx_size]
        have := pT_len (nums t) x0.toNat
        omega
      have P := HK.out.mod (leftT x0.toNat (nums t)) wr (HT.out.later hO.out.2)
      rw [e1] at P
      obtain ⟨nm, mp, mi, mv, mq⟩ := md
      simp only at e2
      have hm3 : m ≤ 300 := by have := hm.out; omega
      have Hml : Hid (m = (sumN [numN x0.toNat] (nums t)).length) := Lib.hid hO.out.1.1
      have HE := Lib.hid (And.intro e2 (And.intro e3 e4))
      clear hln hl6 e1 e2 e3 e4 hit
      go_wp2_with fail
      refine P.mono ?_
      rintro e w3 ⟨vI, vV, vP, rfl, hv, hb3⟩
      obtain ⟨e2, e3, e4⟩ := HE.out
      obtain ⟨⟨aI, nI, cI, rfl⟩, ⟨aV, nV, cV, rfl⟩, _⟩ := modV_shapes hv
      obtain ⟨w4, hw4⟩ : ∃ w4, w3.alloc (.cells #[.string (tx nm), .int .i64 (mp : Int), .slice aI nI cI, .slice aV nV cV, vP] 27) = w4 := ⟨_, rfl⟩
      have hc4 : Chg [] w3 w4 := by rw [← hw4]; exact (Chg.refl [] w3).alloc _
      have hv4 := hv.chg hc4 (fun _ _ => by simp) (fun _ h => h)
      have d0 : w4.cell? ⟨w3.heap.size, 4, none⟩ = some vP := by rw [← hw4]; exact cellsN (heap_alloc_new _ _) 4 _ rfl
      obtain ⟨aP, cP, aB, cB, vE, kE, rfl, d1, d2, hne⟩ := left_cells hv4 e2 e3
      obtain ⟨hk1, _, _, cs, hcl, hpt⟩ := hne
      obtain rfl := parts_nvs hpt
      have hkm : kE = m := by
        have := congrArg List.length e4
        rw [List.length_map] at this
        rw [Hml.out, ← this, hk1]
      subst hkm
      obtain ⟨aE, cE, rfl, hcE⟩ : ∃ a c, vE = .slice a kE c ∧ kE ≤ c := by
        obtain ⟨a, c, rfl, _, h, _⟩ := hcl
        exact ⟨a, c, rfl, h⟩
      have hb4 : Below wr.heap.size wr w4 := by rw [← hw4]; exact hb3.alloc hb3.size _
      have hol : Cells w4 (.slice ao kE cp) 7 kE (nvs (sumN [numN x0.toNat] (nums t))) := (Cells.own hO.out.1.2 (by decide)).later hb4
      have HG := Lib.hid (And.intro (hO.out.2.trans (hb4.mono hO.out.2.size)) (And.intro hcl (And.intro hk1 (And.intro hol (And.intro e4 Hml.out)))))
      clear hv hv4 hc4 hcl hpt hol e2 e3 e4 hb3 hb4 HE P t2 hpl hm hO Hml hk1 HC
      simp only
      go_wp2_with (go_at_call 12; refine (lnum_at _ _).mono ?_; rintro e w' ⟨rfl, rfl⟩)
      clear hw4
      have Hd := Lib.hid (And.intro d0 (And.intro d1 d2))
      clear d0 d1 d2
      generalize w3.heap.size = W3 at *
      go_loopw [10, 11] (fun u _ wr => ∃ j : Nat, j ≤ kE ∧ u = .int .i64 j ∧ Hid (Below w.heap.size w wr ∧ Below w4.heap.size w4 wr))
        (fun u _ _ => kE - (RowKit.intOf u).toNat)
      case atStart => exact ⟨0, Nat.zero_le _, rfl, Lib.hid ⟨HG.out.1, Below.refl _ _⟩⟩
      case round =>
        obtain ⟨j, hj, rfl, hG⟩ := hrel
        by_cases hjk : j < kE
        · have h4 : (j : Int) < (kE : Int) := by omega
          obtain ⟨_, g2, g3, g4, g5, g6⟩ := HG.out
          obtain ⟨d0, d1, d2⟩ := Hd.out
          have f0 : wr.cell? ⟨W3, 4, none⟩ = _ := (World.cell?_of_block (hG.out.2.block _ (World.block_lt_of_cell? w4 _ d0))).trans d0
          have f1 : wr.cell? ⟨aP.block, aP.off + 6, none⟩ = _ := (World.cell?_of_block (hG.out.2.block _ (World.block_lt_of_cell? w4 _ d1))).trans d1
          have f2 : wr.cell? ⟨aB.block, aB.off + 8, none⟩ = _ := (World.cell?_of_block (hG.out.2.block _ (World.block_lt_of_cell? w4 _ d2))).trans d2
          obtain ⟨b1, q1, o1, hs1, _, ho1, p0, p1, p2, p3, p4, p5, p6⟩ := cells_nd (g2.later hG.out.2) g3 hjk
          obtain ⟨b2, q2, o2, hs2, _, ho2, r0, r1, r2, r3, r4, r5, r6⟩ := cells_nd (g4.later hG.out.2) g6 hjk
          cases hs1
          cases hs2
          have ho3 : ez o1 = o2 := by
            rw [← g5, List.getElem?_map, ho1] at ho2
            simpa using ho2
          subst ho3
          obtain ⟨k1, m1, s1, s2, a1, a2, ps⟩ := o1
          unfold ez at r0 r1 r2 r3 r4 r5 r6
          simp only at p0 p1 p2 p3 p4 p5 p6 r0 r1 r2 r3 r4 r5 r6
          have hk300 : kE ≤ 300 := hm3
          clear d0 d1 d2 g2 g3 g4 g5 g6 ho1 ho2
          go_wp2_with fail
          generalize hw5 : wr.alloc _ = w5
          have hb5 : Below wr.heap.size wr w5 := by rw [← hw5]; exact (Below.refl _ wr).alloc (Nat.le_refl _) _
          have x0' : w5.cell? ⟨wr.heap.size, 0, none⟩ = some (.int .i64 k1) := by rw [← hw5]; exact cellsN (heap_alloc_new _ _) 0 _ rfl
          have x1' : w5.cell? ⟨wr.heap.size, 1, none⟩ = some (.int .i64 m1) := by rw [← hw5]; exact cellsN (heap_alloc_new _ _) 1 _ rfl
          have x2' : w5.cell? ⟨wr.heap.size, 2, none⟩ = some (.string (tx s1)) := by rw [← hw5]; exact cellsN (heap_alloc_new _ _) 2 _ rfl
          have x3' : w5.cell? ⟨wr.heap.size, 3, none⟩ = some (.string (tx s2)) := by rw [← hw5]; exact cellsN (heap_alloc_new _ _) 3 _ rfl
          have x4' : w5.cell? ⟨wr.heap.size, 4, none⟩ = some (.int .i64 a1) := by rw [← hw5]; exact cellsN (heap_alloc_new _ _) 4 _ rfl
          have x5' : w5.cell? ⟨wr.heap.size, 5, none⟩ = some (.int .i64 a2) := by rw [← hw5]; exact cellsN (heap_alloc_new _ _) 5 _ rfl
          have x6' : w5.cell? ⟨wr.heap.size, 6, none⟩ = some (.int .i64 0) := by rw [← hw5]; exact cellsN (heap_alloc_new _ _) 6 _ rfl
          have v0 := (World.cell?_of_block (hb5.block _ (World.block_lt_of_cell? wr _ r0))).trans r0
          have v1 := (World.cell?_of_block (hb5.block _ (World.block_lt_of_cell? wr _ r1))).trans r1
          have v2 := (World.cell?_of_block (hb5.block _ (World.block_lt_of_cell? wr _ r2))).trans r2
          have v3 := (World.cell?_of_block (hb5.block _ (World.block_lt_of_cell? wr _ r3))).trans r3
          have v4 := (World.cell?_of_block (hb5.block _ (World.block_lt_of_cell? wr _ r4))).trans r4
          have v5 := (World.cell?_of_block (hb5.block _ (World.block_lt_of_cell? wr _ r5))).trans r5
          have v6 := (World.cell?_of_block (hb5.block _ (World.block_lt_of_cell? wr _ r6))).trans r6
          have HB5 : Hid (Below w.heap.size w w5 ∧ Below w4.heap.size w4 w5) := Lib.hid ⟨hG.out.1.trans (hb5.mono hG.out.1.size), hG.out.2.trans (hb5.mono hG.out.2.size)⟩
          clear r0 r1 r2 r3 r4 r5 r6 p0 p1 p2 p3 p4 p5 p6 f0 f1 f2 hb5 hw5 hG
          generalize wr.heap.size = X at *
          go_region
          go_wp2_with fail
          exact ⟨⟨j + 1, by omega, by go_num, Lib.hid ⟨below_drewN HB5.out.1 1, below_drewN HB5.out.2 1⟩⟩, by simp [RowKit.intOf]; omega⟩
        · have h4 : ¬ (j : Int) < (kE : Int) := by omega
          go_wp2_with (go_at_call 9; refine (awake_par HK.out _ (HT.out.later hG.out.1)).mono ?_; rintro e w' ⟨rfl, hb9⟩; have H9 := Lib.hid (hG.out.1.trans (hb9.mono hG.out.1.size)); clear hb9)
          go_ret
          exact ⟨rfl, H9.out⟩

theorem left_B (K : ParseK) (l : List UInt8) (v : Value) (w : World) (ht : SgW w) (hr : Reads w v (bv l)) : Calls Tryd.prog 6 #[v] w fun e w' => e = .returned (.bool true) ∧ Below w.heap.size w w' := left_walk K l v w ht hr

end Go.Proofs.YtlofkmoeilikkaaDoor
