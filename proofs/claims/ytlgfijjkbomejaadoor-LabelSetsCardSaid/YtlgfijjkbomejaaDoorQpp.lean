/- The code's proc. Made by wip/tools/gencproc.py. Numbers and types by name. -/
import Derived.Test.YtlgfijjkbomejaaDoorQpm
import Derived.Test.YtlgfijjkbomejaaDoorQpe
import Derived.Deep.Cut
import Derived.Deep.CutBlock
import Derived.Deep.CutRange
/- The code's stmt, over block; both whole. Made by wip/tools/gencstm.py. Numbers and types by name. -/
namespace Go.Proofs.YtlgfijjkbomejaaDoor
open Go.RowKit Go.Lib
set_option maxRecDepth 100000

section
variable {w0 w wr : World} {b : Nat} {L : List Tk} {T U : Nat} {h : SH} {vE vA vB vC : Value} {body els : List Stm} {s : PS}
end

theorem isT_two {L : List Tk} {s : PS} {t u : List UInt8} (h : isT L s t = true) (hne : t ≠ u) : isT L s u = false := by
  cases hu : isT L s u with
  | false => rfl
  | true => exact absurd ((isT_e h).2.2.symm.trans (isT_e hu).2.2) hne
theorem isT_kind {L : List Tk} {s : PS} {t : List UInt8} (h : isT L s t = true) : ¬ (s.e = 0 ∧ (curT L s).kind = 1) := fun hk => by
  rcases (isT_e h).2.1 with e | e <;> rw [e] at hk <;> exact absurd hk.2 (by decide)
theorem stmt_if {L : List Tk} {s : PS} (N : Nat) (h : isT L s kIf = true) : stmtT L (N + 1) s =
    (if isT L (blockT L (stmtT L N) N (exprN L s.go).2).2 kElse = true then (.mk { sh0 (curT L s).pos with kind := 5, e := (exprN L s.go).1 } (blockT L (stmtT L N) N (exprN L s.go).2).1 (blockT L (stmtT L N) N (blockT L (stmtT L N) N (exprN L s.go).2).2.go).1, (blockT L (stmtT L N) N (blockT L (stmtT L N) N (exprN L s.go).2).2.go).2)
    else (.mk { sh0 (curT L s).pos with kind := 5, e := (exprN L s.go).1 } (blockT L (stmtT L N) N (exprN L s.go).2).1 [], (blockT L (stmtT L N) N (exprN L s.go).2).2)) := by
  conv => lhs; unfold stmtT
  simp only
  rw [if_neg (isT_kind h), isT_two h (u := kLet) (by decide), isT_two h (u := kResult) (by decide), isT_two h (u := kCall) (by decide), isT_two h (u := kEmit) (by decide), isT_two h (u := kSkip) (by decide), h]
  simp
theorem stmt_while {L : List Tk} {s : PS} (N : Nat) (h : isT L s kWhile = true) : stmtT L (N + 1) s =
    (.mk { sh0 (curT L s).pos with kind := 6, e := (exprN L s.go).1 } (blockT L (stmtT L N) N (exprN L s.go).2).1 [], (blockT L (stmtT L N) N (exprN L s.go).2).2) := by
  conv => lhs; unfold stmtT
  simp only
  rw [if_neg (isT_kind h), isT_two h (u := kLet) (by decide), isT_two h (u := kResult) (by decide), isT_two h (u := kCall) (by decide), isT_two h (u := kEmit) (by decide), isT_two h (u := kSkip) (by decide), isT_two h (u := kIf) (by decide), h]
  simp
/-- All others: so, or it fails alike. -/
theorem stmt_simple {L : List Tk} {s : PS} (hL : TokL L) (N : Nat) (he : s.e = 0) (h1 : isT L s kIf = false) (h2 : isT L s kWhile = false) :
    (stmtT L (N + 1) s).2 = (endT L (simpleT L s (curT L s).pos)).2 ∧ ((stmtT L (N + 1) s).2.e = 0 → stmtT L (N + 1) s = endT L (simpleT L s (curT L s).pos)) := by
  by_cases hk : (curT L s).kind = 1
  · have hn : ∀ t, isT L s t = false := fun t => by
      unfold isT
      rw [hk]
      simp
    have e : stmtT L (N + 1) s = endT L (simpleT L s (curT L s).pos) := by
      conv => lhs; unfold stmtT
      unfold simpleT
      simp only
      rw [if_pos ⟨he, hk⟩, hn, hn, hn, hn, hn]
      simp
    exact ⟨by rw [e], fun _ => e⟩
  · by_cases hw : isT L s kLet = true ∨ isT L s kResult = true ∨ isT L s kCall = true ∨ isT L s kEmit = true ∨ isT L s kSkip = true
    · have e : stmtT L (N + 1) s = endT L (simpleT L s (curT L s).pos) := by
        conv => lhs; unfold stmtT
        unfold simpleT
        simp only
        rw [if_neg (fun h => hk h.2)]
        by_cases q1 : isT L s kLet = true
        · rw [if_pos q1, if_pos q1]
        rw [if_neg q1, if_neg q1]
        by_cases q2 : isT L s kResult = true
        · rw [if_pos q2, if_pos q2]
        rw [if_neg q2, if_neg q2]
        by_cases q3 : isT L s kCall = true
        · rw [if_pos q3, if_pos q3]
        rw [if_neg q3, if_neg q3]
        by_cases q4 : isT L s kEmit = true
        · rw [if_pos q4, if_pos q4]
        rw [if_neg q4, if_neg q4]
        by_cases q5 : isT L s kSkip = true
        · rw [if_pos q5, if_pos q5]
        exact absurd hw (by simp [q1, q2, q3, q4, q5])
      exact ⟨by rw [e], fun _ => e⟩
    · simp only [not_or, Bool.not_eq_true] at hw
      obtain ⟨q1, q2, q3, q4, q5⟩ := hw
      have e1 : stmtT L (N + 1) s = (.mk (sh0 (curT L s).pos) [] [], failT L s 11) := by
        conv => lhs; unfold stmtT
        simp only
        rw [if_neg (fun h => hk h.2), q1, q2, q3, q4, q5, h1, h2]
        simp
      have hf : (failT L s 11).e ≠ 0 := fail_e (by decide)
      have e2 : (setT L s (curT L s).pos).2 = failT L s 11 := by
        rw [set_is]
        have hq : (qnameT L s).2 = failT L s 11 := by
          have hn : nameT L s = ([], failT L s 11) := by
            unfold nameT
            rw [if_pos (.inr hk)]
          unfold qnameT
          simp only
          rw [hn]
          simp only
          rw [isT_err hf]
          simp
        simp only
        rw [hq]
        exact (value_goes hL _).err hf
      have e3 : (endT L (simpleT L s (curT L s).pos)).2 = failT L s 11 := by
        unfold simpleT endT
        rw [q1, q2, q3, q4, q5]
        simp only [Bool.false_eq_true, if_false]
        rw [e2]
        exact want_err hf _
      rw [e1, e3]
      exact ⟨rfl, fun h => absurd h hf⟩

end Go.Proofs.YtlgfijjkbomejaaDoor

/- The reference's proc. Numbers and types by name. -/
namespace Go.Proofs.YtlgfijjkbomejaaDoor
open Go.RowKit Go.Lib
set_option maxRecDepth 100000

def listOf {α : Type} (L : List Tk) (one : PS → α × PS) (s : PS) (shut : List UInt8) : List α × PS := if isT L s shut = true then ([], s) else listLoop L one (L.length + 1) s []
theorem list_of {α : Type} (L : List Tk) (one : PS → α × PS) (s : PS) (shut : List UInt8) : listT L one s shut = ((listOf L one s shut).1, wantT L (listOf L one s shut).2 shut) := rfl
theorem listOf_goes {α : Type} {L : List Tk} (hL : TokL L) {one : PS → α × PS} (h1 : ∀ s, Goes L s (one s).2) (s : PS) (shut : List UInt8) : Goes L s (listOf L one s shut).2 := by
  unfold listOf
  split
  · exact Goes.refl L s
  · exact listLoop_goes hL h1 _ _ _
theorem listLoop_step {α : Type} {L : List Tk} {one : PS → α × PS} {q : Nat} {s : PS} {acc : List α} {G : List α × PS} (h : listLoop L one (q + 1) s acc = G) (he : s.e = 0) : (if isT L (one s).2 [44] = true then listLoop L one q (one s).2.go (acc ++ [(one s).1]) else (acc ++ [(one s).1], (one s).2)) = G := by
  unfold listLoop at h
  rw [if_neg (by simp [he])] at h
  exact h
theorem list_less {α : Type} {L : List Tk} {one : PS → α × PS} {s : PS} (h1 : Goes L s (one s).2) (hs : s.i < L.length) (h : isT L (one s).2 [44] = true) : remT L (one s).2.go < remT L s := by
  have h2 := isT_e h
  have h3 := h1.rem
  have h4 := rem_go (L := L) h2.1 (h1.lt hs)
  omega

theorem OwnR.one {w wr : World} {T U : Nat} {e : TypeId} {size : Nat} {v : Value} {m : Nat} {cs : List Value} (h : OwnR w wr T U e size v m cs) : v.oneCell' = true := by
  rcases h.o.2 with ⟨rfl, _⟩ | ⟨g, cap, cur, rfl, _⟩ <;> rfl
theorem prc_ones (p : Prc) {vP vU vB : Value} (h1 : vP.oneCell' = true) (h2 : vU.oneCell' = true) (h3 : vB.oneCell' = true) : (prcV p vP vU vB).toArray.all (·.oneCell') = true := by
  simp only [prcV, List.all_toArray, List.all_cons, List.all_nil, h1, h2, h3]
  rfl
theorem par_info (p : Par) : (Tryd.prog.info? 26).map (·.size) = some (parV p).toArray.size := by
  show _ = some 3
  kernel_rfl

end Go.Proofs.YtlgfijjkbomejaaDoor

namespace Go.Proofs.YtlgfijjkbomejaaDoor
open Go.RowKit Go.Lib
set_option maxRecDepth 100000

section
variable (L : List Tk)
def pF9 (x : PS) : PS := (blockN L x).2
def pF8 (x : PS) : PS := pF9 L (listT L (nameT L) x [125]).2
def pF7 (x : PS) : PS := pF8 L (wantT L x [123])
def pF6 (x : PS) : PS := pF7 L (wantT L x kUses)
def pF5 (x : PS) : PS := pF6 L (nameT L x).2
def pF4 (x : PS) : PS := pF5 L (wantT L x kPc)
def pF3 (x : PS) : PS := pF4 L (if isT L x [45, 62] = true then nameT L x.go else ([], x)).2
def pF2 (x : PS) : PS := pF3 L (listT L (paramT L) x [41]).2
def pF1 (x : PS) : PS := pF2 L (wantT L x [40])
variable {L}
theorem pF_err (hL : TokL L) {x : PS} (h : x.e ≠ 0) : pF9 L x = x ∧ pF8 L x = x ∧ pF7 L x = x ∧ pF6 L x = x ∧ pF5 L x = x ∧ pF4 L x = x ∧ pF3 L x = x ∧ pF2 L x = x ∧ pF1 L x = x := by
  have e9 : pF9 L x = x := (blockN_goes hL x).err h
  have e8 : pF8 L x = x := by unfold pF8; rw [(list_goes hL (name_goes hL) x [125]).err h]; exact e9
  have e7 : pF7 L x = x := by unfold pF7; rw [want_err h]; exact e8
  have e6 : pF6 L x = x := by unfold pF6; rw [want_err h]; exact e7
  have e5 : pF5 L x = x := by unfold pF5; rw [(name_goes hL x).err h]; exact e6
  have e4 : pF4 L x = x := by unfold pF4; rw [want_err h]; exact e5
  have e3 : pF3 L x = x := by unfold pF3; rw [isT_err h, if_neg (by simp)]; exact e4
  have e2 : pF2 L x = x := by unfold pF2; rw [(list_goes hL (param_goes hL) x [41]).err h]; exact e3
  have e1 : pF1 L x = x := by unfold pF1; rw [want_err h]; exact e2
  exact ⟨e9, e8, e7, e6, e5, e4, e3, e2, e1⟩
end

section
variable {w0 w wr : World} {b : Nat} {L : List Tk} {T U : Nat} {p : Prc} {vP vU vB : Value} {s : PS}
end

/-- What a procedure's reader leaves. -/
def PrcC (w : World) (p : Prc) : World → Ending → Prop := fun w' e => ∃ vP vU vB, e = .returned (.agg #[.string (tx p.name), vP, .bool p.has, .string (tx p.result), .string (tx p.pc), vU, vB, .int .i64 (p.pos : Int)]) ∧ ProcV w' (NewW w w') p (prcV p vP vU vB)

end Go.Proofs.YtlgfijjkbomejaaDoor
