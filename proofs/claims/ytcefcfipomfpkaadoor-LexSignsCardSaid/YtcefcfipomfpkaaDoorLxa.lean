/- The reference's lexer: its loop's body, and what holds between two tokens. Numbers and types by name. -/
import Derived.Test.YtcefcfipomfpkaaDoorTkl
import Derived.Deep.Cut
import Derived.Deep.CutBlock
import Derived.Deep.CutRange
namespace Go.Proofs.YtcefcfipomfpkaaDoor
open Go.RowKit Go.Lib
set_option maxRecDepth 100000

/-- What a lexer leaves. -/
def LexTold (w : World) (R : LexR) (e : Ending) (w' : World) : Prop :=
  ∃ ao n c, e = .returned (.tuple #[.slice ao n c, .int .i64 R.e, .int .i64 (R.pos : Int)]) ∧ Tkr w' (.slice ao n c) n R.l ∧ Below w.heap.size w w'

theorem runL_at (p : UInt8 → Bool) (q : List UInt8) : (∀ j, j < runL p q → ∃ d, q[j]? = some d ∧ p d = true) ∧ (q.length = runL p q ∨ ∃ d, q[runL p q]? = some d ∧ p d = false) := by
  have hle := runL_le p q
  obtain ⟨h1, h2⟩ := runL_take p q
  refine ⟨fun j hj => ?_, ?_⟩
  · have hx : q[j]? = some (q[j]'(by omega)) := List.getElem?_eq_getElem (by omega)
    refine ⟨_, hx, h1 _ ?_⟩
    rw [List.mem_take_iff_getElem]
    exact ⟨j, by omega, rfl⟩
  · rcases h2 with h2 | ⟨c, l, h2, h3⟩
    · left
      have := congrArg List.length h2
      simp only [List.length_drop, List.length_nil] at this
      omega
    · right
      refine ⟨c, ?_, h3⟩
      have : (q.drop (runL p q))[0]? = some c := by rw [h2]; rfl
      rwa [List.getElem?_drop, Nat.add_zero] at this
theorem spc_int (c : UInt8) : isSpc c = (((c.toNat : Int) == 32) || ((c.toNat : Int) == 9) || ((c.toNat : Int) == 10) || ((c.toNat : Int) == 13)) := by
  have e : ∀ d : UInt8, (c == d) = ((c.toNat : Int) == (d.toNat : Int)) := fun d => by
    rw [Bool.eq_iff_iff, beq_iff_eq, beq_iff_eq, ← UInt8.toNat_inj]
    omega
  unfold isSpc
  simp only [e]
  rfl
theorem ne_int {c d : UInt8} (h : c ≠ d) : ((c.toNat : Int) == (d.toNat : Int)) = false := by
  rw [beq_eq_false_iff_ne]
  intro h'
  exact h (UInt8.toNat_inj.1 (by omega))
theorem us_one (d : UInt8) : (isLet d || d == 95) = (isLet d || ((d.toNat : Int) == 95)) := by
  have e : (d == 95) = ((d.toNat : Int) == 95) := by
    rw [Bool.eq_iff_iff, beq_iff_eq, beq_iff_eq, ← UInt8.toNat_inj]
    have : (95 : UInt8).toNat = 95 := rfl
    omega
  rw [e]
theorem us_int (d : UInt8) : isWrd d = (isLet d || isDig d || ((d.toNat : Int) == 95)) := by
  have e : (d == 95) = ((d.toNat : Int) == 95) := by
    rw [Bool.eq_iff_iff, beq_iff_eq, beq_iff_eq, ← UInt8.toNat_inj]
    have : (95 : UInt8).toNat = 95 := rfl
    omega
  unfold isWrd
  rw [e]

/-- Between two tokens. -/
def LexAt (w wr : World) (l : List UInt8) (R : LexR) (k : Nat) (v : Value) (n : Nat) : Prop :=
  ∃ acc, OwnT wr w.heap.size v n acc ∧ Below w.heap.size w wr ∧ appL acc (lexA k (l.drop k)) = R ∧ acc.length ≤ k
theorem LexAt.skip {w wr : World} {l : List UInt8} {R : LexR} {k n : Nat} {v : Value} {c : UInt8} {r : List UInt8} {m : Nat} (h : LexAt w wr l R k v n) (hd : l.drop k = c :: r) (hs : stepL (c :: r) = .skip m) : LexAt w wr l R (k + m) v n := by
  obtain ⟨acc, h1, h2, h3, h4⟩ := h
  rw [hd, lexA_skip hs, ← hd, List.drop_drop] at h3
  exact ⟨acc, h1, h2, h3, by omega⟩

theorem LexAt.tok {w wr w6 : World} {l : List UInt8} {R : LexR} {k n N : Nat} {v v6 : Value} {c : UInt8} {r : List UInt8} {q : Int} {acc : List Tk} (h : OwnT wr w.heap.size v n acc ∧ Below w.heap.size w wr ∧ appL acc (lexA k (l.drop k)) = R ∧ acc.length ≤ k) (hd : l.drop k = c :: r) (hs : stepL (c :: r) = .tok q N)
    (ho : w6.ownsRow w.heap.size 33 3 v6 (n + 1) (tvs acc ++ tv ⟨q, (c :: r).take N, k⟩)) {o : Obj} (hb : Below w.heap.size (wr.alloc o) w6) : LexAt w w6 l R (k + N) v6 (n + 1) := by
  obtain ⟨h1, h2, h3, h4⟩ := h
  have hN := (stepL_n (c := c) (r := r)).2 q N hs
  refine ⟨acc ++ [⟨q, (c :: r).take N, k⟩], ⟨by rw [List.length_append, ← h1.1]; rfl, ?_⟩, (h2.alloc h2.size o).trans hb, ?_, by rw [List.length_append, List.length_singleton]; omega⟩
  · rw [tvs_snoc]
    exact ho
  · rw [appL_cons, ← List.drop_drop, hd, ← lexA_tok hs, ← hd]
    exact h3
theorem LexAt.bad {w wr : World} {l : List UInt8} {R : LexR} {k n : Nat} {v : Value} {c : UInt8} {r : List UInt8} {e : Int} (h : LexAt w wr l R k v n) (hd : l.drop k = c :: r) (hs : stepL (c :: r) = .bad e) : R = ⟨[], e, k⟩ ∧ Below w.heap.size w wr := by
  obtain ⟨acc, h1, h2, h3, h4⟩ := h
  rw [hd, lexA_bad hs] at h3
  refine ⟨h3.symm.trans ?_, h2⟩
  unfold appL
  rw [if_neg]
  rcases stepL_bad hs with rfl | rfl <;> simp
/-- The first loop of a function's body. -/
def firstLoop : Code → Option Code
  | .loop c => some c
  | .seq a b => match firstLoop a with
    | some c => some c
    | none => firstLoop b
  | .block _ c => firstLoop c
  | .scope c => firstLoop c
  | .cond _ a b => match firstLoop a with
    | some c => some c
    | none => firstLoop b
  | _ => none
noncomputable def lexBody : Code := ((Tryd.f10.body.bind firstLoop).getD .skip)

end Go.Proofs.YtcefcfipomfpkaaDoor
