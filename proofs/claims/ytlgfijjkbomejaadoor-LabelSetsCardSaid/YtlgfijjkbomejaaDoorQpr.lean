/- The code's module. Made by wip/tools/gencmod.py. Numbers and types by name. -/
import Derived.Test.YtlgfijjkbomejaaDoorQpq
namespace Go.Proofs.YtlgfijjkbomejaaDoor
open Go.RowKit Go.Lib
set_option maxRecDepth 100000

theorem mpRun_append_gen {sl el : TypeId} {z : Value} {size bytes : Nat} (E : Elem sl el z size bytes) {ops : Array Oper} {o : Oper} {a : Act} {w : World} {Qp : List PanicEntry → World → Prop} {K : Act → World → Prop} (hgd : o.guard = none) (s x : Operand)
    (ho : o.op = .call { callee := .builtin .append, args := #[s, x], argTypes := #[sl, sl] })
    (base : Nat) (v : Value) (n : Nat) (xs : List Value) (hs : a.eval s = v) (hown : w.ownsRow base el size v n xs) (vb : Value) (m : Nat) (news : List Value) (hx : a.eval x = vb) (hr : Cells w vb size m news) (h1 : ∀ u ∈ news, u.oneCell' = true)
    (p : Nat) (hp : p = n + m) (h63 : Hid (p ≤ 1000000)) (hby : bytes ≤ 1000) (hbase : base ≤ w.heap.size)
    (h : ∀ ao c w', w'.ownsRow base el size (.slice ao p c) p (xs ++ news) → Below base w w' → w.grownBy w' v.ownBlock → ((Value.slice ao p c).ownBlock = v.ownBlock ∨ (Value.slice ao p c).ownBlock = some w.heap.size) → K (a.put o.dst (.slice ao p c)) w') :
    mpRun Tryd.prog ops Qp o K a w := by
  subst hp
  have hb := h63.out
  have hw : Region.wanted o (yielded ops a.tmps) = true := by simp [Region.wanted, hgd]
  unfold mpRun
  rw [if_pos hw]
  obtain ⟨ao, c, w', hr', h2, h3, h4⟩ := run_append_gen E o.type base v n xs w hown vb m news hr h1 (by unfold maxLen; omega) (Nat.le_trans (Nat.mul_le_mul hb hby) (by decide)) hbase
  unfold execOp
  simp only [ho, resolve, invoke, builtin, Sem.run_bind, Sem.run_pure, Result.andThen_ok, List.map_toArray, List.map_cons, List.map_nil, hs, hx, hr', mpUpon]
  exact h ao c w' h2 (below_grown_own hown h3 hbase) h3 h4

theorem declLoop_err {L : List Tk} {q : Nat} {s : PS} {vs : List Vrb} {ps : List Prc} (h : s.e ≠ 0) : declLoop L q s vs ps = ((vs, ps), s) := by
  cases q with
  | zero => rfl
  | succ q => exact declLoop_stop rfl (.inl h)
/-- The whole, where the imports are read and where they failed. -/
structure ModG (L : List Tk) (nm : List UInt8) (q : Nat) (G1 : List Imp × PS) (R : Mdl × PS) : Prop where
  r : R = (⟨nm, q, G1.1, (declLoop L (L.length + 1) G1.2 [] []).1.1, (declLoop L (L.length + 1) G1.2 [] []).1.2⟩, (declLoop L (L.length + 1) G1.2 [] []).2)
theorem ModG.fell {L : List Tk} {nm : List UInt8} {q : Nat} {G1 : List Imp × PS} {R : Mdl × PS} (h : ModG L nm q G1 R) (he : G1.2.e ≠ 0) : R.2 = G1.2 := by
  rw [h.r, declLoop_err he]

end Go.Proofs.YtlgfijjkbomejaaDoor
