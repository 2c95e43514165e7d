/- The law's own lists of pairs: pairs of numbers. Numbers and types by name. -/
import Derived.Test.YtlgfijjkbomejaaDoorLse
import Derived.Deep.RegionHeld3
import Derived.Deep.RegionHeldLaw
namespace Go.Proofs.YtlgfijjkbomejaaDoor
open Go.RowKit Go.Lib
set_option maxRecDepth 100000

theorem elemPrm8 : Elem 23 26 (.agg #[.string ⟨#[]⟩, .string ⟨#[]⟩, .int .i64 0]) 3 40 := ⟨Tryd.underlying23, by kernel_rfl, by decide, by decide⟩

/-- An own list of pairs. -/
def OwnPr (w : World) (base : Nat) (v : Value) (n : Nat) (l : List Pr8) : Prop := n = l.length ∧ ∃ cs, w.ownsRow base 26 3 v n cs ∧ Parts 3 PrmR l cs
theorem OwnPr.nil (w : World) (base : Nat) : OwnPr w base (.slice none 0 0) 0 [] := ⟨rfl, [], World.ownsRow_nil _ _ _ _, rfl⟩
theorem owns_shape3 {w : World} {base e : Nat} {v : Value} {n : Nat} {xs : List Value} (h : w.ownsRow base e 3 v n xs) : ∃ ao c, v = .slice ao n c := by
  rcases h.2 with ⟨rfl, rfl⟩ | ⟨g, cap, cur, rfl, _⟩
  · exact ⟨none, 0, rfl⟩
  · exact ⟨_, _, rfl⟩
theorem OwnPr.shape {w : World} {base : Nat} {v : Value} {n : Nat} {l : List Pr8} (h : OwnPr w base v n l) : ∃ ao c, v = .slice ao n c := owns_shape3 h.2.choose_spec.1
theorem OwnPr.later {w w' : World} {base : Nat} {v : Value} {n : Nat} {l : List Pr8} (h : OwnPr w base v n l) (hg : Grow w w') : OwnPr w' base v n l := by
  obtain ⟨h1, cs, h2, h3⟩ := h
  exact ⟨h1, cs, own_chg (F := []) h2 (Chg.of_below hg) (by simp), h3⟩
theorem OwnPr.chg {w w' : World} {base : Nat} {v : Value} {n : Nat} {l : List Pr8} {F : List Nat} (h : OwnPr w base v n l) (hc : Chg F w w') (hF : ∀ k, v.ownBlock = some k → k ∉ F) : OwnPr w' base v n l := by
  obtain ⟨h1, cs, h2, h3⟩ := h
  exact ⟨h1, cs, own_chg h2 hc hF, h3⟩
theorem OwnPr.base {w : World} {base base' : Nat} {v : Value} {n : Nat} {l : List Pr8} (h : OwnPr w base v n l) (hb : base' ≤ base) : OwnPr w base' v n l := by
  obtain ⟨h1, cs, h2, h3⟩ := h
  exact ⟨h1, cs, owns_base h2 hb, h3⟩
theorem OwnPr.read {w : World} {base : Nat} {v : Value} {n : Nat} {l : List Pr8} (h : OwnPr w base v n l) (hn : n ≤ 1000000) : PrmsV w v n l := by
  obtain ⟨rfl, cs, h2, h3⟩ := h
  exact ⟨rfl, hn, by unfold maxLen; omega, cs, Cells.own h2 (by decide), h3⟩
def pcs (p : Pr8) : List Value := [.string (tx p.1), .string (tx p.2), .int .i64 0]
theorem pcs_one (p : Pr8) : ∀ u ∈ pcs p, u.oneCell' = true := by
  intro u hu
  simp only [pcs, List.mem_cons, List.not_mem_nil, or_false] at hu
  rcases hu with rfl | rfl | rfl <;> rfl
theorem pcs_prm (p : Pr8) : PrmR p (pcs p) := ⟨0, rfl⟩

theorem conv_one {W : World} {a : Addr} {z : Int} (x : UInt8) (hz : z = (x.toNat : Int)) (h : W.cell? a = some (.int .u8 z)) : (convert 42 9 (.slice (some a) 1 1)).run Tryd.prog W = .ok (.string (tx [x])) W := by
  refine conv_reads ⟨some a, 1, rfl, Nat.le_refl _, (fun e => by cases e), fun a' ha j u hj => ?_⟩
  cases ha
  have hj0 : j = 0 := by have := (List.getElem?_eq_some_iff.1 hj).1; simp [bv] at this; omega
  subst hj0
  rw [show (bv [x])[0]? = some (.int .u8 (x.toNat : Int)) from rfl] at hj
  cases hj
  rw [show a.add 0 = a from by cases a; rfl, h, hz]

theorem growA {w W : World} (o : Obj) (h : Grow w W) : Grow w (W.alloc o) := Grow.trans h ((Below.refl _ _).alloc (Nat.le_refl _) _)
theorem growD {w W : World} (h : Grow w W) : Grow w W.drew := below_drewN h 1
theorem lit_two (w : World) (p : Pr8) : Hid (∀ A B, Cells (((w.alloc A).alloc B).alloc (.cells #[.string (tx p.1), .string (tx p.2), .int .i64 0] 26)).drew (.slice (some ⟨w.heap.size + 1 + 1, 0, none⟩) 1 1) 3 1 (pcs p)) := Lib.hid fun A B => by
  have h := Cells.lit ((w.alloc A).alloc B) (pcs p) 26 (0, 0) 3 1 rfl
  rw [show ((w.alloc A).alloc B).heap.size = w.heap.size + 1 + 1 by simp] at h
  exact h
/-- The pairs of numbers. -/
def ltr6 (x : UInt8) : UInt8 := UInt8.ofNat (97 + x.toNat % 6)
def pairsT : List UInt8 → List Pr8
  | x :: y :: r => ([ltr6 x], [ltr6 y]) :: pairsT r
  | _ => []
theorem ltr6_wrap (x : UInt8) : IntKind.u8.wrap (97 + (x.toNat : Int).tmod 6) = ((ltr6 x).toNat : Int) := by
  have h1 : (x.toNat : Int).tmod 6 = ((x.toNat % 6 : Nat) : Int) := by rw [Int.tmod_eq_emod_of_nonneg (by omega)]; omega
  have h2 : (ltr6 x).toNat = 97 + x.toNat % 6 := by unfold ltr6; rw [UInt8.toNat_ofNat']; omega
  rw [h1, h2, IntWalk.u8_in _ (by omega)]
  omega
theorem pairsT_len : ∀ l : List UInt8, (pairsT l).length = l.length / 2
  | [] => rfl
  | [_] => by simp [pairsT]
  | x :: y :: r => by
    unfold pairsT
    rw [List.length_cons, pairsT_len r, List.length_cons, List.length_cons]
    omega
theorem pairsT_at : ∀ {l : List UInt8} {k : Nat} {x y : UInt8}, l[2 * k]? = some x → l[2 * k + 1]? = some y → (pairsT l)[k]? = some ([ltr6 x], [ltr6 y])
  | [], _, _, _, h, _ => by simp at h
  | [_], 0, _, _, _, h => by simp at h
  | [_], k + 1, _, _, h, _ => by
    rw [List.getElem?_eq_none (by simp; omega)] at h
    cases h
  | a :: b :: r, 0, x, y, h, h2 => by
    simp only [Nat.mul_zero, List.getElem?_cons_zero, Option.some.injEq, Nat.zero_add, List.getElem?_cons_succ] at h h2
    subst h h2
    rfl
  | a :: b :: r, k + 1, x, y, h, h2 => by
    rw [show 2 * (k + 1) = 2 * k + 1 + 1 by omega] at h h2
    rw [List.getElem?_cons_succ, List.getElem?_cons_succ] at h
    rw [show 2 * k + 1 + 1 + 1 = (2 * k + 1) + 1 + 1 by omega, List.getElem?_cons_succ, List.getElem?_cons_succ] at h2
    unfold pairsT
    rw [List.getElem?_cons_succ]
    exact pairsT_at h h2

/-- What pairs tells. -/
def PairTold (w : World) (ns : List UInt8) (e : Ending) (w' : World) : Prop := ∃ u m, e = .returned u ∧ OwnPr w' w.heap.size u m (pairsT ns) ∧ Grow w w'

end Go.Proofs.YtlgfijjkbomejaaDoor
