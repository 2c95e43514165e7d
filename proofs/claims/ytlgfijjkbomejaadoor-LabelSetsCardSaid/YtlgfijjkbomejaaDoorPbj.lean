/- A plain record under way; the reference's variable. Numbers and types by name. -/
import Derived.Test.YtlgfijjkbomejaaDoorQpg
import Derived.Test.YtlgfijjkbomejaaDoorTre
import Derived.Deep.Cut
import Derived.Deep.CutBlock
import Derived.Deep.CutRange
/- The code's unary, over itself and comparison; expr. Numbers and types by name. -/
namespace Go.Proofs.YtlgfijjkbomejaaDoor
open Go.RowKit Go.Lib
set_option maxRecDepth 100000

theorem tokO_info (t : Tk) : (Tryd.prog.info? 80).map (·.size) = some (#[Value.int .i64 t.kind, .string (tx t.text), .int .i64 (t.pos : Int)]).size := tok_info t
theorem isT_not {L : List Tk} {s : PS} {t : List UInt8} (hw : isT L s t = decide ((curT L s).text = t)) (h : ¬ (curT L s).text = t) : isT L s t = false := by rw [hw, decide_eq_false h]

/-- What an expression from its beginning leaves: nodes in new memory. -/
def NdsC (w : World) (l : List Nd) : World → Ending → Prop := fun w' e => ∃ ao m c, e = .returned (.slice ao m c) ∧ m ≤ 20000 ∧ NodesP w' (fun k => w.heap.size ≤ k ∧ k < w'.heap.size) (.slice ao m c) m l
end Go.Proofs.YtlgfijjkbomejaaDoor

/- The reference's expressions, whole. Numbers and types by name. -/
namespace Go.Proofs.YtlgfijjkbomejaaDoor
open Go.RowKit Go.Lib
set_option maxRecDepth 100000

end Go.Proofs.YtlgfijjkbomejaaDoor

/- A statement under way: its block, and what stays of it. Numbers and types by name. -/
namespace Go.Proofs.YtlgfijjkbomejaaDoor
open Go.RowKit Go.Lib
set_option maxRecDepth 100000

/-- New blocks but two. -/
def NewB (w wr : World) (T U : Nat) (k : Nat) : Prop := w.heap.size ≤ k ∧ k < wr.heap.size ∧ k ≠ T ∧ k ≠ U
theorem NewB.mono {w wr w1 : World} {T U k : Nat} (h : NewB w wr T U k) (hs : wr.heap.size ≤ w1.heap.size) : NewB w w1 T U k := ⟨h.1, Nat.lt_of_lt_of_le h.2.1 hs, h.2.2⟩
/-- What a statement's reader leaves. -/
def StTold (w0 w : World) (b n : Nat) (vl : Value) (L : List Tk) (r : Stm × PS) (e : Ending) (w' : World) : Prop :=
  ∃ cs : List Value, e = .returned (.agg cs.toArray) ∧ StmV w' (fun k => w.heap.size ≤ k ∧ k < w'.heap.size) r.1 cs ∧ Rdr w0 w' b n vl L r.2 ∧ Chg [b] w w'
end Go.Proofs.YtlgfijjkbomejaaDoor

/- The reference's stmt, over expr, call and block. Numbers and types by name. -/
namespace Go.Proofs.YtlgfijjkbomejaaDoor
open Go.RowKit Go.Lib
set_option maxRecDepth 100000

/-- What is asked of stmt, of block, of call. -/
def StK (f : FuncId) (w0 : World) (b n : Nat) (vl : Value) (L : List Tk) (N : Nat) : Prop :=
  ∀ (w : World) (s : PS), Rdr w0 w b n vl L s → Dok s → remT L s < N → Calls Tryd.prog f #[.pointer (some ⟨b, 0, none⟩)] w (StTold w0 w b n vl L (stmtT L N s))
def BlTold (w0 w : World) (b n : Nat) (vl : Value) (L : List Tk) (r : List Stm × PS) (e : Ending) (w' : World) : Prop :=
  ∃ ao m c, e = .returned (.slice ao m c) ∧ StmsP w' (fun k => w.heap.size ≤ k ∧ k < w'.heap.size) (.slice ao m c) m r.1 ∧ Rdr w0 w' b n vl L r.2 ∧ Chg [b] w w'
def BlK (f : FuncId) (w0 : World) (b n : Nat) (vl : Value) (L : List Tk) (N : Nat) : Prop :=
  ∀ (w : World) (s : PS), Rdr w0 w b n vl L s → Dok s → remT L s < N → Calls Tryd.prog f #[.pointer (some ⟨b, 0, none⟩)] w (BlTold w0 w b n vl L (blockT L (stmtT L N) N s))
def CaTold (w0 w : World) (b n : Nat) (vl : Value) (L : List Tk) (r : SH × PS) (e : Ending) (w' : World) : Prop :=
  ∃ vA nA, e = .returned (.agg (stmHead r.1 (.slice none 0 0) vA (.slice none 0 0) (.slice none 0 0)).toArray) ∧ r.1.e = [] ∧ ArgsP w' (fun k => w.heap.size ≤ k ∧ k < w'.heap.size) vA nA r.1.args ∧ Rdr w0 w' b n vl L r.2 ∧ Chg [b] w w'
def CaK (f : FuncId) (w0 : World) (b n : Nat) (vl : Value) (L : List Tk) : Prop :=
  ∀ (w : World) (s : PS) (pos : Nat), Rdr w0 w b n vl L s → Dok s → Calls Tryd.prog f #[.pointer (some ⟨b, 0, none⟩), .agg (stmHead (sh0 pos) (.slice none 0 0) (.slice none 0 0) (.slice none 0 0) (.slice none 0 0)).toArray] w (CaTold w0 w b n vl L (callT L s pos))

end Go.Proofs.YtlgfijjkbomejaaDoor

/- The reference's block, over stmt. Numbers and types by name. -/
namespace Go.Proofs.YtlgfijjkbomejaaDoor
open Go.RowKit Go.Lib
set_option maxRecDepth 100000

/-- Blocks that hold parts of a list under way: new ones, but for the list's own. -/
def NewR (w wr : World) (v : Value) (k : Nat) : Prop := w.heap.size ≤ k ∧ k < wr.heap.size ∧ v.ownBlock ≠ some k
theorem owns_chg {w w' : World} {base e size : Nat} {v : Value} {n : Nat} {xs : List Value} {F : List Nat} (h : w.ownsRow base e size v n xs) (hc : Chg F w w') (hF : ∀ k, v.ownBlock = some k → k ∉ F) : w'.ownsRow base e size v n xs := by
  rcases h.2 with ⟨rfl, rfl⟩ | ⟨g, cap, cur, rfl, hb, hg, hr⟩
  · exact ⟨h.1, .inl ⟨rfl, rfl⟩⟩
  · exact ⟨h.1, .inr ⟨g, cap, cur, rfl, hb, (hc.block g (Array.getElem?_eq_some_iff.1 hg).1 (hF g rfl)).trans hg, hr⟩⟩
end Go.Proofs.YtlgfijjkbomejaaDoor

/- The reference's call: its arguments. Numbers and types by name. -/
namespace Go.Proofs.YtlgfijjkbomejaaDoor
open Go.RowKit Go.Lib
set_option maxRecDepth 100000

def NewC (w wr : World) (T U : Nat) (v : Value) (k : Nat) : Prop := w.heap.size ≤ k ∧ k < wr.heap.size ∧ k ≠ T ∧ k ≠ U ∧ v.ownBlock ≠ some k
theorem ArgV.chg {w w' : World} {P Q : Nat → Prop} {F : List Nat} (hc : Chg F w w') (hP : ∀ k, P k → k ∉ F) (hQ : ∀ k, P k → Q k) : ∀ (l : List Nd) (c : List Value), ArgV w P l c → ArgV w' Q l c :=
  fun _ _ ⟨v, n, e, h⟩ => ⟨v, n, e, h.chg hc hP hQ⟩
end Go.Proofs.YtlgfijjkbomejaaDoor

/- The reference's call. Numbers and types by name. -/
namespace Go.Proofs.YtlgfijjkbomejaaDoor
open Go.RowKit Go.Lib
set_option maxRecDepth 100000

/-- The arguments, from the bracket on: what the model makes of them. -/
def argsOf (L : List Tk) (s : PS) : List (List Nd) × PS := if isT L s [41] = true then ([], s) else listLoop L (exprN L) (L.length + 1) s []
theorem list_args (L : List Tk) (s : PS) : listT L (exprN L) s [41] = ((argsOf L s).1, wantT L (argsOf L s).2 [41]) := rfl

end Go.Proofs.YtlgfijjkbomejaaDoor

/- The reference's blocks, whole. Numbers and types by name. -/
namespace Go.Proofs.YtlgfijjkbomejaaDoor
open Go.RowKit Go.Lib
set_option maxRecDepth 100000

end Go.Proofs.YtlgfijjkbomejaaDoor

namespace Go.Proofs.YtlgfijjkbomejaaDoor
open Go.RowKit Go.Lib
set_option maxRecDepth 100000

theorem numV_few (l : List UInt8) (hl : l.length ≤ 9) (hd : ∀ c ∈ l, isDig c = true) : numV l < 1000000000 := by
  have hb9 : ∀ k, k ≤ 9 → k ≤ l.length → numV (l.take k) < 10 ^ k := by
    intro k
    induction k with
    | zero => intro _ _; exact Nat.one_pos
    | succ k ih =>
      intro h1 h2
      have := ih (by omega) (by omega)
      obtain ⟨c, hc⟩ : ∃ c, l[k]? = some c := ⟨_, List.getElem?_eq_getElem (by omega)⟩
      rw [List.take_add_one, hc]
      show (l.take k ++ [c]).foldl _ 0 < _
      rw [List.foldl_append]
      have hcd := hd c (List.mem_of_getElem? hc)
      unfold isDig at hcd
      simp only [Bool.and_eq_true, decide_eq_true_eq] at hcd
      change 10 * numV (l.take k) + (c.toNat - 48) < _
      rw [Nat.pow_succ]
      omega
  have := hb9 l.length hl (Nat.le_refl _)
  rw [List.take_length] at this
  exact Nat.lt_of_lt_of_le this (Nat.pow_le_pow_right (by decide) hl)

/-- A record under way: the reader, its own block, the block of the result. -/
structure RcAt (t : TypeId) (w0 w wr : World) (b n : Nat) (vl : Value) (L : List Tk) (T U : Nat) (xs zs : List Value) (s : PS) : Prop where
  r : Rdr w0 wr b n vl L s
  c : Chg [b] w wr
  sb : wr.heap[T]? = some (.cells xs.toArray t (0, 0))
  z : wr.heap[U]? = some (.cells zs.toArray t (0, 0))
  bw : b < w.heap.size
  wT : w.heap.size ≤ T
  wU : w.heap.size ≤ U
  tu : T ≠ U
theorem RcAt.keep {t : TypeId} {w0 w wr w1 : World} {b n : Nat} {vl : Value} {L : List Tk} {T U : Nat} {xs zs : List Value} {s s1 : PS} (H : RcAt t w0 w wr b n vl L T U xs zs s) (hr : Rdr w0 w1 b n vl L s1) (hc : Chg [b] wr w1) : RcAt t w0 w w1 b n vl L T U xs zs s1 := by
  have hb := H.bw
  have hT := H.wT
  have hU := H.wU
  exact ⟨hr, H.c.trans hc, (hc.block T (Array.getElem?_eq_some_iff.1 H.sb).1 (by simp only [List.mem_singleton]; omega)).trans H.sb, (hc.block U (Array.getElem?_eq_some_iff.1 H.z).1 (by simp only [List.mem_singleton]; omega)).trans H.z, hb, hT, hU, H.tu⟩
theorem RcAt.field {t : TypeId} {w0 w wr : World} {b n : Nat} {vl : Value} {L : List Tk} {T U : Nat} {xs zs : List Value} {s : PS} (H : RcAt t w0 w wr b n vl L T U xs zs s) (j : Nat) (x : Value) (xs' : List Value) (e : xs.toArray.setIfInBounds j x = xs'.toArray) : RcAt t w0 w (wr.setCell ⟨T, j, none⟩ x) b n vl L T U xs' zs s := by
  have hb := H.bw
  have hT := H.wT
  have hU := H.wU
  have ct : Chg [T] wr (wr.setCell ⟨T, j, none⟩ x) := (Chg.refl [T] wr).set (.inl (by simp)) j x
  exact ⟨H.r.chg ct (fun y hy => by simp only [List.mem_singleton] at hy; omega) (H.r.r.chg ct (by simp only [List.mem_singleton]; omega)) H.r.lt H.r.deep, H.c.trans' ct (fun y hy => by simp only [List.mem_singleton] at hy; subst hy; exact .inr hT), by rw [heap_set H.sb, e], (ct.block U (Array.getElem?_eq_some_iff.1 H.z).1 (by simp only [List.mem_singleton]; exact fun h => H.tu h.symm)).trans H.z, hb, hT, hU, H.tu⟩
theorem RcAt.cell {t : TypeId} {w0 w wr : World} {b n : Nat} {vl : Value} {L : List Tk} {T U : Nat} {xs zs : List Value} {s : PS} (H : RcAt t w0 w wr b n vl L T U xs zs s) (j : Nat) (v : Value) (hj : xs[j]? = some v) : wr.cell? ⟨T, j, none⟩ = some v :=
  cellsN H.sb j v (by rw [List.getElem?_toArray]; exact hj)
theorem RcAt.free {t : TypeId} {w0 w wr : World} {b n : Nat} {vl : Value} {L : List Tk} {T U : Nat} {xs zs : List Value} {s : PS} (H : RcAt t w0 w wr b n vl L T U xs zs s) (j : Nat) : wr.frozen? ⟨T, j, none⟩ = false := by
  simp only [World.frozen?]
  rw [H.sb]
  simp
theorem RcAt.last {t : TypeId} {w0 w wr : World} {b n : Nat} {vl : Value} {L : List Tk} {T U : Nat} {xs zs : List Value} {s : PS} (H : RcAt t w0 w wr b n vl L T U xs zs s) : Rdr w0 (wr.setRow U xs.toArray) b n vl L s ∧ Chg [b] w (wr.setRow U xs.toArray) := by
  have hb := H.bw
  have hU := H.wU
  have hc : Chg [U] wr (wr.setRow U xs.toArray) := ⟨rfl, rfl, rfl, by simp, fun k _ hk => setRow_other wr U k _ (by simpa using hk)⟩
  exact ⟨H.r.chg hc (fun x hx => by simp only [List.mem_singleton] at hx; omega) (H.r.r.chg hc (by simp only [List.mem_singleton]; omega)) H.r.lt H.r.deep, H.c.trans' hc (fun x hx => by simp only [List.mem_singleton] at hx; subst hx; exact .inr hU)⟩

/-- What a variable's reader leaves. -/
def varV (v : Vrb) : List Value := [.string (tx v.name), .string (tx v.label), .int .i64 v.init, .int .i64 (v.pos : Int)]
def VaTold (w0 w : World) (b n : Nat) (vl : Value) (L : List Tk) (r : Vrb × PS) (e : Ending) (w' : World) : Prop :=
  e = .returned (.agg (varV r.1).toArray) ∧ Rdr w0 w' b n vl L r.2 ∧ Chg [b] w w'
theorem var_ones (v : Vrb) : (varV v).toArray.all (·.oneCell') = true := by
  simp [varV, Value.oneCell']
def vrb0 : Vrb := ⟨[], [], 0, 0⟩

end Go.Proofs.YtlgfijjkbomejaaDoor
