/- Trees of modules in memory, read with their places or with any. Numbers and types by name. -/
import Derived.Test.YtlgfijjkbomejaaDoorTre
import Derived.Test.YtlgfijjkbomejaaDoorQpt
namespace Go.Proofs.YtlgfijjkbomejaaDoor
open Go.RowKit Go.Lib
set_option maxRecDepth 100000

/-- A row in parts of one size. -/
def TRows {α : Type} (w : World) (size : Nat) (R : α → List Value → Prop) (v : Value) (l : List α) : Prop := l.length ≤ maxLen ∧ ∃ cs, Cells w v size l.length cs ∧ Parts size R l cs
theorem TRows.imp {α : Type} {w w' : World} {size : Nat} {R S : α → List Value → Prop} {v : Value} {l : List α} (h : TRows w size R v l) (hg : Grow w w') (hR : ∀ a c, R a c → S a c) : TRows w' size S v l := by
  obtain ⟨h1, cs, h2, h3⟩ := h
  exact ⟨h1, cs, h2.later hg, h3.imp hR⟩
theorem TRows.shape {α : Type} {w : World} {size : Nat} {R : α → List Value → Prop} {v : Value} {l : List α} (h : TRows w size R v l) : ∃ ao c, v = .slice ao l.length c := by
  obtain ⟨_, _, ⟨ao, c, rfl, _⟩, _⟩ := h
  exact ⟨ao, c, rfl⟩
theorem RowsP.toT {α : Type} {w : World} {P : Nat → Prop} {size : Nat} {R S : α → List Value → Prop} {v : Value} {n : Nat} {l : List α} (h : RowsP w P size R v n l) (hR : ∀ a c, R a c → S a c) : TRows w size S v l := by
  obtain ⟨h1, h2, _, cs, h4, h5⟩ := h
  subst h1
  exact ⟨Nat.le_trans h2 (by decide), cs, h4, h5.imp hR⟩
theorem add_fldT (a : Addr) (m j : Nat) (hj : 0 < j) : a.add (m + j) = ⟨(a.add m).block, (a.add m).off + j, none⟩ := by
  unfold Addr.add
  rw [if_neg (by omega)]
  by_cases hm : m = 0
  · simp [hm]
  · simp [hm]; omega
/-- Some cells lie at a place. -/
def CellsAt (w : World) (a : Addr) (cs : List Value) : Prop := (∀ u, cs[0]? = some u → w.cell? a = some u) ∧ ∀ j u, 0 < j → cs[j]? = some u → w.cell? ⟨a.block, a.off + j, none⟩ = some u
theorem CellsAt.later {w w' : World} {a : Addr} {cs : List Value} (h : CellsAt w a cs) (hg : Grow w w') : CellsAt w' a cs :=
  ⟨fun u hu => (World.cell?_of_block (hg.block _ (World.block_lt_of_cell? w _ (h.1 u hu)))).trans (h.1 u hu), fun j u hj hu => (World.cell?_of_block (hg.block _ (World.block_lt_of_cell? w _ (h.2 j u hj hu)))).trans (h.2 j u hj hu)⟩
/-- What is read at a place of a row. -/
theorem TRows.at {α : Type} {w : World} {size : Nat} {R : α → List Value → Prop} {ao : Option Addr} {n c : Nat} {l : List α} (h : TRows w size R (.slice ao n c) l) {k : Nat} (hk : k < n) :
    ∃ a o cs, ao = some a ∧ l[k]? = some o ∧ R o cs ∧ cs.length = size ∧ CellsAt w (a.add (k * size)) cs := by
  obtain ⟨_, cs, ⟨ao', c', e, hl, hc, hz, hat⟩, hp⟩ := h
  simp only [Value.slice.injEq] at e
  obtain ⟨rfl, rfl, rfl⟩ := e
  obtain ⟨a, rfl⟩ : ∃ a, ao = some a := by
    cases ao with
    | some a => exact ⟨a, rfl⟩
    | none => have := (hz rfl).1; omega
  have ho : l[k]? = some (l[k]'hk) := List.getElem?_eq_getElem hk
  obtain ⟨h1, h2⟩ := hp.get ho
  have hh : ∀ j u, ((cs.drop (k * size)).take size)[j]? = some u → w.cell? (a.add (k * size + j)) = some u := fun j u hj => by
    have hjl : j < size := by
      have := (List.getElem?_eq_some_iff.1 hj).1
      omega
    rw [List.getElem?_take, if_pos hjl, List.getElem?_drop] at hj
    exact hat a rfl _ u hj
  exact ⟨a, _, _, rfl, ho, h1, h2, fun u hu => hh 0 u hu, fun j u hj hu => by rw [← add_fldT _ _ _ hj]; exact hh j u hu⟩

def nvT (o : Nd) (z : Int) : List Value := [.int .i64 o.kind, .int .i64 o.num, .string (tx o.mod), .string (tx o.name), .int .i64 o.a, .int .i64 o.b, .int .i64 z]
/-- A place, or any. -/
def PlT (t : Bool) (z : Int) (p : Nat) : Prop := t = true → z = p
def NdT (t : Bool) (o : Nd) (c : List Value) : Prop := ∃ z, c = nvT o z ∧ PlT t z o.pos
def NodesT (t : Bool) (w : World) (v : Value) (l : List Nd) : Prop := TRows w 7 (NdT t) v l
def ArgT (t : Bool) (w : World) (l : List Nd) (c : List Value) : Prop := ∃ v, c = [v] ∧ NodesT t w v l
def ArgsT (t : Bool) (w : World) (v : Value) (l : List (List Nd)) : Prop := TRows w 1 (ArgT t w) v l
def stmHeadT (h : SH) (z : Int) (vE vA vB vC : Value) : List Value := [.int .i64 h.kind, .int .i64 z, .string (tx h.mod), .string (tx h.name), .string (tx h.label), .bool h.has, .string (tx h.toMod), .string (tx h.to), vE, vA, vB, vC]
mutual
def StmT (t : Bool) (w : World) : Stm → List Value → Prop
  | .mk h body els, cs => ∃ z vE vA vB vC, cs = stmHeadT h z vE vA vB vC ∧ PlT t z h.pos ∧ NodesT t w vE h.e ∧ ArgsT t w vA h.args ∧
    (body.length ≤ maxLen ∧ ∃ cb, Cells w vB 12 body.length cb ∧ StmsT t w body cb) ∧ (els.length ≤ maxLen ∧ ∃ cc, Cells w vC 12 els.length cc ∧ StmsT t w els cc)
def StmsT (t : Bool) (w : World) : List Stm → List Value → Prop
  | [], cs => cs = []
  | s :: r, cs => ∃ c d, cs = c ++ d ∧ c.length = 12 ∧ StmT t w s c ∧ StmsT t w r d
end
theorem stmsT_parts {t : Bool} {w : World} : ∀ (l : List Stm) (cs : List Value), StmsT t w l cs ↔ Parts 12 (StmT t w) l cs
  | [], cs => by unfold StmsT; exact Iff.rfl
  | s :: r, cs => by
    unfold StmsT
    constructor
    · rintro ⟨c, d, e, h1, h2, h3⟩
      exact ⟨c, d, e, h1, h2, (stmsT_parts r d).1 h3⟩
    · rintro ⟨c, d, e, h1, h2, h3⟩
      exact ⟨c, d, e, h1, h2, (stmsT_parts r d).2 h3⟩
def BodyT (t : Bool) (w : World) (v : Value) (l : List Stm) : Prop := TRows w 12 (StmT t w) v l
theorem StmT.iff {t : Bool} {w : World} {h : SH} {body els : List Stm} {cs : List Value} :
    StmT t w (.mk h body els) cs ↔ ∃ z vE vA vB vC, cs = stmHeadT h z vE vA vB vC ∧ PlT t z h.pos ∧ NodesT t w vE h.e ∧ ArgsT t w vA h.args ∧ BodyT t w vB body ∧ BodyT t w vC els := by
  unfold StmT BodyT TRows
  constructor
  · rintro ⟨z, vE, vA, vB, vC, e, h0, h1, h2, ⟨b1, cb, b2, b3⟩, ⟨c1, cc, c2, c3⟩⟩
    exact ⟨z, vE, vA, vB, vC, e, h0, h1, h2, ⟨b1, cb, b2, (stmsT_parts _ _).1 b3⟩, ⟨c1, cc, c2, (stmsT_parts _ _).1 c3⟩⟩
  · rintro ⟨z, vE, vA, vB, vC, e, h0, h1, h2, ⟨b1, cb, b2, b3⟩, ⟨c1, cc, c2, c3⟩⟩
    exact ⟨z, vE, vA, vB, vC, e, h0, h1, h2, ⟨b1, cb, b2, (stmsT_parts _ _).2 b3⟩, ⟨c1, cc, c2, (stmsT_parts _ _).2 c3⟩⟩
def parVT (p : Par) (z : Int) : List Value := [.string (tx p.name), .string (tx p.label), .int .i64 z]
def ParT (t : Bool) (p : Par) (c : List Value) : Prop := ∃ z, c = parVT p z ∧ PlT t z p.pos
def impVT (p : Imp) (z : Int) : List Value := [.string (tx p.name), .int .i64 z]
def ImpT (t : Bool) (p : Imp) (c : List Value) : Prop := ∃ z, c = impVT p z ∧ PlT t z p.pos
def varVT (p : Vrb) (z : Int) : List Value := [.string (tx p.name), .string (tx p.label), .int .i64 p.init, .int .i64 z]
def VarT (t : Bool) (p : Vrb) (c : List Value) : Prop := ∃ z, c = varVT p z ∧ PlT t z p.pos
def TxtT (p : List UInt8) (c : List Value) : Prop := c = [.string (tx p)]
def prcVT (p : Prc) (z : Int) (vP vU vB : Value) : List Value := [.string (tx p.name), vP, .bool p.has, .string (tx p.result), .string (tx p.pc), vU, vB, .int .i64 z]
def ProcT (t : Bool) (w : World) (p : Prc) (cs : List Value) : Prop :=
  ∃ z vP vU vB, cs = prcVT p z vP vU vB ∧ PlT t z p.pos ∧ TRows w 3 (ParT t) vP p.params ∧ TRows w 1 TxtT vU p.uses ∧ BodyT t w vB p.body
def mdlVT (m : Mdl) (z : Int) (vI vV vP : Value) : List Value := [.string (tx m.name), .int .i64 z, vI, vV, vP]
def ModT (t : Bool) (w : World) (m : Mdl) (cs : List Value) : Prop :=
  ∃ z vI vV vP, cs = mdlVT m z vI vV vP ∧ PlT t z m.pos ∧ TRows w 2 (ImpT t) vI m.imports ∧ TRows w 4 (VarT t) vV m.vars ∧ TRows w 8 (ProcT t w) vP m.procs

theorem NodesT.later {t : Bool} {w w' : World} {v : Value} {l : List Nd} (h : NodesT t w v l) (hg : Grow w w') : NodesT t w' v l := TRows.imp h hg fun _ _ h => h
theorem ArgsT.later {t : Bool} {w w' : World} {v : Value} {l : List (List Nd)} (h : ArgsT t w v l) (hg : Grow w w') : ArgsT t w' v l := TRows.imp h hg fun _ _ ⟨v, e, h⟩ => ⟨v, e, h.later hg⟩
mutual
theorem StmT.later {t : Bool} {w w' : World} (hg : Grow w w') : ∀ (s : Stm) (cs : List Value), StmT t w s cs → StmT t w' s cs
  | .mk h body els, cs, hs => by
    unfold StmT at hs ⊢
    obtain ⟨z, vE, vA, vB, vC, e, h0, h1, h2, ⟨b1, cb, b2, b3⟩, ⟨c1, cc, c2, c3⟩⟩ := hs
    exact ⟨z, vE, vA, vB, vC, e, h0, h1.later hg, h2.later hg, ⟨b1, cb, b2.later hg, StmsT.later hg body cb b3⟩, ⟨c1, cc, c2.later hg, StmsT.later hg els cc c3⟩⟩
theorem StmsT.later {t : Bool} {w w' : World} (hg : Grow w w') : ∀ (l : List Stm) (cs : List Value), StmsT t w l cs → StmsT t w' l cs
  | [], cs, hs => by
    unfold StmsT at hs ⊢
    exact hs
  | s :: r, cs, hs => by
    unfold StmsT at hs ⊢
    obtain ⟨c, d, e, h1, h2, h3⟩ := hs
    exact ⟨c, d, e, h1, StmT.later hg s c h2, StmsT.later hg r d h3⟩
end
theorem BodyT.later {t : Bool} {w w' : World} {v : Value} {l : List Stm} (h : BodyT t w v l) (hg : Grow w w') : BodyT t w' v l := TRows.imp h hg fun s c h => StmT.later hg s c h
theorem ProcT.later {t : Bool} {w w' : World} {p : Prc} {cs : List Value} (h : ProcT t w p cs) (hg : Grow w w') : ProcT t w' p cs := by
  obtain ⟨z, vP, vU, vB, e, h0, h1, h2, h3⟩ := h
  exact ⟨z, vP, vU, vB, e, h0, h1.imp hg fun _ _ h => h, h2.imp hg fun _ _ h => h, h3.later hg⟩
theorem ModT.later {t : Bool} {w w' : World} {m : Mdl} {cs : List Value} (h : ModT t w m cs) (hg : Grow w w') : ModT t w' m cs := by
  obtain ⟨z, vI, vV, vP, e, h0, h1, h2, h3⟩ := h
  exact ⟨z, vI, vV, vP, e, h0, h1.imp hg fun _ _ h => h, h2.imp hg fun _ _ h => h, h3.imp hg fun _ _ h => h.later hg⟩

theorem PlT.of (t : Bool) (p : Nat) : PlT t (p : Int) p := fun _ => rfl
theorem NodesP.toT {w : World} {P : Nat → Prop} {v : Value} {n : Nat} {l : List Nd} (t : Bool) (h : NodesP w P v n l) : NodesT t w v l := RowsP.toT h fun o _ h => ⟨o.pos, h, PlT.of _ _⟩
theorem ArgsP.toT {w : World} {P : Nat → Prop} {v : Value} {n : Nat} {l : List (List Nd)} (t : Bool) (h : ArgsP w P v n l) : ArgsT t w v l := RowsP.toT h fun _ _ ⟨v, _, e, h⟩ => ⟨v, e, h.toT t⟩
mutual
theorem StmV.toT {w : World} {P : Nat → Prop} (t : Bool) : ∀ (s : Stm) (cs : List Value), StmV w P s cs → StmT t w s cs
  | .mk h body els, cs, hs => by
    unfold StmV at hs
    unfold StmT
    obtain ⟨vE, nE, vA, nA, vB, nB, vC, nC, e, h1, h2, ⟨b1, b2, b3, cb, b4, b5⟩, ⟨c1, c2, c3, cc, c4, c5⟩⟩ := hs
    subst b1 c1
    exact ⟨h.pos, vE, vA, vB, vC, e, PlT.of _ _, h1.toT t, h2.toT t, ⟨Nat.le_trans b2 (by decide), cb, b4, StmsV.toT t body cb b5⟩, ⟨Nat.le_trans c2 (by decide), cc, c4, StmsV.toT t els cc c5⟩⟩
theorem StmsV.toT {w : World} {P : Nat → Prop} (t : Bool) : ∀ (l : List Stm) (cs : List Value), StmsV w P l cs → StmsT t w l cs
  | [], cs, hs => by
    unfold StmsV at hs
    unfold StmsT
    exact hs
  | s :: r, cs, hs => by
    unfold StmsV at hs
    unfold StmsT
    obtain ⟨c, d, e, h1, h2, h3⟩ := hs
    exact ⟨c, d, e, h1, StmV.toT t s c h2, StmsV.toT t r d h3⟩
end
theorem ProcV.toT {w : World} {P : Nat → Prop} (t : Bool) {p : Prc} {cs : List Value} (h : ProcV w P p cs) : ProcT t w p cs := by
  obtain ⟨vP, nP, vU, nU, vB, nB, e, h1, h2, h3⟩ := h
  exact ⟨p.pos, vP, vU, vB, e, PlT.of _ _, h1.toT fun o _ h => ⟨o.pos, h, PlT.of _ _⟩, h2.toT fun _ _ h => h, RowsP.toT h3 fun s c h => StmV.toT t s c h⟩
theorem ModV.toT {w : World} {P : Nat → Prop} (t : Bool) {m : Mdl} {cs : List Value} (h : ModV w P m cs) : ModT t w m cs := by
  obtain ⟨vI, nI, vV, nV, vP, nP, e, h1, h2, h3⟩ := h
  exact ⟨m.pos, vI, vV, vP, e, PlT.of _ _, h1.toT fun o _ h => ⟨o.pos, h, PlT.of _ _⟩, h2.toT fun o _ h => ⟨o.pos, h, PlT.of _ _⟩, h3.toT fun _ _ h => h.toT t⟩

end Go.Proofs.YtlgfijjkbomejaaDoor
