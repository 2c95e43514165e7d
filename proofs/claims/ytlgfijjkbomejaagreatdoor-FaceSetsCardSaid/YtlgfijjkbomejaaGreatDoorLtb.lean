/- Tables in memory: read, and orders that are written row by row. Numbers and types by name. -/
import Derived.Test.YtlgfijjkbomejaaGreatDoorQpa
import Derived.Test.YtlgfijjkbomejaaGreatDoorQpt
import Derived.Test.YtlgfijjkbomejaaGreatDoorLta
import Derived.Test.YtlgfijjkbomejaaGreatDoorPam
/- Trees of modules in memory, read with their places or with any. Numbers and types by name. -/
namespace Go.Proofs.YtlgfijjkbomejaaGreatDoor
open Go.RowKit Go.Lib
set_option maxRecDepth 100000

/-- A row in parts of one size. -/
def TRows {α : Type} (w : World) (size : Nat) (R : α → List Value → Prop) (v : Value) (l : List α) : Prop := l.length ≤ maxLen ∧ ∃ cs, Cells w v size l.length cs ∧ Parts size R l cs
theorem TRows.imp {α : Type} {w w' : World} {size : Nat} {R S : α → List Value → Prop} {v : Value} {l : List α} (h : TRows w size R v l) (hg : Grow w w') (hR : ∀ a c, R a c → S a c) : TRows w' size S v l := by
  obtain ⟨h1, cs, h2, h3⟩ := h
  exact ⟨h1, cs, h2.later hg, h3.imp hR⟩
theorem TRows.shape {α : Type} {w : World} {size : Nat} {R : α → List Value → Prop} {v : Value} {l : List α} (h : TRows w size R v l) : ∃ ao c, v = .slice ao l.length c := by
  obtain ⟨_, _, ⟨ao, c, rfl, _⟩, _⟩ := h
  exact ⟨ao, c, rfl⟩
theorem RowsP.toT {α : Type} {w : World} {P : Nat → Prop} {size : Nat} {R S : α → List Value → Prop} {v : Value} {n : Nat} {l : List α} (h : RowsP w P size R v n l) (hR : ∀ a c, R a c → S a c) : TRows w size S v l := by
  obtain ⟨h1, h2, _, cs, h4, h5⟩ := h
  subst h1
  exact ⟨Nat.le_trans h2 (by decide), cs, h4, h5.imp hR⟩
theorem add_fldT (a : Addr) (m j : Nat) (hj : 0 < j) : a.add (m + j) = ⟨(a.add m).block, (a.add m).off + j, none⟩ := by
  unfold Addr.add
  rw [if_neg (by omega)]
  by_cases hm : m = 0
  · simp [hm]
  · simp [hm]; omega
/-- Some cells lie at a place. -/
def CellsAt (w : World) (a : Addr) (cs : List Value) : Prop := (∀ u, cs[0]? = some u → w.cell? a = some u) ∧ ∀ j u, 0 < j → cs[j]? = some u → w.cell? ⟨a.block, a.off + j, none⟩ = some u
theorem CellsAt.later {w w' : World} {a : Addr} {cs : List Value} (h : CellsAt w a cs) (hg : Grow w w') : CellsAt w' a cs :=
  ⟨fun u hu => (World.cell?_of_block (hg.block _ (World.block_lt_of_cell? w _ (h.1 u hu)))).trans (h.1 u hu), fun j u hj hu => (World.cell?_of_block (hg.block _ (World.block_lt_of_cell? w _ (h.2 j u hj hu)))).trans (h.2 j u hj hu)⟩
/-- What is read at a place of a row. -/
theorem TRows.at {α : Type} {w : World} {size : Nat} {R : α → List Value → Prop} {ao : Option Addr} {n c : Nat} {l : List α} (h : TRows w size R (.slice ao n c) l) {k : Nat} (hk : k < n) :
    ∃ a o cs, ao = some a ∧ l[k]? = some o ∧ R o cs ∧ cs.length = size ∧ CellsAt w (a.add (k * size)) cs := by
  obtain ⟨_, cs, ⟨ao', c', e, hl, hc, hz, hat⟩, hp⟩ := h
  simp only [Value.slice.injEq] at e
  obtain ⟨rfl, rfl, rfl⟩ := e
  obtain ⟨a, rfl⟩ : ∃ a, ao = some a := by
    cases ao with
    | some a => exact ⟨a, rfl⟩
    | none => have := (hz rfl).1; omega
  have ho : l[k]? = some (l[k]'hk) := List.getElem?_eq_getElem hk
  obtain ⟨h1, h2⟩ := hp.get ho
  have hh : ∀ j u, ((cs.drop (k * size)).take size)[j]? = some u → w.cell? (a.add (k * size + j)) = some u := fun j u hj => by
    have hjl : j < size := by
      have := (List.getElem?_eq_some_iff.1 hj).1
      omega
    rw [List.getElem?_take, if_pos hjl, List.getElem?_drop] at hj
    exact hat a rfl _ u hj
  exact ⟨a, _, _, rfl, ho, h1, h2, fun u hu => hh 0 u hu, fun j u hj hu => by rw [← add_fldT _ _ _ hj]; exact hh j u hu⟩

def nvT (o : Nd) (z : Int) : List Value := [.int .i64 o.kind, .int .i64 o.num, .string (tx o.mod), .string (tx o.name), .int .i64 o.a, .int .i64 o.b, .int .i64 z]
/-- A place, or any. -/
def PlT (t : Bool) (z : Int) (p : Nat) : Prop := t = true → z = p
def NdT (t : Bool) (o : Nd) (c : List Value) : Prop := ∃ z, c = nvT o z ∧ PlT t z o.pos
def NodesT (t : Bool) (w : World) (v : Value) (l : List Nd) : Prop := TRows w 7 (NdT t) v l
def ArgT (t : Bool) (w : World) (l : List Nd) (c : List Value) : Prop := ∃ v, c = [v] ∧ NodesT t w v l
def ArgsT (t : Bool) (w : World) (v : Value) (l : List (List Nd)) : Prop := TRows w 1 (ArgT t w) v l
def stmHeadT (h : SH) (z : Int) (vE vA vB vC : Value) : List Value := [.int .i64 h.kind, .int .i64 z, .string (tx h.mod), .string (tx h.name), .string (tx h.label), .bool h.has, .string (tx h.toMod), .string (tx h.to), vE, vA, vB, vC]
mutual
def StmT (t : Bool) (w : World) : Stm → List Value → Prop
  | .mk h body els, cs => ∃ z vE vA vB vC, cs = stmHeadT h z vE vA vB vC ∧ PlT t z h.pos ∧ NodesT t w vE h.e ∧ ArgsT t w vA h.args ∧
    (body.length ≤ maxLen ∧ ∃ cb, Cells w vB 12 body.length cb ∧ StmsT t w body cb) ∧ (els.length ≤ maxLen ∧ ∃ cc, Cells w vC 12 els.length cc ∧ StmsT t w els cc)
def StmsT (t : Bool) (w : World) : List Stm → List Value → Prop
  | [], cs => cs = []
  | s :: r, cs => ∃ c d, cs = c ++ d ∧ c.length = 12 ∧ StmT t w s c ∧ StmsT t w r d
end
theorem stmsT_parts {t : Bool} {w : World} : ∀ (l : List Stm) (cs : List Value), StmsT t w l cs ↔ Parts 12 (StmT t w) l cs
  | [], cs => by unfold StmsT; exact Iff.rfl
  | s :: r, cs => by
    unfold StmsT
    constructor
    · rintro ⟨c, d, e, h1, h2, h3⟩
      exact ⟨c, d, e, h1, h2, (stmsT_parts r d).1 h3⟩
    · rintro ⟨c, d, e, h1, h2, h3⟩
      exact ⟨c, d, e, h1, h2, (stmsT_parts r d).2 h3⟩
def BodyT (t : Bool) (w : World) (v : Value) (l : List Stm) : Prop := TRows w 12 (StmT t w) v l
theorem StmT.iff {t : Bool} {w : World} {h : SH} {body els : List Stm} {cs : List Value} :
    StmT t w (.mk h body els) cs ↔ ∃ z vE vA vB vC, cs = stmHeadT h z vE vA vB vC ∧ PlT t z h.pos ∧ NodesT t w vE h.e ∧ ArgsT t w vA h.args ∧ BodyT t w vB body ∧ BodyT t w vC els := by
  unfold StmT BodyT TRows
  constructor
  · rintro ⟨z, vE, vA, vB, vC, e, h0, h1, h2, ⟨b1, cb, b2, b3⟩, ⟨c1, cc, c2, c3⟩⟩
    exact ⟨z, vE, vA, vB, vC, e, h0, h1, h2, ⟨b1, cb, b2, (stmsT_parts _ _).1 b3⟩, ⟨c1, cc, c2, (stmsT_parts _ _).1 c3⟩⟩
  · rintro ⟨z, vE, vA, vB, vC, e, h0, h1, h2, ⟨b1, cb, b2, b3⟩, ⟨c1, cc, c2, c3⟩⟩
    exact ⟨z, vE, vA, vB, vC, e, h0, h1, h2, ⟨b1, cb, b2, (stmsT_parts _ _).2 b3⟩, ⟨c1, cc, c2, (stmsT_parts _ _).2 c3⟩⟩
def parVT (p : Par) (z : Int) : List Value := [.string (tx p.name), .string (tx p.label), .int .i64 z]
def ParT (t : Bool) (p : Par) (c : List Value) : Prop := ∃ z, c = parVT p z ∧ PlT t z p.pos
def impVT (p : Imp) (z : Int) : List Value := [.string (tx p.name), .int .i64 z]
def ImpT (t : Bool) (p : Imp) (c : List Value) : Prop := ∃ z, c = impVT p z ∧ PlT t z p.pos
def varVT (p : Vrb) (z : Int) : List Value := [.string (tx p.name), .string (tx p.label), .int .i64 p.init, .int .i64 z]
def VarT (t : Bool) (p : Vrb) (c : List Value) : Prop := ∃ z, c = varVT p z ∧ PlT t z p.pos
def TxtT (p : List UInt8) (c : List Value) : Prop := c = [.string (tx p)]
def prcVT (p : Prc) (z : Int) (vP vU vB : Value) : List Value := [.string (tx p.name), vP, .bool p.has, .string (tx p.result), .string (tx p.pc), vU, vB, .int .i64 z]
def ProcT (t : Bool) (w : World) (p : Prc) (cs : List Value) : Prop :=
  ∃ z vP vU vB, cs = prcVT p z vP vU vB ∧ PlT t z p.pos ∧ TRows w 3 (ParT t) vP p.params ∧ TRows w 1 TxtT vU p.uses ∧ BodyT t w vB p.body
def mdlVT (m : Mdl) (z : Int) (vI vV vP : Value) : List Value := [.string (tx m.name), .int .i64 z, vI, vV, vP]
def ModT (t : Bool) (w : World) (m : Mdl) (cs : List Value) : Prop :=
  ∃ z vI vV vP, cs = mdlVT m z vI vV vP ∧ PlT t z m.pos ∧ TRows w 2 (ImpT t) vI m.imports ∧ TRows w 4 (VarT t) vV m.vars ∧ TRows w 8 (ProcT t w) vP m.procs

theorem NodesT.later {t : Bool} {w w' : World} {v : Value} {l : List Nd} (h : NodesT t w v l) (hg : Grow w w') : NodesT t w' v l := TRows.imp h hg fun _ _ h => h
theorem ArgsT.later {t : Bool} {w w' : World} {v : Value} {l : List (List Nd)} (h : ArgsT t w v l) (hg : Grow w w') : ArgsT t w' v l := TRows.imp h hg fun _ _ ⟨v, e, h⟩ => ⟨v, e, h.later hg⟩
mutual
theorem StmT.later {t : Bool} {w w' : World} (hg : Grow w w') : ∀ (s : Stm) (cs : List Value), StmT t w s cs → StmT t w' s cs
  | .mk h body els, cs, hs => by
    unfold StmT at hs ⊢
    obtain ⟨z, vE, vA, vB, vC, e, h0, h1, h2, ⟨b1, cb, b2, b3⟩, ⟨c1, cc, c2, c3⟩⟩ := hs
    exact ⟨z, vE, vA, vB, vC, e, h0, h1.later hg, h2.later hg, ⟨b1, cb, b2.later hg, StmsT.later hg body cb b3⟩, ⟨c1, cc, c2.later hg, StmsT.later hg els cc c3⟩⟩
theorem StmsT.later {t : Bool} {w w' : World} (hg : Grow w w') : ∀ (l : List Stm) (cs : List Value), StmsT t w l cs → StmsT t w' l cs
  | [], cs, hs => by
    unfold StmsT at hs ⊢
    exact hs
  | s :: r, cs, hs => by
    unfold StmsT at hs ⊢
    obtain ⟨c, d, e, h1, h2, h3⟩ := hs
    exact ⟨c, d, e, h1, StmT.later hg s c h2, StmsT.later hg r d h3⟩
end
theorem BodyT.later {t : Bool} {w w' : World} {v : Value} {l : List Stm} (h : BodyT t w v l) (hg : Grow w w') : BodyT t w' v l := TRows.imp h hg fun s c h => StmT.later hg s c h
theorem ProcT.later {t : Bool} {w w' : World} {p : Prc} {cs : List Value} (h : ProcT t w p cs) (hg : Grow w w') : ProcT t w' p cs := by
  obtain ⟨z, vP, vU, vB, e, h0, h1, h2, h3⟩ := h
  exact ⟨z, vP, vU, vB, e, h0, h1.imp hg fun _ _ h => h, h2.imp hg fun _ _ h => h, h3.later hg⟩
theorem ModT.later {t : Bool} {w w' : World} {m : Mdl} {cs : List Value} (h : ModT t w m cs) (hg : Grow w w') : ModT t w' m cs := by
  obtain ⟨z, vI, vV, vP, e, h0, h1, h2, h3⟩ := h
  exact ⟨z, vI, vV, vP, e, h0, h1.imp hg fun _ _ h => h, h2.imp hg fun _ _ h => h, h3.imp hg fun _ _ h => h.later hg⟩

theorem PlT.of (t : Bool) (p : Nat) : PlT t (p : Int) p := fun _ => rfl
theorem NodesP.toT {w : World} {P : Nat → Prop} {v : Value} {n : Nat} {l : List Nd} (t : Bool) (h : NodesP w P v n l) : NodesT t w v l := RowsP.toT h fun o _ h => ⟨o.pos, h, PlT.of _ _⟩
theorem ArgsP.toT {w : World} {P : Nat → Prop} {v : Value} {n : Nat} {l : List (List Nd)} (t : Bool) (h : ArgsP w P v n l) : ArgsT t w v l := RowsP.toT h fun _ _ ⟨v, _, e, h⟩ => ⟨v, e, h.toT t⟩
mutual
theorem StmV.toT {w : World} {P : Nat → Prop} (t : Bool) : ∀ (s : Stm) (cs : List Value), StmV w P s cs → StmT t w s cs
  | .mk h body els, cs, hs => by
    unfold StmV at hs
    unfold StmT
    obtain ⟨vE, nE, vA, nA, vB, nB, vC, nC, e, h1, h2, ⟨b1, b2, b3, cb, b4, b5⟩, ⟨c1, c2, c3, cc, c4, c5⟩⟩ := hs
    subst b1 c1
    exact ⟨h.pos, vE, vA, vB, vC, e, PlT.of _ _, h1.toT t, h2.toT t, ⟨Nat.le_trans b2 (by decide), cb, b4, StmsV.toT t body cb b5⟩, ⟨Nat.le_trans c2 (by decide), cc, c4, StmsV.toT t els cc c5⟩⟩
theorem StmsV.toT {w : World} {P : Nat → Prop} (t : Bool) : ∀ (l : List Stm) (cs : List Value), StmsV w P l cs → StmsT t w l cs
  | [], cs, hs => by
    unfold StmsV at hs
    unfold StmsT
    exact hs
  | s :: r, cs, hs => by
    unfold StmsV at hs
    unfold StmsT
    obtain ⟨c, d, e, h1, h2, h3⟩ := hs
    exact ⟨c, d, e, h1, StmV.toT t s c h2, StmsV.toT t r d h3⟩
end
theorem ProcV.toT {w : World} {P : Nat → Prop} (t : Bool) {p : Prc} {cs : List Value} (h : ProcV w P p cs) : ProcT t w p cs := by
  obtain ⟨vP, nP, vU, nU, vB, nB, e, h1, h2, h3⟩ := h
  exact ⟨p.pos, vP, vU, vB, e, PlT.of _ _, h1.toT fun o _ h => ⟨o.pos, h, PlT.of _ _⟩, h2.toT fun _ _ h => h, RowsP.toT h3 fun s c h => StmV.toT t s c h⟩
theorem ModV.toT {w : World} {P : Nat → Prop} (t : Bool) {m : Mdl} {cs : List Value} (h : ModV w P m cs) : ModT t w m cs := by
  obtain ⟨vI, nI, vV, nV, vP, nP, e, h1, h2, h3⟩ := h
  exact ⟨m.pos, vI, vV, vP, e, PlT.of _ _, h1.toT fun o _ h => ⟨o.pos, h, PlT.of _ _⟩, h2.toT fun o _ h => ⟨o.pos, h, PlT.of _ _⟩, h3.toT fun _ _ h => h.toT t⟩

end Go.Proofs.YtlgfijjkbomejaaGreatDoor

namespace Go.Proofs.YtlgfijjkbomejaaGreatDoor
open Go.RowKit Go.Lib
set_option maxRecDepth 100000

theorem Cells.shape {w : World} {v : Value} {size n : Nat} {xs : List Value} (h : Cells w v size n xs) : ∃ ao c, v = .slice ao n c := by
  obtain ⟨ao, c, e, _⟩ := h
  exact ⟨ao, c, e⟩
/-- A table that is read: so many rows of so many cells. -/
def TabV (w : World) (v : Value) (n m : Nat) (g : Nat → Nat → Value) : Prop :=
  ∃ vs, Cells w v 1 n vs ∧ ∀ i vi, vs[i]? = some vi → Cells w vi 1 m ((List.range m).map (g i))
theorem TabV.later {w w' : World} {v : Value} {n m : Nat} {g : Nat → Nat → Value} (h : TabV w v n m g) (hg : Grow w w') : TabV w' v n m g := by
  obtain ⟨vs, h2, h3⟩ := h
  exact ⟨vs, h2.later hg, fun i vi hi => (h3 i vi hi).later hg⟩
theorem TabV.shape {w : World} {v : Value} {n m : Nat} {g : Nat → Nat → Value} (h : TabV w v n m g) : ∃ ao c, v = .slice ao n c := by
  obtain ⟨vs, ⟨ao, c, rfl, _⟩, _⟩ := h
  exact ⟨ao, c, rfl⟩
theorem TabV.row {w : World} {ao : Option Addr} {c n m : Nat} {g : Nat → Nat → Value} (h : TabV w (.slice ao n c) n m g) {i : Nat} (hi : i < n) :
    ∃ a bo d, ao = some a ∧ w.cell? (a.add i) = some (.slice bo m d) ∧ Cells w (.slice bo m d) 1 m ((List.range m).map (g i)) := by
  obtain ⟨vs, ⟨ao', c', e, hl, hc, hz, hat⟩, h3⟩ := h
  simp only [Value.slice.injEq] at e
  obtain ⟨rfl, _, rfl⟩ := e
  obtain ⟨a, rfl⟩ : ∃ a, ao = some a := by
    cases ao with
    | some a => exact ⟨a, rfl⟩
    | none => have := (hz rfl).1; omega
  have hv : vs[i]? = some (vs[i]'(by omega)) := List.getElem?_eq_getElem (by omega)
  have h4 := h3 i _ hv
  obtain ⟨bo, d, e2, _⟩ := h4
  rw [e2] at hv
  have h4 := h3 i _ hv
  exact ⟨a, bo, d, rfl, hat a rfl i _ hv, h4⟩
theorem cells_at {w : World} {ao : Option Addr} {c n : Nat} {g : Nat → Value} (h : Cells w (.slice ao n c) 1 n ((List.range n).map g)) {j : Nat} (hj : j < n) : ∃ a, ao = some a ∧ w.cell? (a.add j) = some (g j) := by
  obtain ⟨ao', c', e, hl, hc, hz, hat⟩ := h
  simp only [Value.slice.injEq] at e
  obtain ⟨rfl, _, rfl⟩ := e
  obtain ⟨a, rfl⟩ : ∃ a, ao = some a := by
    cases ao with
    | some a => exact ⟨a, rfl⟩
    | none => have := (hz rfl).1; omega
  exact ⟨a, rfl, hat a rfl j _ (by rw [List.getElem?_map, List.getElem?_range hj]; rfl)⟩
theorem TabV.at {w : World} {ao : Option Addr} {c n m : Nat} {g : Nat → Nat → Value} (h : TabV w (.slice ao n c) n m g) {i j : Nat} (hi : i < n) (hj : j < m) :
    ∃ a b d, ao = some a ∧ w.cell? (a.add i) = some (.slice (some b) m d) ∧ w.cell? (b.add j) = some (g i j) := by
  obtain ⟨a, bo, d, rfl, h1, h2⟩ := h.row hi
  obtain ⟨b, rfl, h3⟩ := cells_at h2 hj
  exact ⟨a, b, d, rfl, h1, h3⟩
theorem range_congr {α : Type} {n : Nat} {f g : Nat → α} (h : ∀ k, k < n → f k = g k) : (List.range n).map f = (List.range n).map g :=
  List.map_congr_left fun k hk => h k (by simpa using hk)
theorem TabV.congr {w : World} {v : Value} {n m : Nat} {g g' : Nat → Nat → Value} (h : TabV w v n m g) (hg : ∀ i j, i < n → j < m → g i j = g' i j) : TabV w v n m g' := by
  obtain ⟨vs, h2, h3⟩ := h
  refine ⟨vs, h2, fun i vi hi => ?_⟩
  have hl : i < n := by
    have h4 := (List.getElem?_eq_some_iff.1 hi).1
    obtain ⟨_, _, _, h5, _⟩ := h2
    omega
  rw [← range_congr fun k hk => hg i k hl hk]
  exact h3 i vi hi

/-- A table that lies in blocks from lo on. -/
def TabL (lo : Nat) (w : World) (v : Value) (n m : Nat) (g : Nat → Nat → Value) : Prop :=
  ∃ vs, Cells w v 1 n vs ∧ BlkP (fun k => lo ≤ k) v ∧ ∀ i vi, vs[i]? = some vi → Cells w vi 1 m ((List.range m).map (g i)) ∧ BlkP (fun k => lo ≤ k) vi
theorem TabL.toV {lo : Nat} {w : World} {v : Value} {n m : Nat} {g : Nat → Nat → Value} (h : TabL lo w v n m g) : TabV w v n m g := by
  obtain ⟨vs, h1, _, h3⟩ := h
  exact ⟨vs, h1, fun i vi hi => (h3 i vi hi).1⟩
theorem TabL.mono {lo lo' : Nat} {w : World} {v : Value} {n m : Nat} {g : Nat → Nat → Value} (h : TabL lo w v n m g) (hl : lo' ≤ lo) : TabL lo' w v n m g := by
  obtain ⟨vs, h1, h2, h3⟩ := h
  exact ⟨vs, h1, h2.mono fun k hk => Nat.le_trans hl hk, fun i vi hi => ⟨(h3 i vi hi).1, (h3 i vi hi).2.mono fun k hk => Nat.le_trans hl hk⟩⟩
theorem TabL.chg {lo : Nat} {w w' : World} {v : Value} {n m : Nat} {g : Nat → Nat → Value} {F : List Nat} (h : TabL lo w v n m g) (hc : Chg F w w') (hF : ∀ k, k ∈ F → k < lo) : TabL lo w' v n m g := by
  obtain ⟨vs, h1, h2, h3⟩ := h
  have hP : ∀ k, lo ≤ k → k ∉ F := fun k hk hm => by have := hF k hm; omega
  exact ⟨vs, h1.chg h2 hc hP, h2, fun i vi hi => ⟨(h3 i vi hi).1.chg (h3 i vi hi).2 hc hP, (h3 i vi hi).2⟩⟩
theorem TabL.later {lo : Nat} {w w' : World} {v : Value} {n m : Nat} {g : Nat → Nat → Value} (h : TabL lo w v n m g) (hg : Grow w w') : TabL lo w' v n m g := h.chg (F := []) (Chg.of_below hg) (by simp)
theorem Cells.low {w w' : World} {v : Value} {size n : Nat} {xs : List Value} {B : Nat} (h : Cells w v size n xs) (hb : Below B w w') (hlt : BlkP (fun k => k < B) v) : Cells w' v size n xs := by
  obtain ⟨ao, cap, rfl, h0, h1, h2, h3⟩ := h
  refine ⟨ao, cap, rfl, h0, h1, h2, fun a ha j u hj => ?_⟩
  have e : (a.add j).block = a.block := by unfold Addr.add; split <;> rfl
  have hc := h3 a ha j u hj
  rw [World.cell?_of_block (hb.block _ (by rw [e]; exact hlt a _ _ (by rw [ha])))]
  exact hc
theorem own_low {w : World} {base e size : Nat} {v : Value} {n : Nat} {xs : List Value} (h : w.ownsRow base e size v n xs) : BlkP (fun k => base ≤ k) v := by
  intro a m c ev
  rcases h.2 with ⟨rfl, _⟩ | ⟨g, cap, cur, rfl, hb, _⟩
  · cases ev
  · simp only [Value.slice.injEq, Option.some.injEq] at ev
    obtain ⟨rfl, _⟩ := ev
    exact hb

def bB (f : Nat → Nat → Bool) (i j : Nat) : Value := .bool (f i j)
def bI (f : Nat → Nat → Nat) (i j : Nat) : Value := .int .i64 (f i j : Int)
def rowB (n : Nat) (f : Nat → Bool) : List Value := (List.range n).map fun k => .bool (f k)
theorem rowB_length (n : Nat) (f : Nat → Bool) : (rowB n f).length = n := by simp [rowB]
theorem rowB_at {n : Nat} {f : Nat → Bool} {k : Nat} (hk : k < n) : (rowB n f)[k]? = some (.bool (f k)) := by
  unfold rowB
  rw [List.getElem?_map, List.getElem?_range hk]
  rfl

def updB (f : Nat → Nat → Bool) (a b : Nat) (x : Bool) (i j : Nat) : Bool := if i = a ∧ j = b then x else f i j
theorem rowB_set {n : Nat} {f : Nat → Nat → Bool} {a b : Nat} {x : Bool} : (rowB n (f a)).set b (.bool x) = rowB n (updB f a b x a) := by
  apply List.ext_getElem?
  intro k
  by_cases hk : k < n
  · rw [List.getElem?_set, rowB_at hk]
    by_cases e : b = k
    · subst e
      rw [if_pos rfl, if_pos (by rw [rowB_length]; exact hk), rowB_at hk]
      simp [updB]
    · rw [if_neg e, rowB_at hk]
      unfold updB
      rw [if_neg (by omega)]
  · rw [List.getElem?_eq_none (by simp [rowB]; omega), List.getElem?_eq_none (by simp [rowB]; omega)]

/-- One cell of an own row of single cells. -/
theorem own_cell {w : World} {base el g n c : Nat} {xs : List Value} (h : w.ownsRow base el 1 (.slice (some ⟨g, 0, none⟩) n c) n xs) {j : Nat} {x : Value} (hx : xs[j]? = some x) :
    w.cell? ⟨g, j, none⟩ = some x ∧ w.frozen? ⟨g, j, none⟩ = false := by
  obtain ⟨h1, h2 | ⟨g', cap, cur, e, hb, hg, hnc, hcm, hcs, ht⟩⟩ := h
  · exact absurd h2.1 (by simp)
  · simp only [Value.slice.injEq, Option.some.injEq, Addr.mk.injEq, and_true] at e
    obtain ⟨rfl, _, rfl⟩ := e
    have hj : j < n := by have := (List.getElem?_eq_some_iff.1 hx).1; omega
    have hc : cur[j]? = some x := by
      rw [← ht, List.getElem?_take, if_pos (by omega)] at hx
      simpa using hx
    constructor
    · simp only [World.cell?, hg]
      simpa using hc
    · simp [World.frozen?, hg]
theorem own_setV {w : World} {base el g n c : Nat} {xs : List Value} (h : w.ownsRow base el 1 (.slice (some ⟨g, 0, none⟩) n c) n xs) (j : Nat) (x : Value) :
    (w.setCell ⟨g, j, none⟩ x).ownsRow base el 1 (.slice (some ⟨g, 0, none⟩) n c) n (xs.set j x) := by
  obtain ⟨h1, h2 | ⟨g', cap, cur, e, hb, hg, hnc, hcm, hcs, ht⟩⟩ := h
  · exact absurd h2.1 (by simp)
  · simp only [Value.slice.injEq, Option.some.injEq, Addr.mk.injEq, and_true] at e
    obtain ⟨rfl, _, rfl⟩ := e
    refine ⟨by simpa using h1, .inr ⟨g, c, cur.setIfInBounds j x, rfl, hb, heap_set hg _ _, hnc, hcm, by simpa using hcs, ?_⟩⟩
    rw [← ht]
    simp [List.take_set]
/-- It stays where its block is left. -/
theorem own_chg {w w' : World} {base el size : Nat} {v : Value} {n : Nat} {xs : List Value} {F : List Nat} (h : w.ownsRow base el size v n xs) (hc : Chg F w w') (hF : ∀ k, v.ownBlock = some k → k ∉ F) : w'.ownsRow base el size v n xs := by
  refine ⟨h.1, ?_⟩
  rcases h.2 with ⟨rfl, rfl⟩ | ⟨g, cap, cur, rfl, hb, hg, hr⟩
  · exact .inl ⟨rfl, rfl⟩
  · exact .inr ⟨g, cap, cur, rfl, hb, (hc.block g (Array.getElem?_eq_some_iff.1 hg).1 (hF g rfl)).trans hg, hr⟩

/-- An order that is written: the outer row's block, its rows' blocks, unlike. -/
structure Mat (w : World) (base O C n : Nat) (R cp : Nat → Nat) (f : Nat → Nat → Bool) : Prop where
  cap : n ≤ C
  outer : ∀ i, i < n → w.cell? ⟨O, i, none⟩ = some (.slice (some ⟨R i, 0, none⟩) n (cp i))
  row : ∀ i, i < n → w.ownsRow base 4 1 (.slice (some ⟨R i, 0, none⟩) n (cp i)) n (rowB n (f i))
  inj : ∀ i j, i < n → j < n → R i = R j → i = j
  ne : ∀ i, i < n → R i ≠ O
def rowsF (n : Nat) (R : Nat → Nat) : List Nat := (List.range n).map R
theorem rowsF_mem {n : Nat} {R : Nat → Nat} {i : Nat} (hi : i < n) : R i ∈ rowsF n R := List.mem_map.2 ⟨i, by simpa using hi, rfl⟩
theorem Mat.lt {w : World} {base O C n : Nat} {R cp : Nat → Nat} {f : Nat → Nat → Bool} (h : Mat w base O C n R cp f) {i : Nat} (hi : i < n) : base ≤ R i ∧ R i < w.heap.size := by
  have := (h.row i hi).lt (R i) rfl
  exact this
theorem Mat.low {w : World} {base O C n : Nat} {R cp : Nat → Nat} {f : Nat → Nat → Bool} (h : Mat w base O C n R cp f) : ∀ x, x ∈ rowsF n R → base ≤ x := by
  intro x hx
  obtain ⟨i, hi, rfl⟩ := List.mem_map.1 hx
  exact (h.lt (by simpa using hi)).1
theorem Mat.at {w : World} {base O C n : Nat} {R cp : Nat → Nat} {f : Nat → Nat → Bool} (h : Mat w base O C n R cp f) {i j : Nat} (hi : i < n) (hj : j < n) : w.cell? ⟨R i, j, none⟩ = some (.bool (f i j)) ∧ w.frozen? ⟨R i, j, none⟩ = false :=
  own_cell (h.row i hi) (rowB_at hj)
theorem Mat.set {w : World} {base O C n : Nat} {R cp : Nat → Nat} {f : Nat → Nat → Bool} (h : Mat w base O C n R cp f) {a : Nat} (ha : a < n) (b : Nat) (x : Bool) : Mat (w.setCell ⟨R a, b, none⟩ (.bool x)) base O C n R cp (updB f a b x) := by
  refine ⟨h.cap, fun i hi => ?_, fun i hi => ?_, h.inj, h.ne⟩
  · have hc : Chg [R a] w (w.setCell ⟨R a, b, none⟩ (.bool x)) := (Chg.refl _ w).set (.inl (by simp)) _ _
    exact hc.cell (h.outer i hi) (by
      simp only [List.mem_singleton]
      exact fun e => h.ne a ha e.symm)
  · by_cases e : i = a
    · subst e
      have := own_setV (h.row i hi) b (.bool x)
      rw [rowB_set] at this
      exact this
    · have hc : Chg [R a] w (w.setCell ⟨R a, b, none⟩ (.bool x)) := (Chg.refl _ w).set (.inl (by simp)) _ _
      have h2 := own_chg (h.row i hi) hc (by
        intro k hk
        simp only [Value.ownBlock, Option.some.injEq] at hk
        subst hk
        simp only [List.mem_singleton]
        exact fun e2 => e (h.inj i a hi ha e2))
      have h3 : rowB n (updB f a b x i) = rowB n (f i) := by
        unfold rowB
        refine range_congr fun k _ => ?_
        unfold updB
        rw [if_neg (by omega)]
      rw [h3]
      exact h2
theorem Mat.congr {w : World} {base O C n : Nat} {R cp : Nat → Nat} {f g : Nat → Nat → Bool} (h : Mat w base O C n R cp f) (hg : ∀ i j, i < n → j < n → f i j = g i j) : Mat w base O C n R cp g := by
  refine ⟨h.cap, h.outer, fun i hi => ?_, h.inj, h.ne⟩
  have : rowB n (g i) = rowB n (f i) := range_congr fun k hk => by rw [hg i k hi hk]
  rw [this]
  exact h.row i hi
theorem Mat.drewN {w : World} {base O C n : Nat} {R cp : Nat → Nat} {f : Nat → Nat → Bool} (h : Mat w base O C n R cp f) (k : Nat) : Mat (w.drewN k) base O C n R cp f := ⟨h.cap, h.outer, h.row, h.inj, h.ne⟩
theorem Mat.drew {w : World} {base O C n : Nat} {R cp : Nat → Nat} {f : Nat → Nat → Bool} (h : Mat w base O C n R cp f) : Mat w.drew base O C n R cp f := ⟨h.cap, h.outer, h.row, h.inj, h.ne⟩
theorem Mat.later {w w' : World} {base O C n : Nat} {R cp : Nat → Nat} {f : Nat → Nat → Bool} (h : Mat w base O C n R cp f) (hg : Grow w w') : Mat w' base O C n R cp f := by
  refine ⟨h.cap, fun i hi => ?_, fun i hi => ?_, h.inj, h.ne⟩
  · have hc := h.outer i hi
    exact (World.cell?_of_block (hg.block _ (World.block_lt_of_cell? w _ hc))).trans hc
  · exact own_chg (F := []) (h.row i hi) (Chg.of_below hg) (by simp)
theorem Mat.chg {w w' : World} {base O C n : Nat} {R cp : Nat → Nat} {f : Nat → Nat → Bool} {F : List Nat} (h : Mat w base O C n R cp f) (hc : Chg F w w') (hO : O ∉ F) (hR : ∀ i, i < n → R i ∉ F) : Mat w' base O C n R cp f := by
  refine ⟨h.cap, fun i hi => hc.cell (h.outer i hi) hO, fun i hi => ?_, h.inj, h.ne⟩
  refine own_chg (h.row i hi) hc fun k hk => ?_
  simp only [Value.ownBlock, Option.some.injEq] at hk
  subst hk
  exact hR i hi
theorem Mat.tab {w : World} {base O C n : Nat} {R cp : Nat → Nat} {f : Nat → Nat → Bool} (h : Mat w base O C n R cp f) : TabV w (.slice (some ⟨O, 0, none⟩) n C) n n (bB f) := by
  refine ⟨(List.range n).map fun i => .slice (some ⟨R i, 0, none⟩) n (cp i), ⟨some ⟨O, 0, none⟩, C, rfl, by simp, h.cap, (fun e => by cases e), fun a ha j u hj => ?_⟩, fun i vi hi => ?_⟩
  · cases ha
    rw [Addr.add_lit, Nat.zero_add]
    have hl : j < n := by have := (List.getElem?_eq_some_iff.1 hj).1; simpa using this
    rw [List.getElem?_map, List.getElem?_range hl] at hj
    simp only [Option.map_some, Option.some.injEq] at hj
    subst hj
    exact h.outer j hl
  · have hl : i < n := by have := (List.getElem?_eq_some_iff.1 hi).1; simpa using this
    rw [List.getElem?_map, List.getElem?_range hl] at hi
    simp only [Option.map_some, Option.some.injEq] at hi
    subst hi
    exact Cells.own (h.row i hl) (by decide)

theorem elemBool : Elem 180 4 (.bool false) 1 1 := ⟨Tryz.underlying180, by kernel_rfl, by decide, by decide⟩
theorem elemBools : Elem 37 180 (.slice none 0 0) 1 24 := ⟨Tryz.underlying37, by kernel_rfl, by decide, by decide⟩
theorem elemInt1 : Elem 203 3 (.int .i64 0) 1 8 := ⟨Tryz.underlying203, by kernel_rfl, by decide, by decide⟩
theorem elemInt2 : Elem 38 203 (.slice none 0 0) 1 24 := ⟨Tryz.underlying38, by kernel_rfl, by decide, by decide⟩

/-- make of so many noughts, whatever they are (of one cell). -/
theorem wpList_make_gen {sl el : TypeId} {z : Value} {bytes : Nat} (E : Elem sl el z 1 bytes) (hz1 : z.cells = #[z]) {ops : Array Oper} {rest : List Oper} {o : Oper} {a : Act} {w : World} {Q : Exit → Act → World → Prop} (hgd : o.guard = none) (s x : Operand) (ho : o.op = Op.makeSlice sl s x)
    (base n : Nat) (C D : Int) (hl : a.eval s = .int .i64 D) (hc : a.eval x = .int .i64 C) (hD : D = (n : Int)) (hC : C = (n : Int)) (h63 : Hid (n ≤ 1000000)) (hby : bytes ≤ 1000) (hbase : base ≤ w.heap.size)
    (h : ∀ w', w'.ownsRow base el 1 (.slice (some ⟨w.heap.size, 0, none⟩) n n) n (List.replicate n z) → Below base w w' → w.grownBy w' none → w.heap.size < w'.heap.size → wpList Tryz.prog ops Q rest (a.put o.dst (.slice (some ⟨w.heap.size, 0, none⟩) n n)) w') : wpList Tryz.prog ops Q (o :: rest) a w := by
  obtain ⟨i0, hi, hz0, hzs, hz2⟩ := info_parts E.info
  have hm := h63.out
  refine wpList_make_full w hgd s x _ ho base el i0 _ 1 E.under hi hz0 hzs .i64 .i64 D C n hl hc hD hC (by rw [hz2]; exact Nat.le_trans (Nat.mul_le_mul hby hm) (by decide : 1000 * 1000000 ≤ 281474976710656)) (by unfold maxLen; omega) hbase fun w' hown hg => h w' ?_ (below_none hg hbase) hg (hown.lt _ rfl).2
  have e : (madeCells z.cells (n * 1)).toList = List.replicate n z := by
    rw [Nat.mul_one, hz1]
    unfold madeCells
    apply List.ext_getElem?
    intro i
    by_cases hi : i < n
    · simp [hi, Nat.mod_one]
    · simp [hi]
  rw [e] at hown
  exact hown
theorem rowB_false (n : Nat) : List.replicate n (Value.bool false) = rowB n fun _ => false := by
  unfold rowB
  apply List.ext_getElem?
  intro i
  by_cases hi : i < n
  · simp [hi]
  · simp [hi]

end Go.Proofs.YtlgfijjkbomejaaGreatDoor
