/- Trees that are one, but for places or with them. Plain facts; what is read at arguments. Numbers and types by name. -/
import Derived.Test.YtejaikpnfhhmnaaDoorSmb
namespace Go.Proofs.YtejaikpnfhhmnaaDoor
open Go.RowKit Go.Lib
set_option maxRecDepth 100000

def Stm.nrm (t : Bool) (s : Stm) : Stm := if t = true then s else s.er
theorem nd_true : Nd.nrm true = id := by
  funext o
  rfl
theorem nd_false : Nd.nrm false = Nd.er := by
  funext o
  rfl
theorem stm_true : Stm.nrm true = id := by
  funext o
  rfl
theorem stm_false : Stm.nrm false = Stm.er := by
  funext o
  rfl

set_option maxHeartbeats 1000000 in
theorem stm_nrm (t : Bool) (h1 h2 : SH) (b1 b2 e1 e2 : List Stm) : (Stm.mk h1 b1 e1).nrm t = (Stm.mk h2 b2 e2).nrm t ↔
    h1.kind = h2.kind ∧ (t = true → h1.pos = h2.pos) ∧ h1.mod = h2.mod ∧ h1.name = h2.name ∧ h1.label = h2.label ∧ h1.has = h2.has ∧ h1.toMod = h2.toMod ∧ h1.to = h2.to ∧ h1.e.map (Nd.nrm t) = h2.e.map (Nd.nrm t) ∧ h1.args.map (List.map (Nd.nrm t)) = h2.args.map (List.map (Nd.nrm t)) ∧ b1.map (Stm.nrm t) = b2.map (Stm.nrm t) ∧ e1.map (Stm.nrm t) = e2.map (Stm.nrm t) := by
  obtain ⟨k1, z1, m1, n1, l1, x1, p1, q1, ee1, aa1⟩ := h1
  obtain ⟨k2, z2, m2, n2, l2, x2, p2, q2, ee2, aa2⟩ := h2
  cases t with
  | true =>
    rw [nd_true, stm_true]
    simp only [id, Stm.mk.injEq, SH.mk.injEq, List.map_id_fun, List.map_id, and_assoc, true_implies, id_eq]
  | false =>
    rw [nd_false, stm_false, er_mk, er_mk]
    have e : erN = List.map Nd.er := rfl
    simp only [SH.er, e, Stm.mk.injEq, SH.mk.injEq, and_assoc, true_and, Bool.false_eq_true, false_implies]
mutual
def Stm.sz : Stm → Nat
  | .mk _ b e => 1 + szS b + szS e
def szS : List Stm → Nat
  | [] => 0
  | s :: r => s.sz + szS r
end
theorem sz_mk (h : SH) (b e : List Stm) : (Stm.mk h b e).sz = 1 + szS b + szS e := by rw [Stm.sz]
theorem sz_at : ∀ {l : List Stm} {k : Nat} {s : Stm}, l[k]? = some s → s.sz ≤ szS l
  | [], _, _, h => by simp at h
  | x :: l, 0, s, h => by
    simp only [List.getElem?_cons_zero, Option.some.injEq] at h
    subst h
    rw [szS]
    exact Nat.le_add_right _ _
  | x :: l, k + 1, s, h => by
    rw [List.getElem?_cons_succ] at h
    have := sz_at h
    rw [szS]
    omega

theorem argsT_at {t : Bool} {w : World} {ao : Option Addr} {n c : Nat} {l : List (List Nd)} (h : ArgsT t w (.slice ao n c) l) {k : Nat} (hk : k < n) : ∃ a o v, ao = some a ∧ l[k]? = some o ∧ w.cell? (a.add k) = some v ∧ NodesT t w v o := by
  obtain ⟨a, o, cs, rfl, ho, ⟨v, rfl, hv⟩, _, h1, _⟩ := TRows.at h hk
  exact ⟨a, o, v, rfl, ho, by have := h1 _ rfl; rwa [Nat.mul_one] at this, hv⟩
theorem grow_drew (w : World) : Grow w w.drew := (Below.refl _ w).drew
theorem Grow.cell {w w' : World} (h : Grow w w') {a : Addr} {u : Value} (hc : w.cell? a = some u) : w'.cell? a = some u := (World.cell?_of_block (h.block _ (World.block_lt_of_cell? w _ hc))).trans hc

def Imp.nrm (t : Bool) (s : Imp) : Imp := if t = true then s else s.er
def Vrb.nrm (t : Bool) (s : Vrb) : Vrb := if t = true then s else s.er
def Par.nrm (t : Bool) (s : Par) : Par := if t = true then s else s.er
def Prc.nrm (t : Bool) (s : Prc) : Prc := if t = true then s else s.er
def Mdl.nrm (t : Bool) (s : Mdl) : Mdl := if t = true then s else s.er
theorem imp_nrm (t : Bool) (a b : Imp) : a.nrm t = b.nrm t ↔ a.name = b.name ∧ (t = true → a.pos = b.pos) := by
  obtain ⟨n1, p1⟩ := a
  obtain ⟨n2, p2⟩ := b
  cases t <;> simp [Imp.nrm, Imp.er]
theorem vrb_nrm (t : Bool) (a b : Vrb) : a.nrm t = b.nrm t ↔ a.name = b.name ∧ a.label = b.label ∧ a.init = b.init ∧ (t = true → a.pos = b.pos) := by
  obtain ⟨n1, l1, i1, p1⟩ := a
  obtain ⟨n2, l2, i2, p2⟩ := b
  cases t <;> simp [Vrb.nrm, Vrb.er]
theorem par_nrm (t : Bool) (a b : Par) : a.nrm t = b.nrm t ↔ a.name = b.name ∧ a.label = b.label ∧ (t = true → a.pos = b.pos) := by
  obtain ⟨n1, l1, p1⟩ := a
  obtain ⟨n2, l2, p2⟩ := b
  cases t <;> simp [Par.nrm, Par.er]
theorem prc_nrm (t : Bool) (a b : Prc) : a.nrm t = b.nrm t ↔ a.name = b.name ∧ a.has = b.has ∧ a.result = b.result ∧ a.pc = b.pc ∧ a.uses = b.uses ∧ (t = true → a.pos = b.pos) ∧ a.params.map (Par.nrm t) = b.params.map (Par.nrm t) ∧ a.body.map (Stm.nrm t) = b.body.map (Stm.nrm t) := by
  obtain ⟨n1, ps1, h1, r1, c1, u1, b1, p1⟩ := a
  obtain ⟨n2, ps2, h2, r2, c2, u2, b2, p2⟩ := b
  cases t with
  | true =>
    have e1 : Par.nrm true = id := rfl
    rw [e1, stm_true]
    simp only [Prc.nrm, if_true, Prc.mk.injEq, List.map_id_fun, List.map_id, id_eq, true_implies]
    constructor
    · rintro ⟨a, b, c, d, e, f, g, h⟩
      exact ⟨a, c, d, e, f, h, b, g⟩
    · rintro ⟨a, c, d, e, f, h, b, g⟩
      exact ⟨a, b, c, d, e, f, g, h⟩
  | false =>
    have e1 : Par.nrm false = Par.er := rfl
    rw [e1, stm_false]
    simp only [Prc.nrm, Prc.er, Bool.false_eq_true, if_false, Prc.mk.injEq, false_implies, true_and, and_true]
    constructor
    · rintro ⟨a, b, c, d, e, f, g⟩
      exact ⟨a, c, d, e, f, b, g⟩
    · rintro ⟨a, c, d, e, f, b, g⟩
      exact ⟨a, b, c, d, e, f, g⟩
theorem mdl_nrm (t : Bool) (a b : Mdl) : a.nrm t = b.nrm t ↔ a.name = b.name ∧ (t = true → a.pos = b.pos) ∧ a.imports.map (Imp.nrm t) = b.imports.map (Imp.nrm t) ∧ a.vars.map (Vrb.nrm t) = b.vars.map (Vrb.nrm t) ∧ a.procs.map (Prc.nrm t) = b.procs.map (Prc.nrm t) := by
  obtain ⟨n1, p1, i1, v1, q1⟩ := a
  obtain ⟨n2, p2, i2, v2, q2⟩ := b
  cases t with
  | true =>
    have e1 : Imp.nrm true = id := rfl
    have e2 : Vrb.nrm true = id := rfl
    have e3 : Prc.nrm true = id := rfl
    rw [e1, e2, e3]
    simp only [Mdl.nrm, if_true, Mdl.mk.injEq, List.map_id_fun, List.map_id, id_eq, true_implies]
  | false =>
    have e1 : Imp.nrm false = Imp.er := rfl
    have e2 : Vrb.nrm false = Vrb.er := rfl
    have e3 : Prc.nrm false = Prc.er := rfl
    rw [e1, e2, e3]
    simp only [Mdl.nrm, Mdl.er, Bool.false_eq_true, if_false, Mdl.mk.injEq, false_implies, true_and]
theorem modT_shape {t : Bool} {w : World} {m : Mdl} {cs : List Value} (h : ModT t w m cs) : ∃ (z : Int) (aI : Option Addr) (nI cI : Nat) (aV : Option Addr) (nV cV : Nat) (aP : Option Addr) (nP cP : Nat), cs = [.string (tx m.name), .int .i64 z, .slice aI nI cI, .slice aV nV cV, .slice aP nP cP] := by
  obtain ⟨z, vI, vV, vP, rfl, _, h1, h2, h3⟩ := h
  obtain ⟨aI, cI, rfl⟩ := h1.shape
  obtain ⟨aV, cV, rfl⟩ := h2.shape
  obtain ⟨aP, cP, rfl⟩ := h3.shape
  exact ⟨z, aI, _, cI, aV, _, cV, aP, _, cP, rfl⟩

end Go.Proofs.YtejaikpnfhhmnaaDoor
