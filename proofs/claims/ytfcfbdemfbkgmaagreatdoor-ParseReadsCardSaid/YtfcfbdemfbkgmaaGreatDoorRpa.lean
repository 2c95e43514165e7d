/- The reference's Parse. Numbers and types by name. -/
import Derived.Test.YtfcfbdemfbkgmaaGreatDoorSmb
import Derived.Test.YtfcfbdemfbkgmaaGreatDoorPbn
import Derived.Test.YtfcfbdemfbkgmaaGreatDoorQpt
import Derived.Test.YtfcfbdemfbkgmaaGreatDoorLca
/- Trees that are one, but for places or with them. Plain facts; what is read at arguments. Numbers and types by name. -/
namespace Go.Proofs.YtfcfbdemfbkgmaaGreatDoor
open Go.RowKit Go.Lib
set_option maxRecDepth 100000

def Stm.nrm (t : Bool) (s : Stm) : Stm := if t = true then s else s.er
theorem nd_true : Nd.nrm true = id := by
  funext o
  rfl
theorem nd_false : Nd.nrm false = Nd.er := by
  funext o
  rfl
theorem stm_true : Stm.nrm true = id := by
  funext o
  rfl
theorem stm_false : Stm.nrm false = Stm.er := by
  funext o
  rfl

set_option maxHeartbeats 1000000 in
theorem stm_nrm (t : Bool) (h1 h2 : SH) (b1 b2 e1 e2 : List Stm) : (Stm.mk h1 b1 e1).nrm t = (Stm.mk h2 b2 e2).nrm t ↔
    h1.kind = h2.kind ∧ (t = true → h1.pos = h2.pos) ∧ h1.mod = h2.mod ∧ h1.name = h2.name ∧ h1.label = h2.label ∧ h1.has = h2.has ∧ h1.toMod = h2.toMod ∧ h1.to = h2.to ∧ h1.e.map (Nd.nrm t) = h2.e.map (Nd.nrm t) ∧ h1.args.map (List.map (Nd.nrm t)) = h2.args.map (List.map (Nd.nrm t)) ∧ b1.map (Stm.nrm t) = b2.map (Stm.nrm t) ∧ e1.map (Stm.nrm t) = e2.map (Stm.nrm t) := by
  obtain ⟨k1, z1, m1, n1, l1, x1, p1, q1, ee1, aa1⟩ := h1
  obtain ⟨k2, z2, m2, n2, l2, x2, p2, q2, ee2, aa2⟩ := h2
  cases t with
  | true =>
    rw [nd_true, stm_true]
    simp only [id, Stm.mk.injEq, SH.mk.injEq, List.map_id_fun, List.map_id, and_assoc, true_implies, id_eq]
  | false =>
    rw [nd_false, stm_false, er_mk, er_mk]
    have e : erN = List.map Nd.er := rfl
    simp only [SH.er, e, Stm.mk.injEq, SH.mk.injEq, and_assoc, true_and, Bool.false_eq_true, false_implies]
mutual
def Stm.sz : Stm → Nat
  | .mk _ b e => 1 + szS b + szS e
def szS : List Stm → Nat
  | [] => 0
  | s :: r => s.sz + szS r
end
theorem sz_mk (h : SH) (b e : List Stm) : (Stm.mk h b e).sz = 1 + szS b + szS e := by rw [Stm.sz]
theorem sz_at : ∀ {l : List Stm} {k : Nat} {s : Stm}, l[k]? = some s → s.sz ≤ szS l
  | [], _, _, h => by simp at h
  | x :: l, 0, s, h => by
    simp only [List.getElem?_cons_zero, Option.some.injEq] at h
    subst h
    rw [szS]
    exact Nat.le_add_right _ _
  | x :: l, k + 1, s, h => by
    rw [List.getElem?_cons_succ] at h
    have := sz_at h
    rw [szS]
    omega

theorem argsT_at {t : Bool} {w : World} {ao : Option Addr} {n c : Nat} {l : List (List Nd)} (h : ArgsT t w (.slice ao n c) l) {k : Nat} (hk : k < n) : ∃ a o v, ao = some a ∧ l[k]? = some o ∧ w.cell? (a.add k) = some v ∧ NodesT t w v o := by
  obtain ⟨a, o, cs, rfl, ho, ⟨v, rfl, hv⟩, _, h1, _⟩ := TRows.at h hk
  exact ⟨a, o, v, rfl, ho, by have := h1 _ rfl; rwa [Nat.mul_one] at this, hv⟩
theorem grow_drew (w : World) : Grow w w.drew := (Below.refl _ w).drew
theorem Grow.cell {w w' : World} (h : Grow w w') {a : Addr} {u : Value} (hc : w.cell? a = some u) : w'.cell? a = some u := (World.cell?_of_block (h.block _ (World.block_lt_of_cell? w _ hc))).trans hc

def Imp.nrm (t : Bool) (s : Imp) : Imp := if t = true then s else s.er
def Vrb.nrm (t : Bool) (s : Vrb) : Vrb := if t = true then s else s.er
def Par.nrm (t : Bool) (s : Par) : Par := if t = true then s else s.er
def Prc.nrm (t : Bool) (s : Prc) : Prc := if t = true then s else s.er
def Mdl.nrm (t : Bool) (s : Mdl) : Mdl := if t = true then s else s.er
theorem imp_nrm (t : Bool) (a b : Imp) : a.nrm t = b.nrm t ↔ a.name = b.name ∧ (t = true → a.pos = b.pos) := by
  obtain ⟨n1, p1⟩ := a
  obtain ⟨n2, p2⟩ := b
  cases t <;> simp [Imp.nrm, Imp.er]
theorem vrb_nrm (t : Bool) (a b : Vrb) : a.nrm t = b.nrm t ↔ a.name = b.name ∧ a.label = b.label ∧ a.init = b.init ∧ (t = true → a.pos = b.pos) := by
  obtain ⟨n1, l1, i1, p1⟩ := a
  obtain ⟨n2, l2, i2, p2⟩ := b
  cases t <;> simp [Vrb.nrm, Vrb.er]
theorem par_nrm (t : Bool) (a b : Par) : a.nrm t = b.nrm t ↔ a.name = b.name ∧ a.label = b.label ∧ (t = true → a.pos = b.pos) := by
  obtain ⟨n1, l1, p1⟩ := a
  obtain ⟨n2, l2, p2⟩ := b
  cases t <;> simp [Par.nrm, Par.er]
theorem prc_nrm (t : Bool) (a b : Prc) : a.nrm t = b.nrm t ↔ a.name = b.name ∧ a.has = b.has ∧ a.result = b.result ∧ a.pc = b.pc ∧ a.uses = b.uses ∧ (t = true → a.pos = b.pos) ∧ a.params.map (Par.nrm t) = b.params.map (Par.nrm t) ∧ a.body.map (Stm.nrm t) = b.body.map (Stm.nrm t) := by
  obtain ⟨n1, ps1, h1, r1, c1, u1, b1, p1⟩ := a
  obtain ⟨n2, ps2, h2, r2, c2, u2, b2, p2⟩ := b
  cases t with
  | true =>
    have e1 : Par.nrm true = id := rfl
    rw [e1, stm_true]
    simp only [Prc.nrm, if_true, Prc.mk.injEq, List.map_id_fun, List.map_id, id_eq, true_implies]
    constructor
    · rintro ⟨a, b, c, d, e, f, g, h⟩
      exact ⟨a, c, d, e, f, h, b, g⟩
    · rintro ⟨a, c, d, e, f, h, b, g⟩
      exact ⟨a, b, c, d, e, f, g, h⟩
  | false =>
    have e1 : Par.nrm false = Par.er := rfl
    rw [e1, stm_false]
    simp only [Prc.nrm, Prc.er, Bool.false_eq_true, if_false, Prc.mk.injEq, false_implies, true_and, and_true]
    constructor
    · rintro ⟨a, b, c, d, e, f, g⟩
      exact ⟨a, c, d, e, f, b, g⟩
    · rintro ⟨a, c, d, e, f, b, g⟩
      exact ⟨a, b, c, d, e, f, g⟩
theorem mdl_nrm (t : Bool) (a b : Mdl) : a.nrm t = b.nrm t ↔ a.name = b.name ∧ (t = true → a.pos = b.pos) ∧ a.imports.map (Imp.nrm t) = b.imports.map (Imp.nrm t) ∧ a.vars.map (Vrb.nrm t) = b.vars.map (Vrb.nrm t) ∧ a.procs.map (Prc.nrm t) = b.procs.map (Prc.nrm t) := by
  obtain ⟨n1, p1, i1, v1, q1⟩ := a
  obtain ⟨n2, p2, i2, v2, q2⟩ := b
  cases t with
  | true =>
    have e1 : Imp.nrm true = id := rfl
    have e2 : Vrb.nrm true = id := rfl
    have e3 : Prc.nrm true = id := rfl
    rw [e1, e2, e3]
    simp only [Mdl.nrm, if_true, Mdl.mk.injEq, List.map_id_fun, List.map_id, id_eq, true_implies]
  | false =>
    have e1 : Imp.nrm false = Imp.er := rfl
    have e2 : Vrb.nrm false = Vrb.er := rfl
    have e3 : Prc.nrm false = Prc.er := rfl
    rw [e1, e2, e3]
    simp only [Mdl.nrm, Mdl.er, Bool.false_eq_true, if_false, Mdl.mk.injEq, false_implies, true_and]
theorem modT_shape {t : Bool} {w : World} {m : Mdl} {cs : List Value} (h : ModT t w m cs) : ∃ (z : Int) (aI : Option Addr) (nI cI : Nat) (aV : Option Addr) (nV cV : Nat) (aP : Option Addr) (nP cP : Nat), cs = [.string (tx m.name), .int .i64 z, .slice aI nI cI, .slice aV nV cV, .slice aP nP cP] := by
  obtain ⟨z, vI, vV, vP, rfl, _, h1, h2, h3⟩ := h
  obtain ⟨aI, cI, rfl⟩ := h1.shape
  obtain ⟨aV, cV, rfl⟩ := h2.shape
  obtain ⟨aP, cP, rfl⟩ := h3.shape
  exact ⟨z, aI, _, cI, aV, _, cV, aP, _, cP, rfl⟩

end Go.Proofs.YtfcfbdemfbkgmaaGreatDoor

namespace Go.Proofs.YtfcfbdemfbkgmaaGreatDoor
open Go.RowKit Go.Lib
set_option maxRecDepth 100000

theorem rdr_new {w : World} {ao : Option Addr} {n c : Nat} {L : List Tk} (hT : Tkr w (.slice ao n c) n L) (hL : TokL L) : Rdr w (w.alloc (.cells #[.slice ao n c, .int .i64 0, .int .i64 0, .int .i64 0, .int .i64 0] 67)) w.heap.size n (.slice ao n c) L ps0 :=
  ⟨⟨cellsN (heap_alloc_new _ _) 0 _ rfl, cellsN (heap_alloc_new _ _) 1 _ rfl, cellsN (heap_alloc_new _ _) 2 _ rfl, cellsN (heap_alloc_new _ _) 3 _ rfl, cellsN (heap_alloc_new _ _) 4 _ rfl, fun k => frozen_of_row _ _ _ _ _ (heap_alloc_new _ _)⟩, hT, Nat.le_refl _, (Below.refl _ w).alloc (Nat.le_refl _) _, hL.pos, hL, by decide⟩

/-- A module and two numbers are told. -/
theorem res_mod {fn : Func} (h : fn.results = #[.cell 2 27, .tmp 3, .tmp 4]) (tmps : Array Value) (w : World) (M : Nat) (cs : List Value) (hl : cs.length = 5) {t : TypeId} (hM : w.heap[M]? = some (.cells cs.toArray t)) (x y : Value)
    (h2 : tmps.getD 2 undef = .pointer (some ⟨M, 0, none⟩)) (h3 : tmps.getD 3 undef = x) (h4 : tmps.getD 4 undef = y) :
    (results fn tmps).run Tryz.prog w = .ok (.tuple #[.agg cs.toArray, x, y]) w := by
  have hv := load_mod hM hl
  have h2' : tmps[2]?.getD undef = .pointer (some ⟨M, 0, none⟩) := by simpa using h2
  have h3' : tmps[3]?.getD undef = x := by simpa using h3
  have h4' : tmps[4]?.getD undef = y := by simpa using h4
  simp [results, h, h2', h3', h4', asAddr, hv]
/-- Five cells are written. -/
theorem mod_set5 {w : World} {M : Nat} {a0 a1 a2 a3 a4 : Value} {t : TypeId} (h : w.heap[M]? = some (.cells #[a0, a1, a2, a3, a4] t)) (b0 b1 b2 b3 b4 : Value) :
    (((((w.setCell ⟨M, 0, none⟩ b0).setCell ⟨M, 1, none⟩ b1).setCell ⟨M, 2, none⟩ b2).setCell ⟨M, 3, none⟩ b3).setCell ⟨M, 4, none⟩ b4).heap[M]? = some (.cells #[b0, b1, b2, b3, b4] t) ∧ Chg [M] w (((((w.setCell ⟨M, 0, none⟩ b0).setCell ⟨M, 1, none⟩ b1).setCell ⟨M, 2, none⟩ b2).setCell ⟨M, 3, none⟩ b3).setCell ⟨M, 4, none⟩ b4) :=
  ⟨heap_setCell_same _ _ _ _ _ _ (heap_setCell_same _ _ _ _ _ _ (heap_setCell_same _ _ _ _ _ _ (heap_setCell_same _ _ _ _ _ _ (heap_setCell_same _ _ _ _ _ _ h)))), ((((((Chg.refl [M] w).set (.inl (by simp)) 0 _).set (.inl (by simp)) 1 _).set (.inl (by simp)) 2 _).set (.inl (by simp)) 3 _).set (.inl (by simp)) 4 _)⟩

set_option maxHeartbeats 8000000 in
theorem ref_parse (l : List UInt8) (w : World) : Calls Tryz.prog 11 #[.string (tx l)] w (ModTold w (parseP l)) := by
  obtain ⟨w1, hw1⟩ : ∃ w1, w.alloc (.cells #[.string ⟨#[]⟩, .int .i64 0, .slice none 0 0, .slice none 0 0, .slice none 0 0] 27) = w1 := ⟨_, rfl⟩
  have P := ref_lex l w1
  have hL := fun he => (lexP_tokL (b := l) he).1
  have hq1 : (lexP l).e ≠ 0 → parseP l = (mdl0, (lexP l).e, (lexP l).pos) := fun h => by rw [parseP, if_pos h]
  have hq2 : (lexP l).e = 0 → (moduleT (lexP l).l ps0).2.e ≠ 0 → parseP l = (mdl0, (moduleT (lexP l).l ps0).2.e, (moduleT (lexP l).l ps0).2.pos) := fun h h2 => by rw [parseP, if_neg (by rw [h]; simp)]; simp only; rw [if_pos h2]
  have hq3 : (lexP l).e = 0 → (moduleT (lexP l).l ps0).2.e = 0 → parseP l = ((moduleT (lexP l).l ps0).1, 0, 0) := fun h h2 => by rw [parseP, if_neg (by rw [h]; simp)]; simp only; rw [if_neg (by rw [h2]; simp)]
  generalize parseP l = PP at *
  generalize lexP l = R at *
  obtain ⟨L, x, p⟩ := R
  simp only at hL hq1 hq2 hq3
  have HQ := Lib.hid (And.intro hL (And.intro hq1 (And.intro hq2 hq3)))
  have hB1 : Below w.heap.size w w1 := by rw [← hw1]; exact (Below.refl _ w).alloc (Nat.le_refl _) _
  have hR1 : w1.heap[w.heap.size]? = some (.cells #[.string ⟨#[]⟩, .int .i64 0, .slice none 0 0, .slice none 0 0, .slice none 0 0] 27) := by rw [← hw1]; exact heap_alloc_new _ _
  have H1 := Lib.hid (And.intro hB1 hR1)
  clear hL hq1 hq2 hq3 hB1 hR1
  go_enter Tryz.func11, Tryz.ntmps11
  go_wp2_with fail
  clear hw1
  refine P.mono ?_
  rintro e1 w2 ⟨ao, n, c, rfl, hT, hb⟩
  clear P
  have hR2 := (hb.block _ (Array.getElem?_eq_some_iff.1 H1.out.2).1).trans H1.out.2
  have hlt := (Array.getElem?_eq_some_iff.1 hR2).1
  have H2 := Lib.hid (And.intro (H1.out.1.trans (hb.mono H1.out.1.size)) (And.intro hR2 hT))
  generalize hRB : w.heap.size = RB at hR2 ⊢
  have m0 : w2.cell? ⟨RB, 0, none⟩ = some (.string ⟨#[]⟩) := cellsN hR2 0 _ rfl
  have m1 : w2.cell? ⟨RB, 1, none⟩ = some (.int .i64 0) := cellsN hR2 1 _ rfl
  have m2 : w2.cell? ⟨RB, 2, none⟩ = some (.slice none 0 0) := cellsN hR2 2 _ rfl
  have m3 : w2.cell? ⟨RB, 3, none⟩ = some (.slice none 0 0) := cellsN hR2 3 _ rfl
  have m4 : w2.cell? ⟨RB, 4, none⟩ = some (.slice none 0 0) := cellsN hR2 4 _ rfl
  have fm0 := frozen_of_row w2 RB 0 _ _ hR2
  have fm1 := frozen_of_row w2 RB 1 _ _ hR2
  have fm2 := frozen_of_row w2 RB 2 _ _ hR2
  have fm3 := frozen_of_row w2 RB 3 _ _ hR2
  have fm4 := frozen_of_row w2 RB 4 _ _ hR2
  by_cases hx : x = 0
  case neg =>
    clear hT hb
    have HS := mod_set5 hR2 (.string ⟨#[]⟩) (.int .i64 0) (.slice none 0 0) (.slice none 0 0) (.slice none 0 0)
    have HSH := Lib.hid HS
    clear HS hR2
    go_wp2_with fail
    rw [HQ.out.2.1 hx]
    exact bodyPost_ret (res_mod rfl _ _ RB [.string ⟨#[]⟩, .int .i64 0, .slice none 0 0, .slice none 0 0, .slice none 0 0] rfl HSH.out.1 _ _ rfl rfl rfl) rfl (modTold_none (below_of H2.out.1 HSH.out.2 (by simp [hRB])))
  subst hx
  have hTL := HQ.out.1 rfl
  have hRd := rdr_new hT hTL
  have P2 := rdr_module w2 _ w2.heap.size n _ L ps0 hRd ⟨by decide, fun _ => by decide⟩
  have hW3 : Below w2.heap.size w2 (w2.alloc (.cells #[.slice ao n c, .int .i64 0, .int .i64 0, .int .i64 0, .int .i64 0] 67)) := (Below.refl _ w2).alloc (Nat.le_refl _) _
  obtain ⟨w3, hw3⟩ : ∃ w3, w2.alloc (.cells #[.slice ao n c, .int .i64 0, .int .i64 0, .int .i64 0, .int .i64 0] 67) = w3 := ⟨_, rfl⟩
  rw [hw3] at P2 hW3 hRd
  have HW3 := Lib.hid hW3
  have hb3 := hRd.blt
  have hlt2 : RB < w2.heap.size := by rw [← hRB]; exact hlt
  clear hT hb hTL hRd hW3 m0 m1 m2 m3 m4 fm0 fm1 fm2 fm3 fm4
  go_wp2_with fail
  clear hw3
  refine P2.mono ?_
  rintro e2 w4 ⟨cs, rfl, hv, hr4, hc4⟩
  obtain ⟨r, hr⟩ : ∃ r, moduleT L ps0 = r := ⟨_, rfl⟩
  rw [hr] at hv hr4
  have HQ2 : Hid ((r.2.e ≠ 0 → PP = (mdl0, r.2.e, r.2.pos)) ∧ (r.2.e = 0 → PP = (r.1, 0, 0))) := Lib.hid ⟨fun h => by rw [← hr] at h ⊢; exact HQ.out.2.2.1 (by simp) h, fun h => by rw [← hr] at h ⊢; exact HQ.out.2.2.2 (by simp) h⟩
  have hne : RB ≠ w2.heap.size := by omega
  have hR3 := (HW3.out.block RB hlt2).trans hR2
  have hR4 := (hc4.block RB (Array.getElem?_eq_some_iff.1 hR3).1 (by simp only [List.mem_singleton]; exact hne)).trans hR3
  have hB4 : Below w.heap.size w w4 := below_of (H2.out.1.trans (HW3.out.mono H2.out.1.size)) hc4 (by simp; omega)
  have c3 := hr4.r.c3
  have c4 := hr4.r.c4
  have hs3 := HW3.out.size
  have hs4 := hc4.size
  have HV := Lib.hid (And.intro hv (And.intro hR4 (And.intro hB4 (And.intro hs3 hs4))))
  obtain ⟨vI, nI, vV, nV, vP, nP, rfl, h1, h2, h3⟩ := hv
  obtain ⟨aI, cI, rfl⟩ := h1.shape
  obtain ⟨aV, cV, rfl⟩ := h2.shape
  obtain ⟨aP, cP, rfl⟩ := h3.shape
  clear h1 h2 h3 hr4 hR3 hB4 hs4 hr P2
  generalize hB : w2.heap.size = B at *
  obtain ⟨w5, hw5⟩ : ∃ w5, w4.alloc (.cells (mdlV r.1 (.slice aI nI cI) (.slice aV nV cV) (.slice aP nP cP)).toArray 27) = w5 := ⟨_, rfl⟩
  have hg5 : Grow w4 w5 := by rw [← hw5]; exact (Below.refl _ w4).alloc (Nat.le_refl _) _
  have hn5 : w5.heap[w4.heap.size]? = some (.cells (mdlV r.1 (.slice aI nI cI) (.slice aV nV cV) (.slice aP nP cP)).toArray 27) := by rw [← hw5]; exact heap_alloc_new _ _
  have hR5 := (hg5.block RB (Array.getElem?_eq_some_iff.1 hR4).1).trans hR4
  have e3 := hg5.cell c3
  have e4 := hg5.cell c4
  have f0 : w5.cell? ⟨w4.heap.size, 0, none⟩ = some (.string (tx r.1.name)) := cellsN hn5 0 _ rfl
  have f1 : w5.cell? ⟨w4.heap.size, 1, none⟩ = some (.int .i64 (r.1.pos : Int)) := cellsN hn5 1 _ rfl
  have f2 : w5.cell? ⟨w4.heap.size, 2, none⟩ = some (.slice aI nI cI) := cellsN hn5 2 _ rfl
  have f3 : w5.cell? ⟨w4.heap.size, 3, none⟩ = some (.slice aV nV cV) := cellsN hn5 3 _ rfl
  have f4 : w5.cell? ⟨w4.heap.size, 4, none⟩ = some (.slice aP nP cP) := cellsN hn5 4 _ rfl
  have m0 : w5.cell? ⟨RB, 0, none⟩ = some (.string ⟨#[]⟩) := cellsN hR5 0 _ rfl
  have m1 : w5.cell? ⟨RB, 1, none⟩ = some (.int .i64 0) := cellsN hR5 1 _ rfl
  have m2 : w5.cell? ⟨RB, 2, none⟩ = some (.slice none 0 0) := cellsN hR5 2 _ rfl
  have m3 : w5.cell? ⟨RB, 3, none⟩ = some (.slice none 0 0) := cellsN hR5 3 _ rfl
  have m4 : w5.cell? ⟨RB, 4, none⟩ = some (.slice none 0 0) := cellsN hR5 4 _ rfl
  have fm0 := frozen_of_row w5 RB 0 _ _ hR5
  have fm1 := frozen_of_row w5 RB 1 _ _ hR5
  have fm2 := frozen_of_row w5 RB 2 _ _ hR5
  have fm3 := frozen_of_row w5 RB 3 _ _ hR5
  have fm4 := frozen_of_row w5 RB 4 _ _ hR5
  have HG5 := Lib.hid (And.intro hg5 hR5)
  unfold mdlV at hw5
  simp only [mdlV]
  clear hR4 hn5 c3 c4 hg5 hR5 hR2
  obtain ⟨md, s2⟩ := r
  obtain ⟨i2, d2, x2, p2⟩ := s2
  simp only at e3 e4 f0 f1
  have HFIN : Hid (∀ (w7 : World), Chg [RB] w5 w7 → Below w.heap.size w w7) := Lib.hid fun w7 hc => below_of (HV.out.2.2.1.trans (HG5.out.1.mono HV.out.2.2.1.size)) hc (by simp [hRB])
  by_cases hx2 : x2 = 0
  case neg =>
    have HS := Lib.hid (mod_set5 HG5.out.2 (.string ⟨#[]⟩) (.int .i64 0) (.slice none 0 0) (.slice none 0 0) (.slice none 0 0))
    have hq : PP = (mdl0, x2, p2) := HQ2.out.1 hx2
    subst hq
    have hz : (x2 != 0) = true := by simpa using hx2
    go_wp2_with fail
    go_region
    all_goals go_wp2_with fail
    all_goals exact bodyPost_ret (res_mod rfl _ _ RB [.string ⟨#[]⟩, .int .i64 0, .slice none 0 0, .slice none 0 0, .slice none 0 0] rfl (by rw [heap_drew]; exact HS.out.1) _ _ rfl rfl rfl) rfl (modTold_none (HFIN.out _ HS.out.2.drew))
  subst hx2
  have hq : PP = (md, 0, 0) := HQ2.out.2 rfl
  subst hq
  have HS := Lib.hid (mod_set5 HG5.out.2 (.string (tx md.name)) (.int .i64 (md.pos : Int)) (.slice aI nI cI) (.slice aV nV cV) (.slice aP nP cP))
  go_wp2_with fail
  generalize hW7 : (((((w5.setCell ⟨RB, 0, none⟩ (.string (tx md.name))).setCell ⟨RB, 1, none⟩ (.int .i64 (md.pos : Int))).setCell ⟨RB, 2, none⟩ (.slice aI nI cI)).setCell ⟨RB, 3, none⟩ (.slice aV nV cV)).setCell ⟨RB, 4, none⟩ (.slice aP nP cP)) = w7 at *
  refine bodyPost_ret (res_mod rfl _ _ RB [.string (tx md.name), .int .i64 (md.pos : Int), .slice aI nI cI, .slice aV nV cV, .slice aP nP cP] rfl HS.out.1 _ _ rfl rfl rfl) rfl ⟨_, _, _, rfl, ?_, HFIN.out _ HS.out.2⟩
  have c1 : Chg [RB] w4 w7 := (Chg.of_below (F := [RB]) HG5.out.1).trans' HS.out.2 (fun x hx => .inl hx)
  have hs := HV.out.2.2.2.1
  have hs7 := c1.size
  refine ModV.chg HV.out.1 c1 (fun k hk => ?_) (fun k hk => ⟨?_, ?_⟩)
  · have := hk.1
    simp only [List.mem_singleton]
    omega
  · have := hk.1
    have h2 := H2.out.1.size
    omega
  · have := hk.2
    omega

end Go.Proofs.YtfcfbdemfbkgmaaGreatDoor
