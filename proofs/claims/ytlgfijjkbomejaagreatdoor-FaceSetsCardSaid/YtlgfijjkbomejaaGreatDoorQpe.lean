/- The code's parser: blocks of a call's own; param. Numbers and types by name. -/
import Derived.Test.YtlgfijjkbomejaaGreatDoorPbj
import Derived.Test.YtlgfijjkbomejaaGreatDoorQph
/- The reference's proc under way. Numbers and types by name. -/
namespace Go.Proofs.YtlgfijjkbomejaaGreatDoor
open Go.RowKit Go.Lib
set_option maxRecDepth 100000

def parV (p : Par) : List Value := [.string (tx p.name), .string (tx p.label), .int .i64 (p.pos : Int)]
def parsV (l : List Par) : List Value := l.flatMap parV
def usesV (l : List (List UInt8)) : List Value := l.map fun x => .string (tx x)
theorem parsV_snoc (l : List Par) (p : Par) : parsV (l ++ [p]) = parsV l ++ parV p := by simp [parsV]
theorem usesV_snoc (l : List (List UInt8)) (p : List UInt8) : usesV (l ++ [p]) = usesV l ++ [.string (tx p)] := by simp [usesV]
theorem parV_one (p : Par) : ∀ u ∈ parV p, u.oneCell' = true := by
  intro u hu
  simp only [parV, List.mem_cons, List.not_mem_nil, or_false] at hu
  rcases hu with rfl | rfl | rfl <;> rfl
theorem pars_parts : ∀ l : List Par, Parts 3 (fun p c => c = parV p) l (parsV l)
  | [] => rfl
  | o :: l => ⟨parV o, parsV l, by simp [parsV], rfl, rfl, pars_parts l⟩
theorem uses_parts : ∀ l : List (List UInt8), Parts 1 (fun p c => c = [Value.string (tx p)]) l (usesV l)
  | [] => rfl
  | o :: l => ⟨[.string (tx o)], usesV l, by simp [usesV], rfl, rfl, uses_parts l⟩
theorem elemPar : Elem 64 90 (.agg #[.string ⟨#[]⟩, .string ⟨#[]⟩, .int .i64 0]) 3 40 := ⟨Tryz.underlying64, by kernel_rfl, by decide, by decide⟩
theorem elemStr : Elem 36 9 (.string ⟨#[]⟩) 1 16 := ⟨Tryz.underlying36, by kernel_rfl, by decide, by decide⟩
/-- A procedure's cells. -/
def prcV (p : Prc) (vP vU vB : Value) : List Value := [.string (tx p.name), vP, .bool p.has, .string (tx p.result), .string (tx p.pc), vU, vB, .int .i64 (p.pos : Int)]
def prc0 : Prc := ⟨[], [], false, [], [], [], [], 0⟩
/-- An own row that a record under way holds. -/
structure OwnR (w wr : World) (T U : Nat) (e : TypeId) (size : Nat) (v : Value) (m : Nat) (cs : List Value) : Prop where
  o : wr.ownsRow w.heap.size e size v m cs
  nT : v.ownBlock ≠ some T
  nU : v.ownBlock ≠ some U
theorem OwnR.chg {w wr w1 : World} {T U : Nat} {e : TypeId} {size : Nat} {v : Value} {m : Nat} {cs : List Value} {F : List Nat} (h : OwnR w wr T U e size v m cs) (hc : Chg F wr w1) (hF : ∀ k, v.ownBlock = some k → k ∉ F) : OwnR w w1 T U e size v m cs := ⟨owns_chg h.o hc hF, h.nT, h.nU⟩
theorem OwnR.nil (w wr : World) (T U : Nat) (e : TypeId) (size : Nat) : OwnR w wr T U e size (.slice none 0 0) 0 [] := ⟨World.ownsRow_nil _ _ _ _, by simp [Value.ownBlock], by simp [Value.ownBlock]⟩
theorem OwnR.rows {α : Type} {w wr : World} {T U : Nat} {e : TypeId} {size : Nat} {v : Value} {m : Nat} {cs : List Value} {R : α → List Value → Prop} {l : List α} (h : OwnR w wr T U e size v m cs) (hs : 0 < size) (hp : Parts size R l cs) (hm : m = l.length) (h9 : m ≤ 100000) : RowsP wr (NewB w wr T U) size R v m l := by
  refine ⟨hm, h9, fun a n' c' e => ?_, cs, Cells.own h.o hs, hp⟩
  rcases h.o.2 with ⟨e2, _⟩ | ⟨g, cap, cur, e2, hb2, hg, _⟩
  · rw [e2] at e
    cases e
  · have hT := h.nT
    have hU := h.nU
    rw [e2] at e hT hU
    simp only [Value.slice.injEq, Option.some.injEq] at e
    obtain ⟨rfl, _⟩ := e
    exact ⟨hb2, (Array.getElem?_eq_some_iff.1 hg).1, fun hh => hT (by rw [← hh]; rfl), fun hh => hU (by rw [← hh]; rfl)⟩
/-- What follows an append whose slice is put back into the record: the record, its row, and what else was owned. -/
theorem RcAt.app {t : TypeId} {w0 w wr w7 : World} {b n : Nat} {vl : Value} {L : List Tk} {T U : Nat} {xs zs xs' : List Value} {s : PS} {e : TypeId} {size : Nat} {v : Value} {m m' c7 j : Nat} {ao7 : Option Addr} {cs cs' : List Value} {o : Obj} (H : RcAt t w0 w wr b n vl L T U xs zs s) (hv : OwnR w wr T U e size v m cs)
    (h7 : w7.ownsRow w.heap.size e size (.slice ao7 m' c7) m' cs') (hg : (wr.alloc o).grownBy w7 v.ownBlock) (ho : (Value.slice ao7 m' c7).ownBlock = v.ownBlock ∨ (Value.slice ao7 m' c7).ownBlock = some (wr.alloc o).heap.size) (hx : xs.toArray.setIfInBounds j (.slice ao7 m' c7) = xs'.toArray) :
    RcAt t w0 w w7 b n vl L T U xs zs s ∧ RcAt t w0 w (w7.setCell ⟨T, j, none⟩ (.slice ao7 m' c7)) b n vl L T U xs' zs s ∧ OwnR w (w7.setCell ⟨T, j, none⟩ (.slice ao7 m' c7)) T U e size (.slice ao7 m' c7) m' cs' ∧
    Chg (T :: rowF v) wr (w7.setCell ⟨T, j, none⟩ (.slice ao7 m' c7)) ∧ (∀ k, k < wr.heap.size → v.ownBlock ≠ some k → (Value.slice ao7 m' c7).ownBlock ≠ some k) := by
  have hbw := H.bw
  have hT := H.wT
  have hU := H.wU
  have c7' : Chg (rowF v) wr w7 := ((Chg.refl (rowF v) wr).alloc o).trans' (Chg.of_grown (F := rowF v) hg (fun k hk => rowF_mem.2 hk)) fun x hx => .inl hx
  have hvl : ∀ k, v.ownBlock = some k → w.heap.size ≤ k ∧ k < wr.heap.size := fun k hk => hv.o.lt k hk
  have hs7 : (wr.alloc o).heap.size = wr.heap.size + 1 := by simp
  have hnew : ∀ k, k < wr.heap.size → v.ownBlock ≠ some k → (Value.slice ao7 m' c7).ownBlock ≠ some k := fun k hk hne e => by
    rcases ho with ho | ho
    · exact hne (ho ▸ e)
    · rw [ho] at e
      cases e
      omega
  have hTl := (Array.getElem?_eq_some_iff.1 H.sb).1
  have hUl := (Array.getElem?_eq_some_iff.1 H.z).1
  have r7 : RcAt t w0 w w7 b n vl L T U xs zs s :=
    ⟨H.r.chg c7' (fun x hx => by have := (hvl x (rowF_mem.1 hx)).1; omega) (H.r.r.chg c7' (fun hx => by have := (hvl b (rowF_mem.1 hx)).1; omega)) H.r.lt H.r.deep, H.c.trans' c7' (fun x hx => .inr (hvl x (rowF_mem.1 hx)).1), (c7'.block T hTl (fun hx => hv.nT (rowF_mem.1 hx))).trans H.sb, (c7'.block U hUl (fun hx => hv.nU (rowF_mem.1 hx))).trans H.z, hbw, hT, hU, H.tu⟩
  have ct : Chg [T] w7 (w7.setCell ⟨T, j, none⟩ (.slice ao7 m' c7)) := (Chg.refl [T] w7).set (.inl (by simp)) j _
  have h7T := hnew T hTl hv.nT
  have h7U := hnew U hUl hv.nU
  exact ⟨r7, r7.field j _ xs' hx, ⟨owns_chg h7 ct (fun k hk hm => h7T (by simp only [List.mem_singleton] at hm; rw [← hm]; exact hk)), h7T, h7U⟩, (c7'.mono (fun x hx => List.mem_cons_of_mem _ hx)).trans' ct (fun x hx => by simp only [List.mem_singleton] at hx; subst hx; exact .inl (List.mem_cons_self ..)), hnew⟩

/-- What can be read of a procedure. -/
def ProcV (w : World) (P : Nat → Prop) (p : Prc) (cs : List Value) : Prop :=
  ∃ vP nP vU nU vB nB, cs = prcV p vP vU vB ∧ RowsP w P 3 (fun p c => c = parV p) vP nP p.params ∧ RowsP w P 1 (fun x c => c = [Value.string (tx x)]) vU nU p.uses ∧ StmsP w P vB nB p.body
theorem ProcV.chg {w w' : World} {P Q : Nat → Prop} {F : List Nat} (hc : Chg F w w') (hP : ∀ k, P k → k ∉ F) (hQ : ∀ k, P k → Q k) : ∀ (p : Prc) (cs : List Value), ProcV w P p cs → ProcV w' Q p cs :=
  fun _ _ ⟨vP, nP, vU, nU, vB, nB, e, h1, h2, h3⟩ => ⟨vP, nP, vU, nU, vB, nB, e, h1.chg hc hP hQ (fun _ _ h => h), h2.chg hc hP hQ (fun _ _ h => h), h3.chg hc hP hQ⟩
theorem ProcV.length {w : World} {P : Nat → Prop} {p : Prc} {cs : List Value} (h : ProcV w P p cs) : cs.length = 8 := by
  obtain ⟨_, _, _, _, _, _, rfl, _⟩ := h
  rfl
/-- What a procedure's reader leaves. -/
def PrTold (w0 w : World) (b n : Nat) (vl : Value) (L : List Tk) (r : Prc × PS) (e : Ending) (w' : World) : Prop :=
  ∃ cs : List Value, e = .returned (.agg cs.toArray) ∧ ProcV w' (fun k => w.heap.size ≤ k ∧ k < w'.heap.size) r.1 cs ∧ Rdr w0 w' b n vl L r.2 ∧ Chg [b] w w'
/-- A procedure under way. -/
structure PrAt (w0 w wr : World) (b n : Nat) (vl : Value) (L : List Tk) (T U : Nat) (p : Prc) (vP vU : Value) (mP mU : Nat) (s : PS) : Prop where
  rc : RcAt 66 w0 w wr b n vl L T U (prcV p vP vU (.slice none 0 0)) (prcV prc0 (.slice none 0 0) (.slice none 0 0) (.slice none 0 0)) s
  op : OwnR w wr T U 90 3 vP mP (parsV p.params)
  ou : OwnR w wr T U 9 1 vU mU (usesV p.uses)
  lP : mP = p.params.length
  lU : mU = p.uses.length
  pu : ∀ k, vP.ownBlock = some k → vU.ownBlock ≠ some k
theorem PrAt.keep {w0 w wr w1 : World} {b n : Nat} {vl : Value} {L : List Tk} {T U : Nat} {p : Prc} {vP vU : Value} {mP mU : Nat} {s s1 : PS} (H : PrAt w0 w wr b n vl L T U p vP vU mP mU s) (hr : Rdr w0 w1 b n vl L s1) (hc : Chg [b] wr w1) : PrAt w0 w w1 b n vl L T U p vP vU mP mU s1 := by
  have hb := H.rc.bw
  exact ⟨H.rc.keep hr hc, H.op.chg hc (fun k hk hm => by have := (H.op.o.lt k hk).1; simp only [List.mem_singleton] at hm; omega), H.ou.chg hc (fun k hk hm => by have := (H.ou.o.lt k hk).1; simp only [List.mem_singleton] at hm; omega), H.lP, H.lU, H.pu⟩
theorem PrAt.field {w0 w wr : World} {b n : Nat} {vl : Value} {L : List Tk} {T U : Nat} {p : Prc} {vP vU : Value} {mP mU : Nat} {s : PS} (H : PrAt w0 w wr b n vl L T U p vP vU mP mU s) (j : Nat) (x : Value) (p' : Prc) (e : (prcV p vP vU (.slice none 0 0)).toArray.setIfInBounds j x = (prcV p' vP vU (.slice none 0 0)).toArray) (h1 : p'.params = p.params) (h2 : p'.uses = p.uses) : PrAt w0 w (wr.setCell ⟨T, j, none⟩ x) b n vl L T U p' vP vU mP mU s := by
  have ct : Chg [T] wr (wr.setCell ⟨T, j, none⟩ x) := (Chg.refl [T] wr).set (.inl (by simp)) j x
  exact ⟨H.rc.field j x _ e, by rw [h1]; exact H.op.chg ct (fun k hk hm => H.op.nT (by simp only [List.mem_singleton] at hm; rw [← hm]; exact hk)), by rw [h2]; exact H.ou.chg ct (fun k hk hm => H.ou.nT (by simp only [List.mem_singleton] at hm; rw [← hm]; exact hk)), by rw [h1]; exact H.lP, by rw [h2]; exact H.lU, H.pu⟩
theorem PrAt.addP {w0 w wr w7 : World} {b n : Nat} {vl : Value} {L : List Tk} {T U : Nat} {p : Prc} {vP vU : Value} {mP mU c7 : Nat} {ao7 : Option Addr} {s : PS} {o : Obj} (a : Par) (H : PrAt w0 w wr b n vl L T U p vP vU mP mU s) (h7 : w7.ownsRow w.heap.size 90 3 (.slice ao7 (mP + 1) c7) (mP + 1) (parsV p.params ++ parV a)) (hg : (wr.alloc o).grownBy w7 vP.ownBlock) (ho : (Value.slice ao7 (mP + 1) c7).ownBlock = vP.ownBlock ∨ (Value.slice ao7 (mP + 1) c7).ownBlock = some (wr.alloc o).heap.size) :
    RcAt 66 w0 w w7 b n vl L T U (prcV p vP vU (.slice none 0 0)) (prcV prc0 (.slice none 0 0) (.slice none 0 0) (.slice none 0 0)) s ∧ PrAt w0 w (w7.setCell ⟨T, 1, none⟩ (.slice ao7 (mP + 1) c7)) b n vl L T U { p with params := p.params ++ [a] } (.slice ao7 (mP + 1) c7) vU (mP + 1) mU s := by
  obtain ⟨h1, h2, h3, h4, h5⟩ := H.rc.app H.op h7 hg ho (j := 1) (xs' := prcV { p with params := p.params ++ [a] } (.slice ao7 (mP + 1) c7) vU (.slice none 0 0)) rfl
  exact ⟨h1, h2, by rw [← parsV_snoc] at h3; exact h3, H.ou.chg h4 (fun k hk hm => by
    rcases List.mem_cons.1 hm with rfl | hm
    · exact H.ou.nT hk
    · exact H.pu k (rowF_mem.1 hm) hk), by simp [← H.lP], H.lU, fun k hk hu => h5 k (H.ou.o.lt k hu).2 (fun hp => H.pu k hp hu) hk⟩
theorem PrAt.addU {w0 w wr w7 : World} {b n : Nat} {vl : Value} {L : List Tk} {T U : Nat} {p : Prc} {vP vU : Value} {mP mU c7 : Nat} {ao7 : Option Addr} {s : PS} {o : Obj} (a : List UInt8) (H : PrAt w0 w wr b n vl L T U p vP vU mP mU s) (h7 : w7.ownsRow w.heap.size 9 1 (.slice ao7 (mU + 1) c7) (mU + 1) (usesV p.uses ++ [.string (tx a)])) (hg : (wr.alloc o).grownBy w7 vU.ownBlock) (ho : (Value.slice ao7 (mU + 1) c7).ownBlock = vU.ownBlock ∨ (Value.slice ao7 (mU + 1) c7).ownBlock = some (wr.alloc o).heap.size) :
    RcAt 66 w0 w w7 b n vl L T U (prcV p vP vU (.slice none 0 0)) (prcV prc0 (.slice none 0 0) (.slice none 0 0) (.slice none 0 0)) s ∧ PrAt w0 w (w7.setCell ⟨T, 5, none⟩ (.slice ao7 (mU + 1) c7)) b n vl L T U { p with uses := p.uses ++ [a] } vP (.slice ao7 (mU + 1) c7) mP (mU + 1) s := by
  obtain ⟨h1, h2, h3, h4, h5⟩ := H.rc.app H.ou h7 hg ho (j := 5) (xs' := prcV { p with uses := p.uses ++ [a] } vP (.slice ao7 (mU + 1) c7) (.slice none 0 0)) rfl
  exact ⟨h1, h2, H.op.chg h4 (fun k hk hm => by
    rcases List.mem_cons.1 hm with rfl | hm
    · exact H.op.nT hk
    · exact H.pu k hk (rowF_mem.1 hm)), by rw [← usesV_snoc] at h3; exact h3, H.lP, by simp [← H.lU], fun k hk hu => h5 k (H.op.o.lt k hk).2 (fun hp => H.pu k hk hp) hu⟩
theorem prc_info (p : Prc) (vP vU vB : Value) : (Tryz.prog.info? 66).map (·.size) = some (prcV p vP vU vB).toArray.size := by
  show _ = some 8
  kernel_rfl
/-- The body is put in: what is told. -/
theorem PrAt.told {w0 w wr w1 : World} {b n : Nat} {vl : Value} {L : List Tk} {T U : Nat} {p : Prc} {vP vU vB : Value} {mP mU nB : Nat} {s s1 : PS} {body : List Stm} (H : PrAt w0 w wr b n vl L T U p vP vU mP mU s) (hP : mP ≤ 100000) (hU : mU ≤ 100000) (hr : Rdr w0 w1 b n vl L s1) (hc : Chg [b] wr w1) (hs : StmsP w1 (fun k => wr.heap.size ≤ k ∧ k < w1.heap.size) vB nB body) :
    RcAt 66 w0 w (w1.setCell ⟨T, 6, none⟩ vB) b n vl L T U (prcV { p with body := body } vP vU vB) (prcV prc0 (.slice none 0 0) (.slice none 0 0) (.slice none 0 0)) s1 ∧
    PrTold w0 w b n vl L ({ p with body := body }, s1) (.returned (.agg (prcV { p with body := body } vP vU vB).toArray)) ((w1.setCell ⟨T, 6, none⟩ vB).setRow U (prcV { p with body := body } vP vU vB).toArray) := by
  have K := H.keep hr hc
  have hTl := (Array.getElem?_eq_some_iff.1 H.rc.sb).1
  have hUl := (Array.getElem?_eq_some_iff.1 H.rc.z).1
  have ct : Chg [T] w1 (w1.setCell ⟨T, 6, none⟩ vB) := (Chg.refl [T] w1).set (.inl (by simp)) 6 vB
  have r1 : RcAt 66 w0 w (w1.setCell ⟨T, 6, none⟩ vB) b n vl L T U (prcV { p with body := body } vP vU vB) (prcV prc0 (.slice none 0 0) (.slice none 0 0) (.slice none 0 0)) s1 := K.rc.field 6 vB _ rfl
  have hc2 : Chg [T, U] w1 ((w1.setCell ⟨T, 6, none⟩ vB).setRow U (prcV { p with body := body } vP vU vB).toArray) :=
    (ct.mono (fun x hx => by simp only [List.mem_singleton] at hx; simp [hx])).trans' (show Chg [U] _ _ from ⟨rfl, rfl, rfl, by simp, fun k _ hk => setRow_other _ U k _ (by simpa using hk)⟩) (fun x hx => by simp only [List.mem_singleton] at hx; simp [hx])
  have hN : ∀ k, NewB w w1 T U k → k ∉ [T, U] := fun k hk hm => by
    simp only [List.mem_cons, List.not_mem_nil, or_false] at hm
    rcases hm with rfl | rfl
    · exact hk.2.2.1 rfl
    · exact hk.2.2.2 rfl
  have hQ : ∀ k, NewB w w1 T U k → w.heap.size ≤ k ∧ k < ((w1.setCell ⟨T, 6, none⟩ vB).setRow U (prcV { p with body := body } vP vU vB).toArray).heap.size := fun k hk => ⟨hk.1, Nat.lt_of_lt_of_le hk.2.1 hc2.size⟩
  have hs2 : StmsP w1 (NewB w w1 T U) vB nB body := hs.chg (Chg.refl [] w1) (fun _ _ h => by cases h) fun k hk => ⟨Nat.le_trans H.rc.c.size hk.1, hk.2, by omega, by omega⟩
  exact ⟨r1, _, rfl, ⟨vP, mP, vU, mU, vB, nB, rfl, (K.op.rows (by decide) (pars_parts _) K.lP hP).chg hc2 hN hQ (fun _ _ h => h), (K.ou.rows (by decide) (uses_parts _) K.lU hU).chg hc2 hN hQ (fun _ _ h => h), hs2.chg hc2 hN hQ⟩, r1.last⟩

end Go.Proofs.YtlgfijjkbomejaaGreatDoor

namespace Go.Proofs.YtlgfijjkbomejaaGreatDoor
open Go.RowKit Go.Lib
set_option maxRecDepth 100000

/-- The state, and what was written since w. -/
structure StC (w0 w wr : World) (b : Nat) (L : List Tk) (s : PS) : Prop where
  r : Psr w0 wr b L s
  c : Chg [b] w wr
/-- A block of its own. -/
structure OwB (w wr : World) (b T : Nat) (cs : Array Value) (t : TypeId) : Prop where
  z : wr.heap[T]? = some (.cells cs t)
  nb : b < T
  new : w.heap.size ≤ T
theorem StC.of {w0 w : World} {b : Nat} {L : List Tk} {s : PS} (h : Psr w0 w b L s) : StC w0 w w b L s := ⟨h, Chg.refl _ _⟩
theorem StC.keep {w0 w wr w1 : World} {b : Nat} {L : List Tk} {s s1 : PS} (h : StC w0 w wr b L s) (hr : Psr w0 w1 b L s1) (hc : Chg [b] wr w1) : StC w0 w w1 b L s1 := ⟨hr, h.c.trans hc⟩
theorem StC.alloc {w0 w wr : World} {b : Nat} {L : List Tk} {s : PS} (h : StC w0 w wr b L s) (o : Obj) : StC w0 w (wr.alloc o) b L s := ⟨h.r.chg ((Chg.refl [] wr).alloc o) (fun x hx => by cases hx), h.c.alloc o⟩
theorem StC.drew {w0 w wr : World} {b : Nat} {L : List Tk} {s : PS} (h : StC w0 w wr b L s) : StC w0 w wr.drew b L s := ⟨h.r.chg ((Chg.refl [] wr).drew) (fun x hx => by cases hx), h.c.drew⟩
theorem StC.set {w0 w wr : World} {b : Nat} {L : List Tk} {s : PS} (h : StC w0 w wr b L s) {T : Nat} (hb : b < T) (hn : w.heap.size ≤ T) (j : Nat) (v : Value) : StC w0 w (wr.setCell ⟨T, j, none⟩ v) b L s :=
  ⟨h.r.chg ((Chg.refl [T] wr).set (.inl (List.mem_singleton.2 rfl)) j v) (fun x hx => by rw [List.mem_singleton] at hx; rw [hx]; exact hb), h.c.set (.inr hn) j v⟩
theorem StC.setRow {w0 w wr : World} {b : Nat} {L : List Tk} {s : PS} (h : StC w0 w wr b L s) {T : Nat} (hb : b < T) (hn : w.heap.size ≤ T) (cs : Array Value) : StC w0 w (wr.setRow T cs) b L s := ⟨h.r.setRow hb cs, h.c.setRow (.inr hn) cs⟩
theorem OwB.lt {w wr : World} {b T : Nat} {cs : Array Value} {t : TypeId} (h : OwB w wr b T cs t) : T < wr.heap.size := (Array.getElem?_eq_some_iff.1 h.z).1
theorem OwB.keep {w wr w1 : World} {b T : Nat} {cs : Array Value} {t : TypeId} (h : OwB w wr b T cs t) (hc : Chg [b] wr w1) : OwB w w1 b T cs t :=
  ⟨(hc.block T h.lt (by have := h.nb; rw [List.mem_singleton]; omega)).trans h.z, h.nb, h.new⟩
theorem OwB.alloc {w wr : World} {b T : Nat} {cs : Array Value} {t : TypeId} (h : OwB w wr b T cs t) (o : Obj) : OwB w (wr.alloc o) b T cs t := ⟨(heap_alloc_old _ _ h.lt).trans h.z, h.nb, h.new⟩
theorem OwB.drew {w wr : World} {b T : Nat} {cs : Array Value} {t : TypeId} (h : OwB w wr b T cs t) : OwB w wr.drew b T cs t := ⟨h.z, h.nb, h.new⟩
theorem OwB.mk' {w0 w wr : World} {b : Nat} {L : List Tk} {s : PS} (h : StC w0 w wr b L s) (cs : Array Value) (t : TypeId) : OwB w (wr.alloc (.cells cs t)) b wr.heap.size cs t := ⟨heap_alloc_new _ _, h.r.blt, h.c.size⟩
theorem OwB.set {w wr : World} {b T : Nat} {cs : Array Value} {t : TypeId} (h : OwB w wr b T cs t) (j : Nat) (v : Value) : OwB w (wr.setCell ⟨T, j, none⟩ v) b T (cs.setIfInBounds j v) t := ⟨heap_setCell_same wr T j cs t v h.z, h.nb, h.new⟩
theorem OwB.other {w wr : World} {b T U : Nat} {cs : Array Value} {t : TypeId} (h : OwB w wr b T cs t) (hn : T ≠ U) (j : Nat) (v : Value) : OwB w (wr.setCell ⟨U, j, none⟩ v) b T cs t := ⟨(heap_setCell_other wr ⟨U, j, none⟩ T v hn).trans h.z, h.nb, h.new⟩
theorem OwB.setRow {w wr : World} {b T : Nat} {cs : Array Value} {t : TypeId} (h : OwB w wr b T cs t) (cs' : Array Value) : OwB w (wr.setRow T cs') b T cs' t := ⟨setRow_heap _ _ _ _ _ _ h.z, h.nb, h.new⟩
theorem OwB.cell {w wr : World} {b T : Nat} {cs : Array Value} {t : TypeId} (h : OwB w wr b T cs t) (j : Nat) (v : Value) (hj : cs[j]? = some v) : wr.cell? ⟨T, j, none⟩ = some v := cellsN h.z j v hj
theorem OwB.free {w wr : World} {b T : Nat} {cs : Array Value} {t : TypeId} (h : OwB w wr b T cs t) (j : Nat) : wr.frozen? ⟨T, j, none⟩ = false := frozen_of_row _ _ _ _ _ h.z

end Go.Proofs.YtlgfijjkbomejaaGreatDoor
