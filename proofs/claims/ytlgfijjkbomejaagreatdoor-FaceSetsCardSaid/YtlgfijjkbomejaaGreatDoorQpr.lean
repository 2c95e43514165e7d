/- The code's module. Made by wip/tools/gencmod.py. Numbers and types by name. -/
import Derived.Test.YtlgfijjkbomejaaGreatDoorMvg
import Derived.Test.YtlgfijjkbomejaaGreatDoorQpo
import Derived.Test.YtlgfijjkbomejaaGreatDoorPbn
/- The code's module under way: records with rows of their own. Made by a program out of the reference's. Numbers and types by name. -/
namespace Go.Proofs.YtlgfijjkbomejaaGreatDoor
open Go.RowKit Go.Lib
set_option maxRecDepth 100000

/-- A record under way: the reader, its own block, the block of the result. -/
structure CcAt (t : TypeId) (w0 w wr : World) (b : Nat) (L : List Tk) (T U : Nat) (xs zs : List Value) (s : PS) : Prop where
  r : Psr w0 wr b L s
  c : Chg [b] w wr
  sb : wr.heap[T]? = some (.cells xs.toArray t (0, 0))
  z : wr.heap[U]? = some (.cells zs.toArray t (0, 0))
  bw : b < w.heap.size
  wT : w.heap.size ≤ T
  wU : w.heap.size ≤ U
  tu : T ≠ U
theorem CcAt.keep {t : TypeId} {w0 w wr w1 : World} {b : Nat} {L : List Tk} {T U : Nat} {xs zs : List Value} {s s1 : PS} (H : CcAt t w0 w wr b L T U xs zs s) (hr : Psr w0 w1 b L s1) (hc : Chg [b] wr w1) : CcAt t w0 w w1 b L T U xs zs s1 := by
  have hb := H.bw
  have hT := H.wT
  have hU := H.wU
  exact ⟨hr, H.c.trans hc, (hc.block T (Array.getElem?_eq_some_iff.1 H.sb).1 (by simp only [List.mem_singleton]; omega)).trans H.sb, (hc.block U (Array.getElem?_eq_some_iff.1 H.z).1 (by simp only [List.mem_singleton]; omega)).trans H.z, hb, hT, hU, H.tu⟩
theorem CcAt.field {t : TypeId} {w0 w wr : World} {b : Nat} {L : List Tk} {T U : Nat} {xs zs : List Value} {s : PS} (H : CcAt t w0 w wr b L T U xs zs s) (j : Nat) (x : Value) (xs' : List Value) (e : xs.toArray.setIfInBounds j x = xs'.toArray) : CcAt t w0 w (wr.setCell ⟨T, j, none⟩ x) b L T U xs' zs s := by
  have hb := H.bw
  have hT := H.wT
  have hU := H.wU
  have ct : Chg [T] wr (wr.setCell ⟨T, j, none⟩ x) := (Chg.refl [T] wr).set (.inl (by simp)) j x
  exact ⟨H.r.chg ct (fun y hy => by simp only [List.mem_singleton] at hy; omega), H.c.trans' ct (fun y hy => by simp only [List.mem_singleton] at hy; subst hy; exact .inr hT), by rw [heap_set H.sb, e], (ct.block U (Array.getElem?_eq_some_iff.1 H.z).1 (by simp only [List.mem_singleton]; exact fun h => H.tu h.symm)).trans H.z, hb, hT, hU, H.tu⟩
theorem CcAt.cell {t : TypeId} {w0 w wr : World} {b : Nat} {L : List Tk} {T U : Nat} {xs zs : List Value} {s : PS} (H : CcAt t w0 w wr b L T U xs zs s) (j : Nat) (v : Value) (hj : xs[j]? = some v) : wr.cell? ⟨T, j, none⟩ = some v :=
  cellsN H.sb j v (by rw [List.getElem?_toArray]; exact hj)
theorem CcAt.free {t : TypeId} {w0 w wr : World} {b : Nat} {L : List Tk} {T U : Nat} {xs zs : List Value} {s : PS} (H : CcAt t w0 w wr b L T U xs zs s) (j : Nat) : wr.frozen? ⟨T, j, none⟩ = false := by
  simp only [World.frozen?]
  rw [H.sb]
  simp
theorem CcAt.last {t : TypeId} {w0 w wr : World} {b : Nat} {L : List Tk} {T U : Nat} {xs zs : List Value} {s : PS} (H : CcAt t w0 w wr b L T U xs zs s) : Psr w0 (wr.setRow U xs.toArray) b L s ∧ Chg [b] w (wr.setRow U xs.toArray) := by
  have hb := H.bw
  have hU := H.wU
  have hc : Chg [U] wr (wr.setRow U xs.toArray) := ⟨rfl, rfl, rfl, by simp, fun k _ hk => setRow_other wr U k _ (by simpa using hk)⟩
  exact ⟨H.r.chg hc (fun x hx => by simp only [List.mem_singleton] at hx; omega), H.c.trans' hc (fun x hx => by simp only [List.mem_singleton] at hx; subst hx; exact .inr hU)⟩

/-- What follows an append whose slice is put back into the record: the record, its row, and what else was owned. -/
theorem CcAt.app {t : TypeId} {w0 w wr w7 : World} {b : Nat} {L : List Tk} {T U : Nat} {xs zs xs' : List Value} {s : PS} {e : TypeId} {size : Nat} {v : Value} {m m' c7 j : Nat} {ao7 : Option Addr} {cs cs' : List Value} {o : Obj} (H : CcAt t w0 w wr b L T U xs zs s) (hv : OwnR w wr T U e size v m cs)
    (h7 : w7.ownsRow w.heap.size e size (.slice ao7 m' c7) m' cs') (hg : (wr.alloc o).grownBy w7 v.ownBlock) (ho : (Value.slice ao7 m' c7).ownBlock = v.ownBlock ∨ (Value.slice ao7 m' c7).ownBlock = some (wr.alloc o).heap.size) (hx : xs.toArray.setIfInBounds j (.slice ao7 m' c7) = xs'.toArray) :
    CcAt t w0 w w7 b L T U xs zs s ∧ CcAt t w0 w (w7.setCell ⟨T, j, none⟩ (.slice ao7 m' c7)) b L T U xs' zs s ∧ OwnR w (w7.setCell ⟨T, j, none⟩ (.slice ao7 m' c7)) T U e size (.slice ao7 m' c7) m' cs' ∧
    Chg (T :: rowF v) wr (w7.setCell ⟨T, j, none⟩ (.slice ao7 m' c7)) ∧ (∀ k, k < wr.heap.size → v.ownBlock ≠ some k → (Value.slice ao7 m' c7).ownBlock ≠ some k) := by
  have hbw := H.bw
  have hT := H.wT
  have hU := H.wU
  have c7' : Chg (rowF v) wr w7 := ((Chg.refl (rowF v) wr).alloc o).trans' (Chg.of_grown (F := rowF v) hg (fun k hk => rowF_mem.2 hk)) fun x hx => .inl hx
  have hvl : ∀ k, v.ownBlock = some k → w.heap.size ≤ k ∧ k < wr.heap.size := fun k hk => hv.o.lt k hk
  have hs7 : (wr.alloc o).heap.size = wr.heap.size + 1 := by simp
  have hnew : ∀ k, k < wr.heap.size → v.ownBlock ≠ some k → (Value.slice ao7 m' c7).ownBlock ≠ some k := fun k hk hne e => by
    rcases ho with ho | ho
    · exact hne (ho ▸ e)
    · rw [ho] at e
      cases e
      omega
  have hTl := (Array.getElem?_eq_some_iff.1 H.sb).1
  have hUl := (Array.getElem?_eq_some_iff.1 H.z).1
  have r7 : CcAt t w0 w w7 b L T U xs zs s :=
    ⟨H.r.chg c7' (fun x hx => by have := (hvl x (rowF_mem.1 hx)).1; omega), H.c.trans' c7' (fun x hx => .inr (hvl x (rowF_mem.1 hx)).1), (c7'.block T hTl (fun hx => hv.nT (rowF_mem.1 hx))).trans H.sb, (c7'.block U hUl (fun hx => hv.nU (rowF_mem.1 hx))).trans H.z, hbw, hT, hU, H.tu⟩
  have ct : Chg [T] w7 (w7.setCell ⟨T, j, none⟩ (.slice ao7 m' c7)) := (Chg.refl [T] w7).set (.inl (by simp)) j _
  have h7T := hnew T hTl hv.nT
  have h7U := hnew U hUl hv.nU
  exact ⟨r7, r7.field j _ xs' hx, ⟨owns_chg h7 ct (fun k hk hm => h7T (by simp only [List.mem_singleton] at hm; rw [← hm]; exact hk)), h7T, h7U⟩, (c7'.mono (fun x hx => List.mem_cons_of_mem _ hx)).trans' ct (fun x hx => by simp only [List.mem_singleton] at hx; subst hx; exact .inl (List.mem_cons_self ..)), hnew⟩

/-- A module under way. -/
structure CdAt (w0 w wr : World) (b : Nat) (L : List Tk) (T U : Nat) (m : Mdl) (vI vV vP : Value) (mI mV mP : Nat) (s : PS) : Prop where
  rc : CcAt 26 w0 w wr b L T U (mdlV m vI vV vP) (mdlV mdl0 (.slice none 0 0) (.slice none 0 0) (.slice none 0 0)) s
  oi : OwnR w wr T U 122 2 vI mI (impsV m.imports)
  ov : OwnR w wr T U 76 4 vV mV (varsV m.vars)
  op : ∃ cs, OwnR w wr T U 66 8 vP mP cs ∧ Parts 8 (ProcV wr (NewM w wr T U vI vV vP)) m.procs cs
  lI : mI = m.imports.length
  lV : mV = m.vars.length
  lP : mP = m.procs.length
  iv : ∀ k, vI.ownBlock = some k → vV.ownBlock ≠ some k
  ip : ∀ k, vI.ownBlock = some k → vP.ownBlock ≠ some k
  vp : ∀ k, vV.ownBlock = some k → vP.ownBlock ≠ some k
theorem CdAt.keep {w0 w wr : World} {b : Nat} {L : List Tk} {T U : Nat} {m : Mdl} {vI vV vP : Value} {mI mV mP : Nat} {s : PS} {w1 : World} {s1 : PS} (H : CdAt w0 w wr b L T U m vI vV vP mI mV mP s) (hr : Psr w0 w1 b L s1) (hc : Chg [b] wr w1) : CdAt w0 w w1 b L T U m vI vV vP mI mV mP s1 := by
  have hb := H.rc.bw
  obtain ⟨cs, h1, h2⟩ := H.op
  exact ⟨H.rc.keep hr hc, H.oi.chg hc (fun k hk hm => by have := (H.oi.o.lt k hk).1; simp only [List.mem_singleton] at hm; omega), H.ov.chg hc (fun k hk hm => by have := (H.ov.o.lt k hk).1; simp only [List.mem_singleton] at hm; omega),
    ⟨cs, h1.chg hc (fun k hk hm => by have := (h1.o.lt k hk).1; simp only [List.mem_singleton] at hm; omega), h2.imp (ProcV.chg hc (fun k hk hm => by have := hk.1.1; simp only [List.mem_singleton] at hm; omega) (fun k hk => ⟨hk.1.mono hc.size, hk.2⟩))⟩, H.lI, H.lV, H.lP, H.iv, H.ip, H.vp⟩
theorem CdAt.addI {w0 w wr : World} {b : Nat} {L : List Tk} {T U : Nat} {m : Mdl} {vI vV vP : Value} {mI mV mP : Nat} {s : PS} {w7 : World} {c7 : Nat} {ao7 : Option Addr} {o : Obj} (a : Imp) (H : CdAt w0 w wr b L T U m vI vV vP mI mV mP s) (h7 : w7.ownsRow w.heap.size 122 2 (.slice ao7 (mI + 1) c7) (mI + 1) (impsV m.imports ++ impV a)) (hg : (wr.alloc o).grownBy w7 vI.ownBlock) (ho : (Value.slice ao7 (mI + 1) c7).ownBlock = vI.ownBlock ∨ (Value.slice ao7 (mI + 1) c7).ownBlock = some (wr.alloc o).heap.size) :
    CcAt 26 w0 w w7 b L T U (mdlV m vI vV vP) (mdlV mdl0 (.slice none 0 0) (.slice none 0 0) (.slice none 0 0)) s ∧ CdAt w0 w (w7.setCell ⟨T, 2, none⟩ (.slice ao7 (mI + 1) c7)) b L T U { m with imports := m.imports ++ [a] } (.slice ao7 (mI + 1) c7) vV vP (mI + 1) mV mP s := by
  obtain ⟨h1, h2, h3, h4, h5⟩ := H.rc.app H.oi h7 hg ho (j := 2) (xs' := mdlV { m with imports := m.imports ++ [a] } (.slice ao7 (mI + 1) c7) vV vP) rfl
  obtain ⟨cs, g1, g2⟩ := H.op
  have hr3 : OwnR w (w7.setCell ⟨T, 2, none⟩ (.slice ao7 (mI + 1) c7)) T U 122 2 (.slice ao7 (mI + 1) c7) (mI + 1) (impsV (m.imports ++ [a])) := by rw [← impsV_snoc] at h3; exact h3
  have hoth := H.ov.chg h4 (fun k hk hm => by
    rcases List.mem_cons.1 hm with rfl | hm
    · exact H.ov.nT hk
    · exact H.iv k (rowF_mem.1 hm) hk)
  have hp1 := g1.chg h4 (fun k hk hm => by
    rcases List.mem_cons.1 hm with rfl | hm
    · exact g1.nT hk
    · exact H.ip k (rowF_mem.1 hm) hk)
  have hp2 := g2.imp (ProcV.chg h4 (Q := NewM w (w7.setCell ⟨T, 2, none⟩ (.slice ao7 (mI + 1) c7)) T U (.slice ao7 (mI + 1) c7) vV vP) (fun k hk hm => by
    rcases List.mem_cons.1 hm with rfl | hm
    · exact hk.1.2.2.1 rfl
    · exact hk.2.1 (rowF_mem.1 hm)) (fun k hk => ⟨hk.1.mono h4.size, h5 k hk.1.2.1 hk.2.1, hk.2.2⟩))
  exact ⟨h1, h2, hr3, hoth, ⟨cs, hp1, hp2⟩, by simp [← H.lI], H.lV, H.lP, fun k hk hv => h5 k (H.ov.o.lt k hv).2 (fun hp => H.iv k hp hv) hk, fun k hk hv => h5 k (g1.o.lt k hv).2 (fun hp => H.ip k hp hv) hk, H.vp⟩
theorem CdAt.addV {w0 w wr : World} {b : Nat} {L : List Tk} {T U : Nat} {m : Mdl} {vI vV vP : Value} {mI mV mP : Nat} {s : PS} {w7 : World} {c7 : Nat} {ao7 : Option Addr} {o : Obj} (a : Vrb) (H : CdAt w0 w wr b L T U m vI vV vP mI mV mP s) (h7 : w7.ownsRow w.heap.size 76 4 (.slice ao7 (mV + 1) c7) (mV + 1) (varsV m.vars ++ varV a)) (hg : (wr.alloc o).grownBy w7 vV.ownBlock) (ho : (Value.slice ao7 (mV + 1) c7).ownBlock = vV.ownBlock ∨ (Value.slice ao7 (mV + 1) c7).ownBlock = some (wr.alloc o).heap.size) :
    CcAt 26 w0 w w7 b L T U (mdlV m vI vV vP) (mdlV mdl0 (.slice none 0 0) (.slice none 0 0) (.slice none 0 0)) s ∧ CdAt w0 w (w7.setCell ⟨T, 3, none⟩ (.slice ao7 (mV + 1) c7)) b L T U { m with vars := m.vars ++ [a] } vI (.slice ao7 (mV + 1) c7) vP mI (mV + 1) mP s := by
  obtain ⟨h1, h2, h3, h4, h5⟩ := H.rc.app H.ov h7 hg ho (j := 3) (xs' := mdlV { m with vars := m.vars ++ [a] } vI (.slice ao7 (mV + 1) c7) vP) rfl
  obtain ⟨cs, g1, g2⟩ := H.op
  have hr3 : OwnR w (w7.setCell ⟨T, 3, none⟩ (.slice ao7 (mV + 1) c7)) T U 76 4 (.slice ao7 (mV + 1) c7) (mV + 1) (varsV (m.vars ++ [a])) := by rw [← varsV_snoc] at h3; exact h3
  have hoth := H.oi.chg h4 (fun k hk hm => by
    rcases List.mem_cons.1 hm with rfl | hm
    · exact H.oi.nT hk
    · exact H.iv k hk (rowF_mem.1 hm))
  have hp1 := g1.chg h4 (fun k hk hm => by
    rcases List.mem_cons.1 hm with rfl | hm
    · exact g1.nT hk
    · exact H.vp k (rowF_mem.1 hm) hk)
  have hp2 := g2.imp (ProcV.chg h4 (Q := NewM w (w7.setCell ⟨T, 3, none⟩ (.slice ao7 (mV + 1) c7)) T U vI (.slice ao7 (mV + 1) c7) vP) (fun k hk hm => by
    rcases List.mem_cons.1 hm with rfl | hm
    · exact hk.1.2.2.1 rfl
    · exact hk.2.2.1 (rowF_mem.1 hm)) (fun k hk => ⟨hk.1.mono h4.size, hk.2.1, h5 k hk.1.2.1 hk.2.2.1, hk.2.2.2⟩))
  exact ⟨h1, h2, hoth, hr3, ⟨cs, hp1, hp2⟩, H.lI, by simp [← H.lV], H.lP, fun k hk hv => h5 k (H.oi.o.lt k hk).2 (fun hp => H.iv k hk hp) hv, H.ip, fun k hk hv => h5 k (g1.o.lt k hv).2 (fun hp => H.vp k hp hv) hk⟩
/-- A procedure is appended. -/
theorem CdAt.addP {w0 w wr : World} {b : Nat} {L : List Tk} {T U : Nat} {m : Mdl} {vI vV vP : Value} {mI mV mP : Nat} {s : PS} {w7 : World} {c7 : Nat} {ao7 : Option Addr} {o : Obj} {cs cn : List Value} (a : Prc) (H : CdAt w0 w wr b L T U m vI vV vP mI mV mP s) (g1 : OwnR w wr T U 66 8 vP mP cs) (g2 : Parts 8 (ProcV wr (NewM w wr T U vI vV vP)) m.procs cs) (hn : ProcV wr (NewM w wr T U vI vV vP) a cn) (h7 : w7.ownsRow w.heap.size 66 8 (.slice ao7 (mP + 1) c7) (mP + 1) (cs ++ cn)) (hg : (wr.alloc o).grownBy w7 vP.ownBlock) (ho : (Value.slice ao7 (mP + 1) c7).ownBlock = vP.ownBlock ∨ (Value.slice ao7 (mP + 1) c7).ownBlock = some (wr.alloc o).heap.size) :
    CcAt 26 w0 w w7 b L T U (mdlV m vI vV vP) (mdlV mdl0 (.slice none 0 0) (.slice none 0 0) (.slice none 0 0)) s ∧ CdAt w0 w (w7.setCell ⟨T, 4, none⟩ (.slice ao7 (mP + 1) c7)) b L T U { m with procs := m.procs ++ [a] } vI vV (.slice ao7 (mP + 1) c7) mI mV (mP + 1) s := by
  obtain ⟨h1, h2, h3, h4, h5⟩ := H.rc.app g1 h7 hg ho (j := 4) (xs' := mdlV { m with procs := m.procs ++ [a] } vI vV (.slice ao7 (mP + 1) c7)) rfl
  have hi := H.oi.chg h4 (fun k hk hm => by
    rcases List.mem_cons.1 hm with rfl | hm
    · exact H.oi.nT hk
    · exact H.ip k hk (rowF_mem.1 hm))
  have hv := H.ov.chg h4 (fun k hk hm => by
    rcases List.mem_cons.1 hm with rfl | hm
    · exact H.ov.nT hk
    · exact H.vp k hk (rowF_mem.1 hm))
  have up : ∀ (p : Prc) (c : List Value), ProcV wr (NewM w wr T U vI vV vP) p c → ProcV (w7.setCell ⟨T, 4, none⟩ (.slice ao7 (mP + 1) c7)) (NewM w (w7.setCell ⟨T, 4, none⟩ (.slice ao7 (mP + 1) c7)) T U vI vV (.slice ao7 (mP + 1) c7)) p c := ProcV.chg h4 (fun k hk hm => by
    rcases List.mem_cons.1 hm with rfl | hm
    · exact hk.1.2.2.1 rfl
    · exact hk.2.2.2 (rowF_mem.1 hm)) (fun k hk => ⟨hk.1.mono h4.size, hk.2.1, hk.2.2.1, h5 k hk.1.2.1 hk.2.2.2⟩)
  exact ⟨h1, h2, hi, hv, ⟨_, h3, Parts.snoc hn.length (up _ _ hn) (g2.imp up)⟩, H.lI, H.lV, by simp [← H.lP], H.iv, fun k hk hx => h5 k (H.oi.o.lt k hk).2 (fun hp => H.ip k hk hp) hx, fun k hk hx => h5 k (H.ov.o.lt k hk).2 (fun hp => H.vp k hk hp) hx⟩
/-- New blocks behind a state are no part of what it holds. -/
theorem CdAt.newM {w0 w wr : World} {b : Nat} {L : List Tk} {T U : Nat} {m : Mdl} {vI vV vP : Value} {mI mV mP : Nat} {s : PS} {w1 : World} (H : CdAt w0 w wr b L T U m vI vV vP mI mV mP s) {k : Nat} (hk : wr.heap.size ≤ k ∧ k < w1.heap.size) : NewM w w1 T U vI vV vP k := by
  have hT := (Array.getElem?_eq_some_iff.1 H.rc.sb).1
  have hU := (Array.getElem?_eq_some_iff.1 H.rc.z).1
  obtain ⟨cs, g1, _⟩ := H.op
  exact ⟨⟨Nat.le_trans H.rc.c.size hk.1, hk.2, by omega, by omega⟩, fun h => by have := (H.oi.o.lt k h).2; omega, fun h => by have := (H.ov.o.lt k h).2; omega, fun h => by have := (g1.o.lt k h).2; omega⟩
/-- What a module's reader leaves. -/
def MdlC (w : World) (m : Mdl) : World → Ending → Prop := fun w' e => ∃ vI vV vP, e = .returned (.agg #[.string (tx m.name), .int .i64 (m.pos : Int), vI, vV, vP]) ∧ ModV w' (NewW w w') m (mdlV m vI vV vP)
theorem CdAt.told {w0 w wr : World} {b : Nat} {L : List Tk} {T U : Nat} {m : Mdl} {vI vV vP : Value} {mI mV mP : Nat} {s : PS} (H : CdAt w0 w wr b L T U m vI vV vP mI mV mP s) (hI : mI ≤ 100000) (hV : mV ≤ 100000) (hP : mP ≤ 100000) : Psr w0 (wr.setRow U (mdlV m vI vV vP).toArray) b L s ∧ Chg [b] w (wr.setRow U (mdlV m vI vV vP).toArray) ∧ ModV (wr.setRow U (mdlV m vI vV vP).toArray) (NewW w (wr.setRow U (mdlV m vI vV vP).toArray)) m (mdlV m vI vV vP) := by
  obtain ⟨cs, g1, g2⟩ := H.op
  have hc : Chg [U] wr (wr.setRow U (mdlV m vI vV vP).toArray) := ⟨rfl, rfl, rfl, by simp, fun k _ hk => setRow_other wr U k _ (by simpa using hk)⟩
  have hN : ∀ k, NewB w wr T U k → k ∉ [U] := fun k hk hm => hk.2.2.2 (by simpa using hm)
  have hQ : ∀ k, NewB w wr T U k → NewW w (wr.setRow U (mdlV m vI vV vP).toArray) k := fun k hk => ⟨hk.1, Nat.lt_of_lt_of_le hk.2.1 hc.size⟩
  exact ⟨H.rc.last.1, H.rc.last.2, vI, mI, vV, mV, vP, mP, rfl, (H.oi.rows (by decide) (imps_parts _) H.lI hI).chg hc hN hQ (fun _ _ h => h), (H.ov.rows (by decide) (vars_parts _) H.lV hV).chg hc hN hQ (fun _ _ h => h), (g1.rows (by decide) (g2.imp (ProcV.chg (Chg.refl [] wr) (fun _ _ h => by cases h) (fun k hk => hk.1))) H.lP hP).chg hc hN hQ (ProcV.chg hc hN hQ)⟩
theorem CdAt.cell {w0 w wr : World} {b : Nat} {L : List Tk} {T U : Nat} {m : Mdl} {vI vV vP : Value} {mI mV mP : Nat} {s : PS} (H : CdAt w0 w wr b L T U m vI vV vP mI mV mP s) (j : Nat) (v : Value) (hj : (mdlV m vI vV vP)[j]? = some v) : wr.cell? ⟨T, j, none⟩ = some v := H.rc.cell j v hj
theorem CdAt.free {w0 w wr : World} {b : Nat} {L : List Tk} {T U : Nat} {m : Mdl} {vI vV vP : Value} {mI mV mP : Nat} {s : PS} (H : CdAt w0 w wr b L T U m vI vV vP mI mV mP s) (j : Nat) : wr.frozen? ⟨T, j, none⟩ = false := H.rc.free j
theorem CdAt.shapes {w0 w wr : World} {b : Nat} {L : List Tk} {T U : Nat} {m : Mdl} {vI vV vP : Value} {mI mV mP : Nat} {s : PS} (H : CdAt w0 w wr b L T U m vI vV vP mI mV mP s) : (∃ a c, vI = .slice a mI c) ∧ (∃ a c, vV = .slice a mV c) ∧ (∃ a c, vP = .slice a mP c) := by
  have sh : ∀ {w : World} {base e size : Nat} {v : Value} {n : Nat} {xs : List Value}, w.ownsRow base e size v n xs → ∃ a c, v = .slice a n c := fun h => by
    rcases h.2 with ⟨rfl, rfl⟩ | ⟨g, cap, cur, rfl, _⟩
    · exact ⟨none, 0, rfl⟩
    · exact ⟨_, _, rfl⟩
  obtain ⟨cs, g1, _⟩ := H.op
  exact ⟨sh H.oi.o, sh H.ov.o, sh g1.o⟩

end Go.Proofs.YtlgfijjkbomejaaGreatDoor

namespace Go.Proofs.YtlgfijjkbomejaaGreatDoor
open Go.RowKit Go.Lib
set_option maxRecDepth 100000

theorem mpRun_append_gen {sl el : TypeId} {z : Value} {size bytes : Nat} (E : Elem sl el z size bytes) {ops : Array Oper} {o : Oper} {a : Act} {w : World} {Qp : List PanicEntry → World → Prop} {K : Act → World → Prop} (hgd : o.guard = none) (s x : Operand)
    (ho : o.op = .call { callee := .builtin .append, args := #[s, x], argTypes := #[sl, sl] })
    (base : Nat) (v : Value) (n : Nat) (xs : List Value) (hs : a.eval s = v) (hown : w.ownsRow base el size v n xs) (vb : Value) (m : Nat) (news : List Value) (hx : a.eval x = vb) (hr : Cells w vb size m news) (h1 : ∀ u ∈ news, u.oneCell' = true)
    (p : Nat) (hp : p = n + m) (h63 : Hid (p ≤ 1000000)) (hby : bytes ≤ 1000) (hbase : base ≤ w.heap.size)
    (h : ∀ ao c w', w'.ownsRow base el size (.slice ao p c) p (xs ++ news) → Below base w w' → w.grownBy w' v.ownBlock → ((Value.slice ao p c).ownBlock = v.ownBlock ∨ (Value.slice ao p c).ownBlock = some w.heap.size) → K (a.put o.dst (.slice ao p c)) w') :
    mpRun Tryz.prog ops Qp o K a w := by
  subst hp
  have hb := h63.out
  have hw : Region.wanted o (yielded ops a.tmps) = true := by simp [Region.wanted, hgd]
  unfold mpRun
  rw [if_pos hw]
  obtain ⟨ao, c, w', hr', h2, h3, h4⟩ := run_append_gen E o.type base v n xs w hown vb m news hr h1 (by unfold maxLen; omega) (Nat.le_trans (Nat.mul_le_mul hb hby) (by decide)) hbase
  unfold execOp
  simp only [ho, resolve, invoke, builtin, Sem.run_bind, Sem.run_pure, Result.andThen_ok, List.map_toArray, List.map_cons, List.map_nil, hs, hx, hr', mpUpon]
  exact h ao c w' h2 (below_grown_own hown h3 hbase) h3 h4

theorem declLoop_err {L : List Tk} {q : Nat} {s : PS} {vs : List Vrb} {ps : List Prc} (h : s.e ≠ 0) : declLoop L q s vs ps = ((vs, ps), s) := by
  cases q with
  | zero => rfl
  | succ q => exact declLoop_stop rfl (.inl h)
/-- The whole, where the imports are read and where they failed. -/
structure ModG (L : List Tk) (nm : List UInt8) (q : Nat) (G1 : List Imp × PS) (R : Mdl × PS) : Prop where
  r : R = (⟨nm, q, G1.1, (declLoop L (L.length + 1) G1.2 [] []).1.1, (declLoop L (L.length + 1) G1.2 [] []).1.2⟩, (declLoop L (L.length + 1) G1.2 [] []).2)
theorem ModG.fell {L : List Tk} {nm : List UInt8} {q : Nat} {G1 : List Imp × PS} {R : Mdl × PS} (h : ModG L nm q G1 R) (he : G1.2.e ≠ 0) : R.2 = G1.2 := by
  rw [h.r, declLoop_err he]

end Go.Proofs.YtlgfijjkbomejaaGreatDoor
