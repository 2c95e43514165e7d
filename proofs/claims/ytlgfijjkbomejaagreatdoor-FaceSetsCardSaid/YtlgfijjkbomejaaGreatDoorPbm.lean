/- The reference's module under way. Numbers and types by name. -/
import Derived.Test.YtlgfijjkbomejaaGreatDoorPbl
namespace Go.Proofs.YtlgfijjkbomejaaGreatDoor
open Go.RowKit Go.Lib
set_option maxRecDepth 100000

def impV (i : Imp) : List Value := [.string (tx i.name), .int .i64 (i.pos : Int)]
def impsV (l : List Imp) : List Value := l.flatMap impV
def varsV (l : List Vrb) : List Value := l.flatMap varV
theorem impsV_snoc (l : List Imp) (p : Imp) : impsV (l ++ [p]) = impsV l ++ impV p := by simp [impsV]
theorem varsV_snoc (l : List Vrb) (p : Vrb) : varsV (l ++ [p]) = varsV l ++ varV p := by simp [varsV]
theorem imps_parts : ∀ l : List Imp, Parts 2 (fun p c => c = impV p) l (impsV l)
  | [] => rfl
  | o :: l => ⟨impV o, impsV l, by simp [impsV], rfl, rfl, imps_parts l⟩
theorem vars_parts : ∀ l : List Vrb, Parts 4 (fun p c => c = varV p) l (varsV l)
  | [] => rfl
  | o :: l => ⟨varV o, varsV l, by simp [varsV], rfl, rfl, vars_parts l⟩
theorem elemImp : Elem 22 122 (.agg #[.string ⟨#[]⟩, .int .i64 0]) 2 24 := ⟨Tryz.underlying22, by kernel_rfl, by decide, by decide⟩
theorem elemVar : Elem 23 76 (.agg #[.string ⟨#[]⟩, .string ⟨#[]⟩, .int .i64 0, .int .i64 0]) 4 48 := ⟨Tryz.underlying23, by kernel_rfl, by decide, by decide⟩
theorem elemPrc : Elem 24 66 (.agg #[.string ⟨#[]⟩, .slice none 0 0, .bool false, .string ⟨#[]⟩, .string ⟨#[]⟩, .slice none 0 0, .slice none 0 0, .int .i64 0]) 8 136 := ⟨Tryz.underlying24, by kernel_rfl, by decide, by decide⟩
/-- A module's cells. -/
def mdlV (m : Mdl) (vI vV vP : Value) : List Value := [.string (tx m.name), .int .i64 (m.pos : Int), vI, vV, vP]
/-- What can be read of a module. -/
def ModV (w : World) (P : Nat → Prop) (m : Mdl) (cs : List Value) : Prop :=
  ∃ vI nI vV nV vP nP, cs = mdlV m vI vV vP ∧ RowsP w P 2 (fun p c => c = impV p) vI nI m.imports ∧ RowsP w P 4 (fun p c => c = varV p) vV nV m.vars ∧ RowsP w P 8 (ProcV w P) vP nP m.procs
def MdTold (w0 w : World) (b n : Nat) (vl : Value) (L : List Tk) (r : Mdl × PS) (e : Ending) (w' : World) : Prop :=
  ∃ cs : List Value, e = .returned (.agg cs.toArray) ∧ ModV w' (fun k => w.heap.size ≤ k ∧ k < w'.heap.size) r.1 cs ∧ Rdr w0 w' b n vl L r.2 ∧ Chg [b] w w'
/-- Blocks that hold parts of procedures. -/
def NewM (w wr : World) (T U : Nat) (vI vV vP : Value) (k : Nat) : Prop := NewB w wr T U k ∧ vI.ownBlock ≠ some k ∧ vV.ownBlock ≠ some k ∧ vP.ownBlock ≠ some k
/-- A module under way. -/
structure MdAt (w0 w wr : World) (b n : Nat) (vl : Value) (L : List Tk) (T U : Nat) (m : Mdl) (vI vV vP : Value) (mI mV mP : Nat) (s : PS) : Prop where
  rc : RcAt 26 w0 w wr b n vl L T U (mdlV m vI vV vP) (mdlV mdl0 (.slice none 0 0) (.slice none 0 0) (.slice none 0 0)) s
  oi : OwnR w wr T U 122 2 vI mI (impsV m.imports)
  ov : OwnR w wr T U 76 4 vV mV (varsV m.vars)
  op : ∃ cs, OwnR w wr T U 66 8 vP mP cs ∧ Parts 8 (ProcV wr (NewM w wr T U vI vV vP)) m.procs cs
  lI : mI = m.imports.length
  lV : mV = m.vars.length
  lP : mP = m.procs.length
  iv : ∀ k, vI.ownBlock = some k → vV.ownBlock ≠ some k
  ip : ∀ k, vI.ownBlock = some k → vP.ownBlock ≠ some k
  vp : ∀ k, vV.ownBlock = some k → vP.ownBlock ≠ some k
theorem MdAt.keep {w0 w wr : World} {b n : Nat} {vl : Value} {L : List Tk} {T U : Nat} {m : Mdl} {vI vV vP : Value} {mI mV mP : Nat} {s : PS} {w1 : World} {s1 : PS} (H : MdAt w0 w wr b n vl L T U m vI vV vP mI mV mP s) (hr : Rdr w0 w1 b n vl L s1) (hc : Chg [b] wr w1) : MdAt w0 w w1 b n vl L T U m vI vV vP mI mV mP s1 := by
  have hb := H.rc.bw
  obtain ⟨cs, h1, h2⟩ := H.op
  exact ⟨H.rc.keep hr hc, H.oi.chg hc (fun k hk hm => by have := (H.oi.o.lt k hk).1; simp only [List.mem_singleton] at hm; omega), H.ov.chg hc (fun k hk hm => by have := (H.ov.o.lt k hk).1; simp only [List.mem_singleton] at hm; omega),
    ⟨cs, h1.chg hc (fun k hk hm => by have := (h1.o.lt k hk).1; simp only [List.mem_singleton] at hm; omega), h2.imp (ProcV.chg hc (fun k hk hm => by have := hk.1.1; simp only [List.mem_singleton] at hm; omega) (fun k hk => ⟨hk.1.mono hc.size, hk.2⟩))⟩, H.lI, H.lV, H.lP, H.iv, H.ip, H.vp⟩
theorem MdAt.addI {w0 w wr : World} {b n : Nat} {vl : Value} {L : List Tk} {T U : Nat} {m : Mdl} {vI vV vP : Value} {mI mV mP : Nat} {s : PS} {w7 : World} {c7 : Nat} {ao7 : Option Addr} {o : Obj} (a : Imp) (H : MdAt w0 w wr b n vl L T U m vI vV vP mI mV mP s) (h7 : w7.ownsRow w.heap.size 122 2 (.slice ao7 (mI + 1) c7) (mI + 1) (impsV m.imports ++ impV a)) (hg : (wr.alloc o).grownBy w7 vI.ownBlock) (ho : (Value.slice ao7 (mI + 1) c7).ownBlock = vI.ownBlock ∨ (Value.slice ao7 (mI + 1) c7).ownBlock = some (wr.alloc o).heap.size) :
    RcAt 26 w0 w w7 b n vl L T U (mdlV m vI vV vP) (mdlV mdl0 (.slice none 0 0) (.slice none 0 0) (.slice none 0 0)) s ∧ MdAt w0 w (w7.setCell ⟨T, 2, none⟩ (.slice ao7 (mI + 1) c7)) b n vl L T U { m with imports := m.imports ++ [a] } (.slice ao7 (mI + 1) c7) vV vP (mI + 1) mV mP s := by
  obtain ⟨h1, h2, h3, h4, h5⟩ := H.rc.app H.oi h7 hg ho (j := 2) (xs' := mdlV { m with imports := m.imports ++ [a] } (.slice ao7 (mI + 1) c7) vV vP) rfl
  obtain ⟨cs, g1, g2⟩ := H.op
  have hr3 : OwnR w (w7.setCell ⟨T, 2, none⟩ (.slice ao7 (mI + 1) c7)) T U 122 2 (.slice ao7 (mI + 1) c7) (mI + 1) (impsV (m.imports ++ [a])) := by rw [← impsV_snoc] at h3; exact h3
  have hoth := H.ov.chg h4 (fun k hk hm => by
    rcases List.mem_cons.1 hm with rfl | hm
    · exact H.ov.nT hk
    · exact H.iv k (rowF_mem.1 hm) hk)
  have hp1 := g1.chg h4 (fun k hk hm => by
    rcases List.mem_cons.1 hm with rfl | hm
    · exact g1.nT hk
    · exact H.ip k (rowF_mem.1 hm) hk)
  have hp2 := g2.imp (ProcV.chg h4 (Q := NewM w (w7.setCell ⟨T, 2, none⟩ (.slice ao7 (mI + 1) c7)) T U (.slice ao7 (mI + 1) c7) vV vP) (fun k hk hm => by
    rcases List.mem_cons.1 hm with rfl | hm
    · exact hk.1.2.2.1 rfl
    · exact hk.2.1 (rowF_mem.1 hm)) (fun k hk => ⟨hk.1.mono h4.size, h5 k hk.1.2.1 hk.2.1, hk.2.2⟩))
  exact ⟨h1, h2, hr3, hoth, ⟨cs, hp1, hp2⟩, by simp [← H.lI], H.lV, H.lP, fun k hk hv => h5 k (H.ov.o.lt k hv).2 (fun hp => H.iv k hp hv) hk, fun k hk hv => h5 k (g1.o.lt k hv).2 (fun hp => H.ip k hp hv) hk, H.vp⟩
theorem MdAt.addV {w0 w wr : World} {b n : Nat} {vl : Value} {L : List Tk} {T U : Nat} {m : Mdl} {vI vV vP : Value} {mI mV mP : Nat} {s : PS} {w7 : World} {c7 : Nat} {ao7 : Option Addr} {o : Obj} (a : Vrb) (H : MdAt w0 w wr b n vl L T U m vI vV vP mI mV mP s) (h7 : w7.ownsRow w.heap.size 76 4 (.slice ao7 (mV + 1) c7) (mV + 1) (varsV m.vars ++ varV a)) (hg : (wr.alloc o).grownBy w7 vV.ownBlock) (ho : (Value.slice ao7 (mV + 1) c7).ownBlock = vV.ownBlock ∨ (Value.slice ao7 (mV + 1) c7).ownBlock = some (wr.alloc o).heap.size) :
    RcAt 26 w0 w w7 b n vl L T U (mdlV m vI vV vP) (mdlV mdl0 (.slice none 0 0) (.slice none 0 0) (.slice none 0 0)) s ∧ MdAt w0 w (w7.setCell ⟨T, 3, none⟩ (.slice ao7 (mV + 1) c7)) b n vl L T U { m with vars := m.vars ++ [a] } vI (.slice ao7 (mV + 1) c7) vP mI (mV + 1) mP s := by
  obtain ⟨h1, h2, h3, h4, h5⟩ := H.rc.app H.ov h7 hg ho (j := 3) (xs' := mdlV { m with vars := m.vars ++ [a] } vI (.slice ao7 (mV + 1) c7) vP) rfl
  obtain ⟨cs, g1, g2⟩ := H.op
  have hr3 : OwnR w (w7.setCell ⟨T, 3, none⟩ (.slice ao7 (mV + 1) c7)) T U 76 4 (.slice ao7 (mV + 1) c7) (mV + 1) (varsV (m.vars ++ [a])) := by rw [← varsV_snoc] at h3; exact h3
  have hoth := H.oi.chg h4 (fun k hk hm => by
    rcases List.mem_cons.1 hm with rfl | hm
    · exact H.oi.nT hk
    · exact H.iv k hk (rowF_mem.1 hm))
  have hp1 := g1.chg h4 (fun k hk hm => by
    rcases List.mem_cons.1 hm with rfl | hm
    · exact g1.nT hk
    · exact H.vp k (rowF_mem.1 hm) hk)
  have hp2 := g2.imp (ProcV.chg h4 (Q := NewM w (w7.setCell ⟨T, 3, none⟩ (.slice ao7 (mV + 1) c7)) T U vI (.slice ao7 (mV + 1) c7) vP) (fun k hk hm => by
    rcases List.mem_cons.1 hm with rfl | hm
    · exact hk.1.2.2.1 rfl
    · exact hk.2.2.1 (rowF_mem.1 hm)) (fun k hk => ⟨hk.1.mono h4.size, hk.2.1, h5 k hk.1.2.1 hk.2.2.1, hk.2.2.2⟩))
  exact ⟨h1, h2, hoth, hr3, ⟨cs, hp1, hp2⟩, H.lI, by simp [← H.lV], H.lP, fun k hk hv => h5 k (H.oi.o.lt k hk).2 (fun hp => H.iv k hk hp) hv, H.ip, fun k hk hv => h5 k (g1.o.lt k hv).2 (fun hp => H.vp k hp hv) hk⟩
/-- A procedure is appended. -/
theorem MdAt.addP {w0 w wr : World} {b n : Nat} {vl : Value} {L : List Tk} {T U : Nat} {m : Mdl} {vI vV vP : Value} {mI mV mP : Nat} {s : PS} {w7 : World} {c7 : Nat} {ao7 : Option Addr} {o : Obj} {cs cn : List Value} (a : Prc) (H : MdAt w0 w wr b n vl L T U m vI vV vP mI mV mP s) (g1 : OwnR w wr T U 66 8 vP mP cs) (g2 : Parts 8 (ProcV wr (NewM w wr T U vI vV vP)) m.procs cs) (hn : ProcV wr (NewM w wr T U vI vV vP) a cn) (h7 : w7.ownsRow w.heap.size 66 8 (.slice ao7 (mP + 1) c7) (mP + 1) (cs ++ cn)) (hg : (wr.alloc o).grownBy w7 vP.ownBlock) (ho : (Value.slice ao7 (mP + 1) c7).ownBlock = vP.ownBlock ∨ (Value.slice ao7 (mP + 1) c7).ownBlock = some (wr.alloc o).heap.size) :
    RcAt 26 w0 w w7 b n vl L T U (mdlV m vI vV vP) (mdlV mdl0 (.slice none 0 0) (.slice none 0 0) (.slice none 0 0)) s ∧ MdAt w0 w (w7.setCell ⟨T, 4, none⟩ (.slice ao7 (mP + 1) c7)) b n vl L T U { m with procs := m.procs ++ [a] } vI vV (.slice ao7 (mP + 1) c7) mI mV (mP + 1) s := by
  obtain ⟨h1, h2, h3, h4, h5⟩ := H.rc.app g1 h7 hg ho (j := 4) (xs' := mdlV { m with procs := m.procs ++ [a] } vI vV (.slice ao7 (mP + 1) c7)) rfl
  have hi := H.oi.chg h4 (fun k hk hm => by
    rcases List.mem_cons.1 hm with rfl | hm
    · exact H.oi.nT hk
    · exact H.ip k hk (rowF_mem.1 hm))
  have hv := H.ov.chg h4 (fun k hk hm => by
    rcases List.mem_cons.1 hm with rfl | hm
    · exact H.ov.nT hk
    · exact H.vp k hk (rowF_mem.1 hm))
  have up : ∀ (p : Prc) (c : List Value), ProcV wr (NewM w wr T U vI vV vP) p c → ProcV (w7.setCell ⟨T, 4, none⟩ (.slice ao7 (mP + 1) c7)) (NewM w (w7.setCell ⟨T, 4, none⟩ (.slice ao7 (mP + 1) c7)) T U vI vV (.slice ao7 (mP + 1) c7)) p c := ProcV.chg h4 (fun k hk hm => by
    rcases List.mem_cons.1 hm with rfl | hm
    · exact hk.1.2.2.1 rfl
    · exact hk.2.2.2 (rowF_mem.1 hm)) (fun k hk => ⟨hk.1.mono h4.size, hk.2.1, hk.2.2.1, h5 k hk.1.2.1 hk.2.2.2⟩)
  exact ⟨h1, h2, hi, hv, ⟨_, h3, Parts.snoc hn.length (up _ _ hn) (g2.imp up)⟩, H.lI, H.lV, by simp [← H.lP], H.iv, fun k hk hx => h5 k (H.oi.o.lt k hk).2 (fun hp => H.ip k hk hp) hx, fun k hk hx => h5 k (H.ov.o.lt k hk).2 (fun hp => H.vp k hk hp) hx⟩
theorem mdl_info (m : Mdl) (vI vV vP : Value) : (Tryz.prog.info? 26).map (·.size) = some (mdlV m vI vV vP).toArray.size := by
  show _ = some 5
  kernel_rfl
theorem mdl_ones (m : Mdl) {vI vV vP : Value} (h1 : vI.oneCell' = true) (h2 : vV.oneCell' = true) (h3 : vP.oneCell' = true) : (mdlV m vI vV vP).toArray.all (·.oneCell') = true := by
  simp only [mdlV, List.all_toArray, List.all_cons, List.all_nil, h1, h2, h3]
  rfl
/-- New blocks behind a state are no part of what it holds. -/
theorem MdAt.newM {w0 w wr : World} {b n : Nat} {vl : Value} {L : List Tk} {T U : Nat} {m : Mdl} {vI vV vP : Value} {mI mV mP : Nat} {s : PS} {w1 : World} (H : MdAt w0 w wr b n vl L T U m vI vV vP mI mV mP s) {k : Nat} (hk : wr.heap.size ≤ k ∧ k < w1.heap.size) : NewM w w1 T U vI vV vP k := by
  have hT := (Array.getElem?_eq_some_iff.1 H.rc.sb).1
  have hU := (Array.getElem?_eq_some_iff.1 H.rc.z).1
  obtain ⟨cs, g1, _⟩ := H.op
  exact ⟨⟨Nat.le_trans H.rc.c.size hk.1, hk.2, by omega, by omega⟩, fun h => by have := (H.oi.o.lt k h).2; omega, fun h => by have := (H.ov.o.lt k h).2; omega, fun h => by have := (g1.o.lt k h).2; omega⟩
theorem MdAt.told {w0 w wr : World} {b n : Nat} {vl : Value} {L : List Tk} {T U : Nat} {m : Mdl} {vI vV vP : Value} {mI mV mP : Nat} {s : PS} (H : MdAt w0 w wr b n vl L T U m vI vV vP mI mV mP s) (hI : mI ≤ 100000) (hV : mV ≤ 100000) (hP : mP ≤ 100000) : MdTold w0 w b n vl L (m, s) (.returned (.agg (mdlV m vI vV vP).toArray)) (wr.setRow U (mdlV m vI vV vP).toArray) := by
  obtain ⟨cs, g1, g2⟩ := H.op
  have hc : Chg [U] wr (wr.setRow U (mdlV m vI vV vP).toArray) := ⟨rfl, rfl, rfl, by simp, fun k _ hk => setRow_other wr U k _ (by simpa using hk)⟩
  have hN : ∀ k, NewB w wr T U k → k ∉ [U] := fun k hk hm => hk.2.2.2 (by simpa using hm)
  have hQ : ∀ k, NewB w wr T U k → w.heap.size ≤ k ∧ k < (wr.setRow U (mdlV m vI vV vP).toArray).heap.size := fun k hk => ⟨hk.1, Nat.lt_of_lt_of_le hk.2.1 hc.size⟩
  exact ⟨_, rfl, ⟨vI, mI, vV, mV, vP, mP, rfl, (H.oi.rows (by decide) (imps_parts _) H.lI hI).chg hc hN hQ (fun _ _ h => h), (H.ov.rows (by decide) (vars_parts _) H.lV hV).chg hc hN hQ (fun _ _ h => h), (g1.rows (by decide) (g2.imp (ProcV.chg (Chg.refl [] wr) (fun _ _ h => by cases h) (fun k hk => hk.1))) H.lP hP).chg hc hN hQ (ProcV.chg hc hN hQ)⟩, H.rc.last⟩

end Go.Proofs.YtlgfijjkbomejaaGreatDoor
