/- The code's module under way: records with rows of their own. Made by a program out of the reference's. Numbers and types by name. -/
import Derived.Test.YtlgfijjkbomejaaDoorQpp
import Derived.Test.YtlgfijjkbomejaaDoorMpk
/- The code's variable. Numbers and types by name. -/
namespace Go.Proofs.YtlgfijjkbomejaaDoor
open Go.RowKit Go.Lib
set_option maxRecDepth 100000

theorem var_is (L : List Tk) (s : PS) : varT L s = (let s3 := wantT L (paramT L s).2 [61]; let s4 := takeT L s3 [45];
    if s4.e ≠ 0 ∨ (curT L s4).kind ≠ 2 then (⟨(paramT L s).1.name, (paramT L s).1.label, 0, (paramT L s).1.pos⟩, failT L s4 11)
    else (⟨(paramT L s).1.name, (paramT L s).1.label, if isT L s3 [45] = true then - (numV (curT L s4).text : Int) else numV (curT L s4).text, (paramT L s).1.pos⟩, wantT L s4.go [59])) := rfl
theorem wrap_pos {n : Nat} (h : n < 1000000000) : IntKind.i64.wrap (n : Int) = (n : Int) := by
  rw [IntKind.wrap_i64]
  omega
theorem wrap_neg {n : Nat} (h : n < 1000000000) : IntKind.i64.wrap (-(n : Int)) = -(n : Int) := by
  rw [IntKind.wrap_i64]
  omega

end Go.Proofs.YtlgfijjkbomejaaDoor

/- The reference's module under way. Numbers and types by name. -/
namespace Go.Proofs.YtlgfijjkbomejaaDoor
open Go.RowKit Go.Lib
set_option maxRecDepth 100000

def impV (i : Imp) : List Value := [.string (tx i.name), .int .i64 (i.pos : Int)]
def impsV (l : List Imp) : List Value := l.flatMap impV
def varsV (l : List Vrb) : List Value := l.flatMap varV
theorem impsV_snoc (l : List Imp) (p : Imp) : impsV (l ++ [p]) = impsV l ++ impV p := by simp [impsV]
theorem varsV_snoc (l : List Vrb) (p : Vrb) : varsV (l ++ [p]) = varsV l ++ varV p := by simp [varsV]
theorem imps_parts : ∀ l : List Imp, Parts 2 (fun p c => c = impV p) l (impsV l)
  | [] => rfl
  | o :: l => ⟨impV o, impsV l, by simp [impsV], rfl, rfl, imps_parts l⟩
theorem vars_parts : ∀ l : List Vrb, Parts 4 (fun p c => c = varV p) l (varsV l)
  | [] => rfl
  | o :: l => ⟨varV o, varsV l, by simp [varsV], rfl, rfl, vars_parts l⟩
/-- A module's cells. -/
def mdlV (m : Mdl) (vI vV vP : Value) : List Value := [.string (tx m.name), .int .i64 (m.pos : Int), vI, vV, vP]
/-- What can be read of a module. -/
def ModV (w : World) (P : Nat → Prop) (m : Mdl) (cs : List Value) : Prop :=
  ∃ vI nI vV nV vP nP, cs = mdlV m vI vV vP ∧ RowsP w P 2 (fun p c => c = impV p) vI nI m.imports ∧ RowsP w P 4 (fun p c => c = varV p) vV nV m.vars ∧ RowsP w P 8 (ProcV w P) vP nP m.procs
def MdTold (w0 w : World) (b n : Nat) (vl : Value) (L : List Tk) (r : Mdl × PS) (e : Ending) (w' : World) : Prop :=
  ∃ cs : List Value, e = .returned (.agg cs.toArray) ∧ ModV w' (fun k => w.heap.size ≤ k ∧ k < w'.heap.size) r.1 cs ∧ Rdr w0 w' b n vl L r.2 ∧ Chg [b] w w'
/-- Blocks that hold parts of procedures. -/
def NewM (w wr : World) (T U : Nat) (vI vV vP : Value) (k : Nat) : Prop := NewB w wr T U k ∧ vI.ownBlock ≠ some k ∧ vV.ownBlock ≠ some k ∧ vP.ownBlock ≠ some k
theorem mdl_ones (m : Mdl) {vI vV vP : Value} (h1 : vI.oneCell' = true) (h2 : vV.oneCell' = true) (h3 : vP.oneCell' = true) : (mdlV m vI vV vP).toArray.all (·.oneCell') = true := by
  simp only [mdlV, List.all_toArray, List.all_cons, List.all_nil, h1, h2, h3]
  rfl
end Go.Proofs.YtlgfijjkbomejaaDoor

/- The reference's module. Numbers and types by name. -/
namespace Go.Proofs.YtlgfijjkbomejaaDoor
open Go.RowKit Go.Lib
set_option maxRecDepth 100000

theorem impLoop_step {L : List Tk} {q : Nat} {s : PS} {acc : List Imp} {G : List Imp × PS} (h : impLoop L (q + 1) s acc = G) (hi : isT L s kImport = true) : impLoop L q (wantT L (nameT L s.go).2 [59]) (acc ++ [⟨(nameT L s.go).1, (curT L s.go).pos⟩]) = G := by
  unfold impLoop at h
  rw [if_pos hi] at h
  exact h
theorem impLoop_stop {L : List Tk} {q : Nat} {s : PS} {acc : List Imp} {G : List Imp × PS} (h : impLoop L q s acc = G) (hi : isT L s kImport = false) : G = (acc, s) := by
  cases q with
  | zero => exact h.symm
  | succ q =>
    unfold impLoop at h
    rw [if_neg (by rw [hi]; simp)] at h
    exact h.symm
theorem declLoop_stop {L : List Tk} {q : Nat} {s : PS} {vs : List Vrb} {ps : List Prc} {G : (List Vrb × List Prc) × PS} (h : declLoop L (q + 1) s vs ps = G) (hi : s.e ≠ 0 ∨ (curT L s).kind = 0) : G = ((vs, ps), s) := by
  unfold declLoop at h
  rw [if_pos hi] at h
  exact h.symm
theorem declLoop_var {L : List Tk} {q : Nat} {s : PS} {vs : List Vrb} {ps : List Prc} {G : (List Vrb × List Prc) × PS} (h : declLoop L (q + 1) s vs ps = G) (he : s.e = 0) (hk : (curT L s).kind ≠ 0) (hv : isT L s kVar = true) : declLoop L q (varT L s.go).2 (vs ++ [(varT L s.go).1]) ps = G := by
  unfold declLoop at h
  rw [if_neg (by simp [he, hk]), if_pos hv] at h
  exact h
theorem declLoop_proc {L : List Tk} {q : Nat} {s : PS} {vs : List Vrb} {ps : List Prc} {G : (List Vrb × List Prc) × PS} (h : declLoop L (q + 1) s vs ps = G) (he : s.e = 0) (hk : (curT L s).kind ≠ 0) (hv : isT L s kVar = false) (hp : isT L s kProc = true) : declLoop L q (procT L s.go).2 vs (ps ++ [(procT L s.go).1]) = G := by
  unfold declLoop at h
  rw [if_neg (by simp [he, hk]), if_neg (by rw [hv]; simp), if_pos hp] at h
  exact h
theorem declLoop_fail {L : List Tk} {q : Nat} {s : PS} {vs : List Vrb} {ps : List Prc} {G : (List Vrb × List Prc) × PS} (h : declLoop L (q + 1) s vs ps = G) (he : s.e = 0) (hk : (curT L s).kind ≠ 0) (hv : isT L s kVar = false) (hp : isT L s kProc = false) : declLoop L q (failT L s 11) vs ps = G := by
  unfold declLoop at h
  rw [if_neg (by simp [he, hk]), if_neg (by rw [hv]; simp), if_neg (by rw [hp]; simp)] at h
  exact h
theorem impLoop_goes {L : List Tk} (hL : TokL L) : ∀ (q : Nat) (s : PS) (acc : List Imp), Goes L s (impLoop L q s acc).2
  | 0, s, acc => Goes.refl L s
  | q + 1, s, acc => by
    unfold impLoop
    by_cases hi : isT L s kImport = true
    · rw [if_pos hi]
      have h1 := take_goes hL s kImport
      rw [takeT, if_pos hi] at h1
      exact h1.trans ((name_goes hL _).trans ((want_goes hL _ _).trans (impLoop_goes hL q _ _)))
    · rw [if_neg hi]
      exact Goes.refl L s

end Go.Proofs.YtlgfijjkbomejaaDoor

namespace Go.Proofs.YtlgfijjkbomejaaDoor
open Go.RowKit Go.Lib
set_option maxRecDepth 100000

/-- A record under way: the reader, its own block, the block of the result. -/
structure CcAt (t : TypeId) (w0 w wr : World) (b : Nat) (L : List Tk) (T U : Nat) (xs zs : List Value) (s : PS) : Prop where
  r : Psr w0 wr b L s
  c : Chg [b] w wr
  sb : wr.heap[T]? = some (.cells xs.toArray t (0, 0))
  z : wr.heap[U]? = some (.cells zs.toArray t (0, 0))
  bw : b < w.heap.size
  wT : w.heap.size ≤ T
  wU : w.heap.size ≤ U
  tu : T ≠ U
theorem CcAt.keep {t : TypeId} {w0 w wr w1 : World} {b : Nat} {L : List Tk} {T U : Nat} {xs zs : List Value} {s s1 : PS} (H : CcAt t w0 w wr b L T U xs zs s) (hr : Psr w0 w1 b L s1) (hc : Chg [b] wr w1) : CcAt t w0 w w1 b L T U xs zs s1 := by
  have hb := H.bw
  have hT := H.wT
  have hU := H.wU
  exact ⟨hr, H.c.trans hc, (hc.block T (Array.getElem?_eq_some_iff.1 H.sb).1 (by simp only [List.mem_singleton]; omega)).trans H.sb, (hc.block U (Array.getElem?_eq_some_iff.1 H.z).1 (by simp only [List.mem_singleton]; omega)).trans H.z, hb, hT, hU, H.tu⟩
theorem CcAt.field {t : TypeId} {w0 w wr : World} {b : Nat} {L : List Tk} {T U : Nat} {xs zs : List Value} {s : PS} (H : CcAt t w0 w wr b L T U xs zs s) (j : Nat) (x : Value) (xs' : List Value) (e : xs.toArray.setIfInBounds j x = xs'.toArray) : CcAt t w0 w (wr.setCell ⟨T, j, none⟩ x) b L T U xs' zs s := by
  have hb := H.bw
  have hT := H.wT
  have hU := H.wU
  have ct : Chg [T] wr (wr.setCell ⟨T, j, none⟩ x) := (Chg.refl [T] wr).set (.inl (by simp)) j x
  exact ⟨H.r.chg ct (fun y hy => by simp only [List.mem_singleton] at hy; omega), H.c.trans' ct (fun y hy => by simp only [List.mem_singleton] at hy; subst hy; exact .inr hT), by rw [heap_set H.sb, e], (ct.block U (Array.getElem?_eq_some_iff.1 H.z).1 (by simp only [List.mem_singleton]; exact fun h => H.tu h.symm)).trans H.z, hb, hT, hU, H.tu⟩
theorem CcAt.cell {t : TypeId} {w0 w wr : World} {b : Nat} {L : List Tk} {T U : Nat} {xs zs : List Value} {s : PS} (H : CcAt t w0 w wr b L T U xs zs s) (j : Nat) (v : Value) (hj : xs[j]? = some v) : wr.cell? ⟨T, j, none⟩ = some v :=
  cellsN H.sb j v (by rw [List.getElem?_toArray]; exact hj)
theorem CcAt.free {t : TypeId} {w0 w wr : World} {b : Nat} {L : List Tk} {T U : Nat} {xs zs : List Value} {s : PS} (H : CcAt t w0 w wr b L T U xs zs s) (j : Nat) : wr.frozen? ⟨T, j, none⟩ = false := by
  simp only [World.frozen?]
  rw [H.sb]
  simp
theorem CcAt.last {t : TypeId} {w0 w wr : World} {b : Nat} {L : List Tk} {T U : Nat} {xs zs : List Value} {s : PS} (H : CcAt t w0 w wr b L T U xs zs s) : Psr w0 (wr.setRow U xs.toArray) b L s ∧ Chg [b] w (wr.setRow U xs.toArray) := by
  have hb := H.bw
  have hU := H.wU
  have hc : Chg [U] wr (wr.setRow U xs.toArray) := ⟨rfl, rfl, rfl, by simp, fun k _ hk => setRow_other wr U k _ (by simpa using hk)⟩
  exact ⟨H.r.chg hc (fun x hx => by simp only [List.mem_singleton] at hx; omega), H.c.trans' hc (fun x hx => by simp only [List.mem_singleton] at hx; subst hx; exact .inr hU)⟩

/-- What follows an append whose slice is put back into the record: the record, its row, and what else was owned. -/
theorem CcAt.app {t : TypeId} {w0 w wr w7 : World} {b : Nat} {L : List Tk} {T U : Nat} {xs zs xs' : List Value} {s : PS} {e : TypeId} {size : Nat} {v : Value} {m m' c7 j : Nat} {ao7 : Option Addr} {cs cs' : List Value} {o : Obj} (H : CcAt t w0 w wr b L T U xs zs s) (hv : OwnR w wr T U e size v m cs)
    (h7 : w7.ownsRow w.heap.size e size (.slice ao7 m' c7) m' cs') (hg : (wr.alloc o).grownBy w7 v.ownBlock) (ho : (Value.slice ao7 m' c7).ownBlock = v.ownBlock ∨ (Value.slice ao7 m' c7).ownBlock = some (wr.alloc o).heap.size) (hx : xs.toArray.setIfInBounds j (.slice ao7 m' c7) = xs'.toArray) :
    CcAt t w0 w w7 b L T U xs zs s ∧ CcAt t w0 w (w7.setCell ⟨T, j, none⟩ (.slice ao7 m' c7)) b L T U xs' zs s ∧ OwnR w (w7.setCell ⟨T, j, none⟩ (.slice ao7 m' c7)) T U e size (.slice ao7 m' c7) m' cs' ∧
    Chg (T :: rowF v) wr (w7.setCell ⟨T, j, none⟩ (.slice ao7 m' c7)) ∧ (∀ k, k < wr.heap.size → v.ownBlock ≠ some k → (Value.slice ao7 m' c7).ownBlock ≠ some k) := by
  have hbw := H.bw
  have hT := H.wT
  have hU := H.wU
  have c7' : Chg (rowF v) wr w7 := ((Chg.refl (rowF v) wr).alloc o).trans' (Chg.of_grown (F := rowF v) hg (fun k hk => rowF_mem.2 hk)) fun x hx => .inl hx
  have hvl : ∀ k, v.ownBlock = some k → w.heap.size ≤ k ∧ k < wr.heap.size := fun k hk => hv.o.lt k hk
  have hs7 : (wr.alloc o).heap.size = wr.heap.size + 1 := by simp
  have hnew : ∀ k, k < wr.heap.size → v.ownBlock ≠ some k → (Value.slice ao7 m' c7).ownBlock ≠ some k := fun k hk hne e => by
    rcases ho with ho | ho
    · exact hne (ho ▸ e)
    · rw [ho] at e
      cases e
      omega
  have hTl := (Array.getElem?_eq_some_iff.1 H.sb).1
  have hUl := (Array.getElem?_eq_some_iff.1 H.z).1
  have r7 : CcAt t w0 w w7 b L T U xs zs s :=
    ⟨H.r.chg c7' (fun x hx => by have := (hvl x (rowF_mem.1 hx)).1; omega), H.c.trans' c7' (fun x hx => .inr (hvl x (rowF_mem.1 hx)).1), (c7'.block T hTl (fun hx => hv.nT (rowF_mem.1 hx))).trans H.sb, (c7'.block U hUl (fun hx => hv.nU (rowF_mem.1 hx))).trans H.z, hbw, hT, hU, H.tu⟩
  have ct : Chg [T] w7 (w7.setCell ⟨T, j, none⟩ (.slice ao7 m' c7)) := (Chg.refl [T] w7).set (.inl (by simp)) j _
  have h7T := hnew T hTl hv.nT
  have h7U := hnew U hUl hv.nU
  exact ⟨r7, r7.field j _ xs' hx, ⟨owns_chg h7 ct (fun k hk hm => h7T (by simp only [List.mem_singleton] at hm; rw [← hm]; exact hk)), h7T, h7U⟩, (c7'.mono (fun x hx => List.mem_cons_of_mem _ hx)).trans' ct (fun x hx => by simp only [List.mem_singleton] at hx; subst hx; exact .inl (List.mem_cons_self ..)), hnew⟩

/-- What a module's reader leaves. -/
def MdlC (w : World) (m : Mdl) : World → Ending → Prop := fun w' e => ∃ vI vV vP, e = .returned (.agg #[.string (tx m.name), .int .i64 (m.pos : Int), vI, vV, vP]) ∧ ModV w' (NewW w w') m (mdlV m vI vV vP)
end Go.Proofs.YtlgfijjkbomejaaDoor
