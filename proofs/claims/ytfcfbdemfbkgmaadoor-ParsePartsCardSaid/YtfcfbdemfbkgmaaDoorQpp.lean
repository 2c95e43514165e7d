/- The code's proc. Made by wip/tools/gencproc.py. Numbers and types by name. -/
import Derived.Test.YtfcfbdemfbkgmaaDoorQpe
import Derived.Deep.Cut
import Derived.Deep.CutBlock
import Derived.Deep.CutRange
import Derived.Test.YtfcfbdemfbkgmaaDoorQpn
/- The reference's proc. Numbers and types by name. -/
namespace Go.Proofs.YtfcfbdemfbkgmaaDoor
open Go.RowKit Go.Lib
set_option maxRecDepth 100000

def listOf {α : Type} (L : List Tk) (one : PS → α × PS) (s : PS) (shut : List UInt8) : List α × PS := if isT L s shut = true then ([], s) else listLoop L one (L.length + 1) s []
theorem list_of {α : Type} (L : List Tk) (one : PS → α × PS) (s : PS) (shut : List UInt8) : listT L one s shut = ((listOf L one s shut).1, wantT L (listOf L one s shut).2 shut) := rfl
theorem listOf_goes {α : Type} {L : List Tk} (hL : TokL L) {one : PS → α × PS} (h1 : ∀ s, Goes L s (one s).2) (s : PS) (shut : List UInt8) : Goes L s (listOf L one s shut).2 := by
  unfold listOf
  split
  · exact Goes.refl L s
  · exact listLoop_goes hL h1 _ _ _
theorem listLoop_step {α : Type} {L : List Tk} {one : PS → α × PS} {q : Nat} {s : PS} {acc : List α} {G : List α × PS} (h : listLoop L one (q + 1) s acc = G) (he : s.e = 0) : (if isT L (one s).2 [44] = true then listLoop L one q (one s).2.go (acc ++ [(one s).1]) else (acc ++ [(one s).1], (one s).2)) = G := by
  unfold listLoop at h
  rw [if_neg (by simp [he])] at h
  exact h
theorem list_less {α : Type} {L : List Tk} {one : PS → α × PS} {s : PS} (h1 : Goes L s (one s).2) (hs : s.i < L.length) (h : isT L (one s).2 [44] = true) : remT L (one s).2.go < remT L s := by
  have h2 := isT_e h
  have h3 := h1.rem
  have h4 := rem_go (L := L) h2.1 (h1.lt hs)
  omega

/-- Another block of the call's own is written. -/
theorem PrAt.other {w0 w wr w1 : World} {b n : Nat} {vl : Value} {L : List Tk} {T U X : Nat} {p : Prc} {vP vU : Value} {mP mU : Nat} {s : PS} (H : PrAt w0 w wr b n vl L T U p vP vU mP mU s) (hX : w.heap.size ≤ X) (hT : X ≠ T) (hU : X ≠ U) (h1 : vP.ownBlock ≠ some X) (h2 : vU.ownBlock ≠ some X) (hc : Chg [X] wr w1) : PrAt w0 w w1 b n vl L T U p vP vU mP mU s := by
  have hb := H.rc.bw
  exact ⟨⟨H.rc.r.chg hc (fun y hy => by simp only [List.mem_singleton] at hy; omega) (H.rc.r.r.chg hc (by simp only [List.mem_singleton]; omega)) H.rc.r.lt H.rc.r.deep, H.rc.c.trans' hc (fun y hy => by simp only [List.mem_singleton] at hy; subst hy; exact .inr hX), (hc.block T (Array.getElem?_eq_some_iff.1 H.rc.sb).1 (by simp only [List.mem_singleton]; omega)).trans H.rc.sb, (hc.block U (Array.getElem?_eq_some_iff.1 H.rc.z).1 (by simp only [List.mem_singleton]; omega)).trans H.rc.z, hb, H.rc.wT, H.rc.wU, H.rc.tu⟩,
    H.op.chg hc (fun k hk hm => h1 (by simp only [List.mem_singleton] at hm; rw [← hm]; exact hk)), H.ou.chg hc (fun k hk hm => h2 (by simp only [List.mem_singleton] at hm; rw [← hm]; exact hk)), H.lP, H.lU, H.pu⟩
theorem OwnR.one {w wr : World} {T U : Nat} {e : TypeId} {size : Nat} {v : Value} {m : Nat} {cs : List Value} (h : OwnR w wr T U e size v m cs) : v.oneCell' = true := by
  rcases h.o.2 with ⟨rfl, _⟩ | ⟨g, cap, cur, rfl, _⟩ <;> rfl
theorem prc_ones (p : Prc) {vP vU vB : Value} (h1 : vP.oneCell' = true) (h2 : vU.oneCell' = true) (h3 : vB.oneCell' = true) : (prcV p vP vU vB).toArray.all (·.oneCell') = true := by
  simp only [prcV, List.all_toArray, List.all_cons, List.all_nil, h1, h2, h3]
  rfl
theorem par_info (p : Par) : (Tryd.prog.info? 46).map (·.size) = some (parV p).toArray.size := by
  show _ = some 3
  kernel_rfl

end Go.Proofs.YtfcfbdemfbkgmaaDoor

namespace Go.Proofs.YtfcfbdemfbkgmaaDoor
open Go.RowKit Go.Lib
set_option maxRecDepth 100000

section
variable (L : List Tk)
def pF9 (x : PS) : PS := (blockN L x).2
def pF8 (x : PS) : PS := pF9 L (listT L (nameT L) x [125]).2
def pF7 (x : PS) : PS := pF8 L (wantT L x [123])
def pF6 (x : PS) : PS := pF7 L (wantT L x kUses)
def pF5 (x : PS) : PS := pF6 L (nameT L x).2
def pF4 (x : PS) : PS := pF5 L (wantT L x kPc)
def pF3 (x : PS) : PS := pF4 L (if isT L x [45, 62] = true then nameT L x.go else ([], x)).2
def pF2 (x : PS) : PS := pF3 L (listT L (paramT L) x [41]).2
def pF1 (x : PS) : PS := pF2 L (wantT L x [40])
variable {L}
theorem pF_err (hL : TokL L) {x : PS} (h : x.e ≠ 0) : pF9 L x = x ∧ pF8 L x = x ∧ pF7 L x = x ∧ pF6 L x = x ∧ pF5 L x = x ∧ pF4 L x = x ∧ pF3 L x = x ∧ pF2 L x = x ∧ pF1 L x = x := by
  have e9 : pF9 L x = x := (blockN_goes hL x).err h
  have e8 : pF8 L x = x := by unfold pF8; rw [(list_goes hL (name_goes hL) x [125]).err h]; exact e9
  have e7 : pF7 L x = x := by unfold pF7; rw [want_err h]; exact e8
  have e6 : pF6 L x = x := by unfold pF6; rw [want_err h]; exact e7
  have e5 : pF5 L x = x := by unfold pF5; rw [(name_goes hL x).err h]; exact e6
  have e4 : pF4 L x = x := by unfold pF4; rw [want_err h]; exact e5
  have e3 : pF3 L x = x := by unfold pF3; rw [isT_err h, if_neg (by simp)]; exact e4
  have e2 : pF2 L x = x := by unfold pF2; rw [(list_goes hL (param_goes hL) x [41]).err h]; exact e3
  have e1 : pF1 L x = x := by unfold pF1; rw [want_err h]; exact e2
  exact ⟨e9, e8, e7, e6, e5, e4, e3, e2, e1⟩
end

/-- A procedure under way: the parser, its own block, the block of the result, its parts. -/
structure PcAt (w0 w wr : World) (b : Nat) (L : List Tk) (T U : Nat) (p : Prc) (vP vU vB : Value) (s : PS) : Prop where
  st : StC w0 w wr b L s
  sb : wr.heap[T]? = some (.cells (prcV p vP vU vB).toArray 70)
  z : wr.heap[U]? = some (.cells (prcV prc0 (.slice none 0 0) (.slice none 0 0) (.slice none 0 0)).toArray 70)
  pp : ∃ n, RowsP wr (NewB w wr T U) 3 (fun p c => c = parV p) vP n p.params
  pu : ∃ n, RowsP wr (NewB w wr T U) 1 (fun x c => c = [Value.string (tx x)]) vU n p.uses
  pb : ∃ n, StmsP wr (NewB w wr T U) vB n p.body
  bw : b < w.heap.size
  wT : w.heap.size ≤ T
  wU : w.heap.size ≤ U
  tu : T ≠ U
section
variable {w0 w wr : World} {b : Nat} {L : List Tk} {T U : Nat} {p : Prc} {vP vU vB : Value} {s : PS}
theorem PcAt.tlt (H : PcAt w0 w wr b L T U p vP vU vB s) : T < wr.heap.size ∧ U < wr.heap.size := ⟨(Array.getElem?_eq_some_iff.1 H.sb).1, (Array.getElem?_eq_some_iff.1 H.z).1⟩
theorem PcAt.keep {w1 : World} {s1 : PS} (H : PcAt w0 w wr b L T U p vP vU vB s) (hr : Psr w0 w1 b L s1) (hc : Chg [b] wr w1) : PcAt w0 w w1 b L T U p vP vU vB s1 := by
  have hbw := H.bw
  have hT := H.wT
  have hU := H.wU
  have hP : ∀ k, NewB w wr T U k → k ∉ [b] := fun k hk hm => by
    simp only [List.mem_singleton] at hm
    have := hk.1
    omega
  have hQ : ∀ k, NewB w wr T U k → NewB w w1 T U k := fun k hk => hk.mono hc.size
  obtain ⟨n1, h1⟩ := H.pp
  obtain ⟨n2, h2⟩ := H.pu
  obtain ⟨n3, h3⟩ := H.pb
  exact ⟨H.st.keep hr hc, (hc.block T H.tlt.1 (by rw [List.mem_singleton]; omega)).trans H.sb, (hc.block U H.tlt.2 (by rw [List.mem_singleton]; omega)).trans H.z, ⟨n1, h1.chg hc hP hQ (fun _ _ h => h)⟩, ⟨n2, h2.chg hc hP hQ (fun _ _ h => h)⟩, ⟨n3, h3.chg hc hP hQ⟩, hbw, hT, hU, H.tu⟩
theorem PcAt.put {p' : Prc} {vP' vU' vB' : Value} (H : PcAt w0 w wr b L T U p vP vU vB s) (j : Nat) (v : Value) (e : (prcV p vP vU vB).toArray.setIfInBounds j v = (prcV p' vP' vU' vB').toArray)
    (h1 : ∃ n, RowsP wr (NewB w wr T U) 3 (fun p c => c = parV p) vP' n p'.params) (h2 : ∃ n, RowsP wr (NewB w wr T U) 1 (fun x c => c = [Value.string (tx x)]) vU' n p'.uses) (h3 : ∃ n, StmsP wr (NewB w wr T U) vB' n p'.body) :
    PcAt w0 w (wr.setCell ⟨T, j, none⟩ v) b L T U p' vP' vU' vB' s := by
  have hbw := H.bw
  have hT := H.wT
  have hc : Chg [T] wr (wr.setCell ⟨T, j, none⟩ v) := (Chg.refl [T] wr).set (.inl (by simp)) j v
  have hP : ∀ k, NewB w wr T U k → k ∉ [T] := fun k hk hm => hk.2.2.1 (by simpa using hm)
  have hQ : ∀ k, NewB w wr T U k → NewB w (wr.setCell ⟨T, j, none⟩ v) T U k := fun k hk => hk.mono hc.size
  obtain ⟨n1, h1⟩ := h1
  obtain ⟨n2, h2⟩ := h2
  obtain ⟨n3, h3⟩ := h3
  exact ⟨H.st.set (by omega) hT j v, by rw [heap_setCell_same wr T j _ _ v H.sb, e], (heap_setCell_other wr ⟨T, j, none⟩ U v (fun h => H.tu h.symm)).trans H.z, ⟨n1, h1.chg hc hP hQ (fun _ _ h => h)⟩, ⟨n2, h2.chg hc hP hQ (fun _ _ h => h)⟩, ⟨n3, h3.chg hc hP hQ⟩, hbw, hT, H.wU, H.tu⟩
theorem PcAt.cell (H : PcAt w0 w wr b L T U p vP vU vB s) (j : Nat) (v : Value) (hj : (prcV p vP vU vB)[j]? = some v) : wr.cell? ⟨T, j, none⟩ = some v := cellsN H.sb j v (by rw [List.getElem?_toArray]; exact hj)
theorem PcAt.free (H : PcAt w0 w wr b L T U p vP vU vB s) (j : Nat) : wr.frozen? ⟨T, j, none⟩ = false := frozen_of_row _ _ _ _ _ H.sb
theorem PcAt.newB {w1 : World} (H : PcAt w0 w wr b L T U p vP vU vB s) {k : Nat} (hk : wr.heap.size ≤ k ∧ k < w1.heap.size) : NewB w w1 T U k :=
  ⟨Nat.le_trans H.st.c.size hk.1, hk.2, by have := H.tlt; omega, by have := H.tlt; omega⟩
theorem PcAt.out {w1 : World} {s1 : PS} {V : World → Ending → Prop} {e : Ending} (H : PcAt w0 w wr b L T U p vP vU vB s) (k : Ends w0 wr b L s1 V e w1) : (s1.e = 0 ∧ V w1 e ∧ Hid (PcAt w0 w w1 b L T U p vP vU vB s1)) ∨ (s1.e ≠ 0 ∧ e = Pnk s1 ∧ Hid (Chg [b] w w1)) := by
  obtain ⟨hc, ⟨h0, h1, h2⟩ | ⟨h0, h1⟩⟩ := k
  · exact .inl ⟨h0, h2, Lib.hid (H.keep h1 hc)⟩
  · exact .inr ⟨h0, h1, Lib.hid (H.st.c.trans hc)⟩
theorem PcAt.ones (H : PcAt w0 w wr b L T U p vP vU vB s) : (prcV p vP vU vB).toArray.all (·.oneCell') = true := by
  obtain ⟨n1, h1⟩ := H.pp
  obtain ⟨n2, h2⟩ := H.pu
  obtain ⟨n3, h3⟩ := H.pb
  obtain ⟨_, _, rfl⟩ := h1.shape
  obtain ⟨_, _, rfl⟩ := h2.shape
  obtain ⟨_, _, rfl⟩ := h3.shape
  exact prc_ones p rfl rfl rfl
theorem PcAt.told (H : PcAt w0 w wr b L T U p vP vU vB s) : Psr w0 (wr.setRow U (prcV p vP vU vB).toArray) b L s ∧ Chg [b] w (wr.setRow U (prcV p vP vU vB).toArray) ∧ ProcV (wr.setRow U (prcV p vP vU vB).toArray) (NewW w (wr.setRow U (prcV p vP vU vB).toArray)) p (prcV p vP vU vB) := by
  have hbw := H.bw
  have hU := H.wU
  have hc : Chg [U] wr (wr.setRow U (prcV p vP vU vB).toArray) := (Chg.refl [U] wr).setRow (.inl (by simp)) _
  have hP : ∀ k, NewB w wr T U k → k ∉ [U] := fun k hk hm => hk.2.2.2 (by simpa using hm)
  have hQ : ∀ k, NewB w wr T U k → NewW w (wr.setRow U (prcV p vP vU vB).toArray) k := fun k hk => ⟨hk.1, Nat.lt_of_lt_of_le hk.2.1 hc.size⟩
  obtain ⟨n1, h1⟩ := H.pp
  obtain ⟨n2, h2⟩ := H.pu
  obtain ⟨n3, h3⟩ := H.pb
  have hs := H.st.setRow (T := U) (by omega) hU (prcV p vP vU vB).toArray
  exact ⟨hs.r, hs.c, ⟨_, _, _, _, _, _, rfl, h1.chg hc hP hQ (fun _ _ h => h), h2.chg hc hP hQ (fun _ _ h => h), h3.chg hc hP hQ⟩⟩
end

/-- What a procedure's reader leaves. -/
def PrcC (w : World) (p : Prc) : World → Ending → Prop := fun w' e => ∃ vP vU vB, e = .returned (.agg #[.string (tx p.name), vP, .bool p.has, .string (tx p.result), .string (tx p.pc), vU, vB, .int .i64 (p.pos : Int)]) ∧ ProcV w' (NewW w w') p (prcV p vP vU vB)

set_option maxHeartbeats 8000000 in
theorem psr_proc (w0 w : World) (b : Nat) (L : List Tk) (s : PS) (h : Psr w0 w b L s) :
    Calls Tryd.prog 26 #[.pointer (some ⟨b, 0, none⟩)] w (Ends w0 w b L (procT L s).2 (PrcC w (procT L s).1)) := by
  have HA := Lib.hid ((StC.of h).alloc (.cells #[.string ⟨#[]⟩, .slice none 0 0, .bool false, .string ⟨#[]⟩, .string ⟨#[]⟩, .slice none 0 0, .slice none 0 0, .int .i64 0] 70))
  have hbw := h.blt
  obtain ⟨U, hU⟩ : ∃ U, w.heap.size = U := ⟨_, rfl⟩
  have HU := OwB.mk' (StC.of h) #[.string ⟨#[]⟩, .slice none 0 0, .bool false, .string ⟨#[]⟩, .string ⟨#[]⟩, .slice none 0 0, .slice none 0 0, .int .i64 0] 70
  rw [hU] at HU
  replace HU := Lib.hid HU
  have P := psr_kind1 w0 _ b L s HA.out.r
  have hL := h.ok
  obtain ⟨R, hR⟩ : ∃ q, procT L s = q := ⟨_, rfl⟩
  rw [hR]
  unfold procT at hR
  simp only at hR
  obtain ⟨⟨nm, s1⟩, hq⟩ : ∃ q, nameT L s = q := ⟨_, rfl⟩
  rw [hq] at P hR
  generalize curT L s = t at *
  obtain ⟨kd, tt, q⟩ := t
  simp only at P hR
  unfold tokV at P
  simp only at P
  have HR := Lib.hid hR
  have HE := Lib.hid (fun (x : PS) (hx : x.e ≠ 0) => pF_err hL hx)
  clear h hq hR
  go_enter Tryd.func26, Tryd.ntmps26
  go_wp2_with fail
  refine P.mono ?_
  rintro e1 w1 hr
  rcases HA.out.out hr with ⟨h1, hv, X⟩ | ⟨h1, rfl, X⟩
  case inr =>
    have hf := Lib.hid ((congrArg Prod.snd HR.out).symm.trans (HE.out s1 h1).2.2.2.2.2.2.2.2)
    clear hr P
    go_wp2_with fail
    rw [hf.out]
    exact ⟨rfl, X.out, .inr ⟨h1, rfl⟩⟩
  obtain rfl : e1 = _ := hv
  clear hr P
  have hz1 := (HU.out.keep X.out.2).z
  have hul := HU.out.lt
  have hx1 := X.out.2.size
  have X1 := X.out.1.alloc (.cells #[.int .i64 kd, .string (tx nm), .int .i64 (q : Int)] 37)
  have hT1 := heap_alloc_new w1 (.cells #[.int .i64 kd, .string (tx nm), .int .i64 (q : Int)] 37)
  have hz2 := (heap_alloc_old _ (.cells #[.int .i64 kd, .string (tx nm), .int .i64 (q : Int)] 37) (Array.getElem?_eq_some_iff.1 hz1).1).trans hz1
  have hs2 : w1.heap.size < (w1.alloc (.cells #[.int .i64 kd, .string (tx nm), .int .i64 (q : Int)] 37)).heap.size := by simp
  obtain ⟨W, hW⟩ : ∃ W, w1.alloc (.cells #[.int .i64 kd, .string (tx nm), .int .i64 (q : Int)] 37) = W := ⟨_, rfl⟩
  rw [hW] at X1 hT1 hz2 hs2
  have d1 : W.cell? ⟨w1.heap.size, 1, none⟩ = some (.string (tx nm)) := cellsN hT1 1 _ rfl
  have d2 : W.cell? ⟨w1.heap.size, 2, none⟩ = some (.int .i64 (q : Int)) := cellsN hT1 2 _ rfl
  have H0 : Hid (PcAt w0 w (W.alloc (.cells #[.string (tx nm), .slice none 0 0, .bool false, .string ⟨#[]⟩, .string ⟨#[]⟩, .slice none 0 0, .slice none 0 0, .int .i64 (q : Int)] 70)) b L W.heap.size U ⟨nm, [], false, [], [], [], [], q⟩ (.slice none 0 0) (.slice none 0 0) (.slice none 0 0) s1) := Lib.hid
    ⟨X1.alloc _, heap_alloc_new _ _, (heap_alloc_old _ _ (Array.getElem?_eq_some_iff.1 hz2).1).trans hz2, ⟨0, RowsP.nil _ _ _ _⟩, ⟨0, RowsP.nil _ _ _ _⟩, ⟨0, RowsP.nil _ _ _ _⟩, hbw, X1.c.size, by omega, by have := (Array.getElem?_eq_some_iff.1 hz2).1; omega⟩
  have hk1 : W.cell? ⟨w1.heap.size, 0, none⟩ = some (.int .i64 kd) := cellsN hT1 0 _ rfl
  clear hz1 hul hx1 X1 hT1 hz2 hs2 X HA HU
  go_upto_region 3 with fail
  generalize W.heap.size = T at *
  generalize W.alloc (.cells #[.string (tx nm), .slice none 0 0, .bool false, .string ⟨#[]⟩, .string ⟨#[]⟩, .slice none 0 0, .slice none 0 0, .int .i64 (q : Int)] 70) = W1 at *
  clear d1 d2 hk1 hW
  go_wp2_with fail
  refine (psr_expect w0 _ b L s1 [40] H0.out.st.r (by decide)).mono ?_
  obtain ⟨s2, hq⟩ : ∃ x, wantT L s1 [40] = x := ⟨_, rfl⟩
  have hR := HR.out
  rw [hq] at hR ⊢
  replace HR := Lib.hid hR
  clear hq hR
  rintro e3 w3 hr
  rcases H0.out.out hr with ⟨h3, hv, X⟩ | ⟨h3, rfl, X⟩
  case inr =>
    have hf := Lib.hid ((congrArg Prod.snd HR.out).symm.trans (HE.out s2 h3).2.2.2.2.2.2.2.1)
    clear hr
    go_wp2_with fail
    rw [hf.out]
    exact ⟨rfl, X.out, .inr ⟨h3, rfl⟩⟩
  obtain rfl : e3 = _ := hv
  have H3 := X
  clear hr H0 X
  go_wp2_with fail
  refine (clist_par w0 _ b L s2 [41] H3.out.st.r (by decide) (by decide)).mono ?_
  obtain ⟨⟨gp, s3⟩, hq⟩ : ∃ x, listT L (paramT L) s2 [41] = x := ⟨_, rfl⟩
  have hR := HR.out
  rw [hq] at hR ⊢
  replace HR := Lib.hid hR
  clear hq hR
  rintro e4 w4 hr
  rcases H3.out.out hr with ⟨h4, hv, X⟩ | ⟨h4, rfl, X⟩
  case inr =>
    have hf := Lib.hid ((congrArg Prod.snd HR.out).symm.trans (HE.out s3 h4).2.2.2.2.2.2.1)
    clear hr
    go_wp2_with fail
    rw [hf.out]
    exact ⟨rfl, X.out, .inr ⟨h4, rfl⟩⟩
  obtain ⟨ao, m, c, rfl, hn⟩ := hv
  have k1 := X.out.cell 1 _ rfl
  have f1 := X.out.free 1
  have H4 : Hid (PcAt w0 w (w4.setCell ⟨T, 1, none⟩ (.slice ao m c)) b L T U ⟨nm, gp, false, [], [], [], [], q⟩ (.slice ao m c) (.slice none 0 0) (.slice none 0 0) s3) := Lib.hid (X.out.put 1 (.slice ao m c) rfl ⟨m, hn.chg (Chg.refl [] _) (fun _ _ h => by cases h) (fun k hk => H3.out.newB hk) (fun _ _ h => h)⟩ X.out.pu X.out.pb)
  clear hr X H3 hn
  go_wp2_with fail
  refine (psr_accept w0 _ b L s3 [45, 62] H4.out.st.r (by decide)).mono ?_
  rintro e5 w5 hr
  obtain ⟨rfl, X5⟩ := hr.out1
  clear hr k1 f1
  cases hB : isT L s3 [45, 62] with
  | true =>
    rw [takeT, if_pos hB] at X5
    have hR := HR.out
    rw [hB] at hR
    simp only [if_true] at hR
    have H5 := Lib.hid (H4.out.keep X5.out.1 X5.out.2)
    have HR6 := Lib.hid hR
    clear hB X5 H4 hR HR
    go_wp2_with fail
    refine (psr_name w0 _ b L s3.go H5.out.st.r).mono ?_
    obtain ⟨⟨rn, s4⟩, hq⟩ : ∃ x, nameT L s3.go = x := ⟨_, rfl⟩
    have hR := HR6.out
    rw [hq] at hR ⊢
    have HR := Lib.hid hR
    clear hq hR HR6
    rintro e6 w6 hr
    rcases H5.out.out hr with ⟨h6, hv, X⟩ | ⟨h6, rfl, X⟩
    case inr =>
      have hf := Lib.hid ((congrArg Prod.snd HR.out).symm.trans (HE.out s4 h6).2.2.2.2.2.1)
      clear hr
      go_wp2_with fail
      rw [hf.out]
      exact ⟨rfl, X.out, .inr ⟨h6, rfl⟩⟩
    obtain rfl : e6 = _ := hv
    have k2 := X.out.cell 2 _ rfl
    have f2 := X.out.free 2
    have k3 := X.out.cell 3 _ rfl
    have f3 := X.out.free 3
    have H6 : Hid (PcAt w0 w ((w6.setCell ⟨T, 2, none⟩ (.bool true)).setCell ⟨T, 3, none⟩ (.string (tx rn))) b L T U ⟨nm, gp, true, rn, [], [], [], q⟩ (.slice ao m c) (.slice none 0 0) (.slice none 0 0) s4) := Lib.hid
      ((X.out.put (p' := ⟨nm, gp, true, [], [], [], [], q⟩) 2 (.bool true) rfl X.out.pp X.out.pu X.out.pb).put 3 (.string (tx rn)) rfl ((X.out.put (p' := ⟨nm, gp, true, [], [], [], [], q⟩) 2 (.bool true) rfl X.out.pp X.out.pu X.out.pb)).pp ((X.out.put (p' := ⟨nm, gp, true, [], [], [], [], q⟩) 2 (.bool true) rfl X.out.pp X.out.pu X.out.pb)).pu ((X.out.put (p' := ⟨nm, gp, true, [], [], [], [], q⟩) 2 (.bool true) rfl X.out.pp X.out.pu X.out.pb)).pb)
    clear hr X H5
    go_wp2_with fail
    refine (psr_expect w0 _ b L s4 kPc H6.out.st.r (by decide)).mono ?_
    obtain ⟨s5, hq⟩ : ∃ x, wantT L s4 kPc = x := ⟨_, rfl⟩
    have hR := HR.out
    rw [hq] at hR ⊢
    replace HR := Lib.hid hR
    clear hq hR
    rintro e10 w10 hr
    rcases H6.out.out hr with ⟨h10, hv, X⟩ | ⟨h10, rfl, X⟩
    case inr =>
      have hf := Lib.hid ((congrArg Prod.snd HR.out).symm.trans (HE.out s5 h10).2.2.2.2.1)
      clear hr
      go_wp2_with fail
      rw [hf.out]
      exact ⟨rfl, X.out, .inr ⟨h10, rfl⟩⟩
    obtain rfl : e10 = _ := hv
    have H10 := X
    clear hr H6 X
    go_wp2_with fail
    refine (psr_name w0 _ b L s5 H10.out.st.r).mono ?_
    obtain ⟨⟨pc, s6⟩, hq⟩ : ∃ x, nameT L s5 = x := ⟨_, rfl⟩
    have hR := HR.out
    rw [hq] at hR ⊢
    replace HR := Lib.hid hR
    clear hq hR
    rintro e11 w11 hr
    rcases H10.out.out hr with ⟨h11, hv, X⟩ | ⟨h11, rfl, X⟩
    case inr =>
      have hf := Lib.hid ((congrArg Prod.snd HR.out).symm.trans (HE.out s6 h11).2.2.2.1)
      clear hr
      go_wp2_with fail
      rw [hf.out]
      exact ⟨rfl, X.out, .inr ⟨h11, rfl⟩⟩
    obtain rfl : e11 = _ := hv
    have k4 := X.out.cell 4 _ rfl
    have f4 := X.out.free 4
    have H11 : Hid (PcAt w0 w (w11.setCell ⟨T, 4, none⟩ (.string (tx pc))) b L T U ⟨nm, gp, true, rn, pc, [], [], q⟩ (.slice ao m c) (.slice none 0 0) (.slice none 0 0) s6) := Lib.hid (X.out.put 4 (.string (tx pc)) rfl X.out.pp X.out.pu X.out.pb)
    clear hr X H10
    go_wp2_with fail
    refine (psr_expect w0 _ b L s6 kUses H11.out.st.r (by decide)).mono ?_
    obtain ⟨s7, hq⟩ : ∃ x, wantT L s6 kUses = x := ⟨_, rfl⟩
    have hR := HR.out
    rw [hq] at hR ⊢
    replace HR := Lib.hid hR
    clear hq hR
    rintro e12 w12 hr
    rcases H11.out.out hr with ⟨h12, hv, X⟩ | ⟨h12, rfl, X⟩
    case inr =>
      have hf := Lib.hid ((congrArg Prod.snd HR.out).symm.trans (HE.out s7 h12).2.2.1)
      clear hr
      go_wp2_with fail
      rw [hf.out]
      exact ⟨rfl, X.out, .inr ⟨h12, rfl⟩⟩
    obtain rfl : e12 = _ := hv
    have H12 := X
    clear hr H11 X
    clear k4 f4
    go_wp2_with fail
    refine (psr_expect w0 _ b L s7 [123] H12.out.st.r (by decide)).mono ?_
    obtain ⟨s8, hq⟩ : ∃ x, wantT L s7 [123] = x := ⟨_, rfl⟩
    have hR := HR.out
    rw [hq] at hR ⊢
    replace HR := Lib.hid hR
    clear hq hR
    rintro e13 w13 hr
    rcases H12.out.out hr with ⟨h13, hv, X⟩ | ⟨h13, rfl, X⟩
    case inr =>
      have hf := Lib.hid ((congrArg Prod.snd HR.out).symm.trans (HE.out s8 h13).2.1)
      clear hr
      go_wp2_with fail
      rw [hf.out]
      exact ⟨rfl, X.out, .inr ⟨h13, rfl⟩⟩
    obtain rfl : e13 = _ := hv
    have H13 := X
    clear hr H12 X
    go_wp2_with fail
    refine (clist_str w0 _ b L s8 [125] H13.out.st.r (by decide) (by decide)).mono ?_
    obtain ⟨⟨us, s9⟩, hq⟩ : ∃ x, listT L (nameT L) s8 [125] = x := ⟨_, rfl⟩
    have hR := HR.out
    rw [hq] at hR ⊢
    replace HR := Lib.hid hR
    clear hq hR
    rintro e14 w14 hr
    rcases H13.out.out hr with ⟨h14, hv, X⟩ | ⟨h14, rfl, X⟩
    case inr =>
      have hf := Lib.hid ((congrArg Prod.snd HR.out).symm.trans (HE.out s9 h14).1)
      clear hr
      go_wp2_with fail
      rw [hf.out]
      exact ⟨rfl, X.out, .inr ⟨h14, rfl⟩⟩
    obtain ⟨ao2, m2, c2, rfl, hn2⟩ := hv
    have k5 := X.out.cell 5 _ rfl
    have f5 := X.out.free 5
    have H14 : Hid (PcAt w0 w (w14.setCell ⟨T, 5, none⟩ (.slice ao2 m2 c2)) b L T U ⟨nm, gp, true, rn, pc, us, [], q⟩ (.slice ao m c) (.slice ao2 m2 c2) (.slice none 0 0) s9) := Lib.hid (X.out.put 5 (.slice ao2 m2 c2) rfl X.out.pp ⟨m2, hn2.chg (Chg.refl [] _) (fun _ _ h => by cases h) (fun k hk => H13.out.newB hk) (fun _ _ h => h)⟩ X.out.pb)
    clear hr X H13 hn2
    go_wp2_with fail
    refine (psr_block w0 _ b L s9 H14.out.st.r).mono ?_
    obtain ⟨⟨bd, s10⟩, hq⟩ : ∃ x, blockN L s9 = x := ⟨_, rfl⟩
    have hR := HR.out
    rw [hq] at hR ⊢
    replace HR := Lib.hid hR
    clear hq hR
    rintro e15 w15 hr
    rcases H14.out.out hr with ⟨h15, hv, X⟩ | ⟨h15, rfl, X⟩
    case inr =>
      have hf := Lib.hid ((congrArg Prod.snd HR.out).symm)
      clear hr
      go_wp2_with fail
      rw [hf.out]
      exact ⟨rfl, X.out, .inr ⟨h15, rfl⟩⟩
    obtain ⟨ao3, m3, c3, rfl, hn3⟩ := hv
    have k6 := X.out.cell 6 _ rfl
    have f6 := X.out.free 6
    have H15 : Hid (PcAt w0 w (w15.setCell ⟨T, 6, none⟩ (.slice ao3 m3 c3)) b L T U ⟨nm, gp, true, rn, pc, us, bd, q⟩ (.slice ao m c) (.slice ao2 m2 c2) (.slice ao3 m3 c3) s10) := Lib.hid (X.out.put 6 (.slice ao3 m3 c3) rfl X.out.pp X.out.pu ⟨m3, StmsP.chg (P := NewW _ _) hn3 (Chg.refl [] _) (fun _ _ h => by cases h) (fun k hk => H14.out.newB hk)⟩)
    clear hr X H14 hn3 k5 f5
    go_wp2_with (first | (refine wpList_load_row rfl 70 (.tmp 4) rfl T rfl _ _ _ _ H15.out.sb Tryd.underlying70 rfl (prc_info _ _ _ _) ?_) | (refine wpList_store_row rfl 70 (.tmp 2) (.tmp 42) rfl U _ rfl rfl _ _ H15.out.z (prc_info _ _ _ _) rfl H15.out.ones ?_))
    try simp only [Exit.inBlock, Exit.then]
    refine bodyPost_ret (results_cell_row rfl _ _ U _ _ _ _ rfl (setRow_heap _ U _ _ _ _ H15.out.z) Tryd.underlying70 rfl (prc_info _ _ _ _)) rfl ?_
    rw [← HR.out]
    exact ⟨H15.out.told.2.1, .inl ⟨h15, H15.out.told.1, _, _, _, rfl, H15.out.told.2.2⟩⟩
  | false =>
    rw [takeT, hB, if_neg (by simp)] at X5
    have hR := HR.out
    rw [hB] at hR
    simp only [Bool.false_eq_true, if_false] at hR
    have H6 := Lib.hid (H4.out.keep X5.out.1 X5.out.2)
    replace HR := Lib.hid hR
    clear hB X5 H4 hR
    go_wp2_with fail
    refine (psr_expect w0 _ b L s3 kPc H6.out.st.r (by decide)).mono ?_
    obtain ⟨s5, hq⟩ : ∃ x, wantT L s3 kPc = x := ⟨_, rfl⟩
    have hR := HR.out
    rw [hq] at hR ⊢
    replace HR := Lib.hid hR
    clear hq hR
    rintro e10 w10 hr
    rcases H6.out.out hr with ⟨h10, hv, X⟩ | ⟨h10, rfl, X⟩
    case inr =>
      have hf := Lib.hid ((congrArg Prod.snd HR.out).symm.trans (HE.out s5 h10).2.2.2.2.1)
      clear hr
      go_wp2_with fail
      rw [hf.out]
      exact ⟨rfl, X.out, .inr ⟨h10, rfl⟩⟩
    obtain rfl : e10 = _ := hv
    have H10 := X
    clear hr H6 X
    go_wp2_with fail
    refine (psr_name w0 _ b L s5 H10.out.st.r).mono ?_
    obtain ⟨⟨pc, s6⟩, hq⟩ : ∃ x, nameT L s5 = x := ⟨_, rfl⟩
    have hR := HR.out
    rw [hq] at hR ⊢
    replace HR := Lib.hid hR
    clear hq hR
    rintro e11 w11 hr
    rcases H10.out.out hr with ⟨h11, hv, X⟩ | ⟨h11, rfl, X⟩
    case inr =>
      have hf := Lib.hid ((congrArg Prod.snd HR.out).symm.trans (HE.out s6 h11).2.2.2.1)
      clear hr
      go_wp2_with fail
      rw [hf.out]
      exact ⟨rfl, X.out, .inr ⟨h11, rfl⟩⟩
    obtain rfl : e11 = _ := hv
    have k4 := X.out.cell 4 _ rfl
    have f4 := X.out.free 4
    have H11 : Hid (PcAt w0 w (w11.setCell ⟨T, 4, none⟩ (.string (tx pc))) b L T U ⟨nm, gp, false, [], pc, [], [], q⟩ (.slice ao m c) (.slice none 0 0) (.slice none 0 0) s6) := Lib.hid (X.out.put 4 (.string (tx pc)) rfl X.out.pp X.out.pu X.out.pb)
    clear hr X H10
    go_wp2_with fail
    refine (psr_expect w0 _ b L s6 kUses H11.out.st.r (by decide)).mono ?_
    obtain ⟨s7, hq⟩ : ∃ x, wantT L s6 kUses = x := ⟨_, rfl⟩
    have hR := HR.out
    rw [hq] at hR ⊢
    replace HR := Lib.hid hR
    clear hq hR
    rintro e12 w12 hr
    rcases H11.out.out hr with ⟨h12, hv, X⟩ | ⟨h12, rfl, X⟩
    case inr =>
      have hf := Lib.hid ((congrArg Prod.snd HR.out).symm.trans (HE.out s7 h12).2.2.1)
      clear hr
      go_wp2_with fail
      rw [hf.out]
      exact ⟨rfl, X.out, .inr ⟨h12, rfl⟩⟩
    obtain rfl : e12 = _ := hv
    have H12 := X
    clear hr H11 X
    clear k4 f4
    go_wp2_with fail
    refine (psr_expect w0 _ b L s7 [123] H12.out.st.r (by decide)).mono ?_
    obtain ⟨s8, hq⟩ : ∃ x, wantT L s7 [123] = x := ⟨_, rfl⟩
    have hR := HR.out
    rw [hq] at hR ⊢
    replace HR := Lib.hid hR
    clear hq hR
    rintro e13 w13 hr
    rcases H12.out.out hr with ⟨h13, hv, X⟩ | ⟨h13, rfl, X⟩
    case inr =>
      have hf := Lib.hid ((congrArg Prod.snd HR.out).symm.trans (HE.out s8 h13).2.1)
      clear hr
      go_wp2_with fail
      rw [hf.out]
      exact ⟨rfl, X.out, .inr ⟨h13, rfl⟩⟩
    obtain rfl : e13 = _ := hv
    have H13 := X
    clear hr H12 X
    go_wp2_with fail
    refine (clist_str w0 _ b L s8 [125] H13.out.st.r (by decide) (by decide)).mono ?_
    obtain ⟨⟨us, s9⟩, hq⟩ : ∃ x, listT L (nameT L) s8 [125] = x := ⟨_, rfl⟩
    have hR := HR.out
    rw [hq] at hR ⊢
    replace HR := Lib.hid hR
    clear hq hR
    rintro e14 w14 hr
    rcases H13.out.out hr with ⟨h14, hv, X⟩ | ⟨h14, rfl, X⟩
    case inr =>
      have hf := Lib.hid ((congrArg Prod.snd HR.out).symm.trans (HE.out s9 h14).1)
      clear hr
      go_wp2_with fail
      rw [hf.out]
      exact ⟨rfl, X.out, .inr ⟨h14, rfl⟩⟩
    obtain ⟨ao2, m2, c2, rfl, hn2⟩ := hv
    have k5 := X.out.cell 5 _ rfl
    have f5 := X.out.free 5
    have H14 : Hid (PcAt w0 w (w14.setCell ⟨T, 5, none⟩ (.slice ao2 m2 c2)) b L T U ⟨nm, gp, false, [], pc, us, [], q⟩ (.slice ao m c) (.slice ao2 m2 c2) (.slice none 0 0) s9) := Lib.hid (X.out.put 5 (.slice ao2 m2 c2) rfl X.out.pp ⟨m2, hn2.chg (Chg.refl [] _) (fun _ _ h => by cases h) (fun k hk => H13.out.newB hk) (fun _ _ h => h)⟩ X.out.pb)
    clear hr X H13 hn2
    go_wp2_with fail
    refine (psr_block w0 _ b L s9 H14.out.st.r).mono ?_
    obtain ⟨⟨bd, s10⟩, hq⟩ : ∃ x, blockN L s9 = x := ⟨_, rfl⟩
    have hR := HR.out
    rw [hq] at hR ⊢
    replace HR := Lib.hid hR
    clear hq hR
    rintro e15 w15 hr
    rcases H14.out.out hr with ⟨h15, hv, X⟩ | ⟨h15, rfl, X⟩
    case inr =>
      have hf := Lib.hid ((congrArg Prod.snd HR.out).symm)
      clear hr
      go_wp2_with fail
      rw [hf.out]
      exact ⟨rfl, X.out, .inr ⟨h15, rfl⟩⟩
    obtain ⟨ao3, m3, c3, rfl, hn3⟩ := hv
    have k6 := X.out.cell 6 _ rfl
    have f6 := X.out.free 6
    have H15 : Hid (PcAt w0 w (w15.setCell ⟨T, 6, none⟩ (.slice ao3 m3 c3)) b L T U ⟨nm, gp, false, [], pc, us, bd, q⟩ (.slice ao m c) (.slice ao2 m2 c2) (.slice ao3 m3 c3) s10) := Lib.hid (X.out.put 6 (.slice ao3 m3 c3) rfl X.out.pp X.out.pu ⟨m3, StmsP.chg (P := NewW _ _) hn3 (Chg.refl [] _) (fun _ _ h => by cases h) (fun k hk => H14.out.newB hk)⟩)
    clear hr X H14 hn3 k5 f5
    go_wp2_with (first | (refine wpList_load_row rfl 70 (.tmp 4) rfl T rfl _ _ _ _ H15.out.sb Tryd.underlying70 rfl (prc_info _ _ _ _) ?_) | (refine wpList_store_row rfl 70 (.tmp 2) (.tmp 42) rfl U _ rfl rfl _ _ H15.out.z (prc_info _ _ _ _) rfl H15.out.ones ?_))
    try simp only [Exit.inBlock, Exit.then]
    refine bodyPost_ret (results_cell_row rfl _ _ U _ _ _ _ rfl (setRow_heap _ U _ _ _ _ H15.out.z) Tryd.underlying70 rfl (prc_info _ _ _ _)) rfl ?_
    rw [← HR.out]
    exact ⟨H15.out.told.2.1, .inl ⟨h15, H15.out.told.1, _, _, _, rfl, H15.out.told.2.2⟩⟩

end Go.Proofs.YtfcfbdemfbkgmaaDoor
