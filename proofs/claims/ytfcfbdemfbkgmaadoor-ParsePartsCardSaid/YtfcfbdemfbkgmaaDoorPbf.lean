/- The reference's block, over stmt. Numbers and types by name. -/
import Derived.Test.YtfcfbdemfbkgmaaDoorPbc
import Derived.Test.YtfcfbdemfbkgmaaDoorTre
/- A statement under way: its block, and what stays of it. Numbers and types by name. -/
namespace Go.Proofs.YtfcfbdemfbkgmaaDoor
open Go.RowKit Go.Lib
set_option maxRecDepth 100000

/-- A statement's own block. -/
def SBlk (w : World) (T : Nat) (h : SH) (vE vA vB vC : Value) : Prop := w.heap[T]? = some (.cells (stmHead h vE vA vB vC).toArray 88 (0, 0))
theorem SBlk.cell {w : World} {T : Nat} {h : SH} {vE vA vB vC : Value} (hs : SBlk w T h vE vA vB vC) (j : Nat) (v : Value) (hj : (stmHead h vE vA vB vC)[j]? = some v) : w.cell? ⟨T, j, none⟩ = some v :=
  cellsN hs j v (by rw [List.getElem?_toArray]; exact hj)
theorem SBlk.free {w : World} {T : Nat} {h : SH} {vE vA vB vC : Value} (hs : SBlk w T h vE vA vB vC) (j : Nat) : w.frozen? ⟨T, j, none⟩ = false := by
  simp only [World.frozen?, SBlk] at *
  rw [hs]
  simp
theorem SBlk.set {w : World} {T : Nat} {h h' : SH} {vE vA vB vC vE' vA' vB' vC' : Value} (hs : SBlk w T h vE vA vB vC) (j : Nat) (v : Value) (e : (stmHead h vE vA vB vC).toArray.setIfInBounds j v = (stmHead h' vE' vA' vB' vC').toArray) : SBlk (w.setCell ⟨T, j, none⟩ v) T h' vE' vA' vB' vC' := by
  unfold SBlk
  rw [heap_set hs, e]
theorem SBlk.chg {w w' : World} {T : Nat} {h : SH} {vE vA vB vC : Value} {F : List Nat} (hs : SBlk w T h vE vA vB vC) (hc : Chg F w w') (hT : T ∉ F) : SBlk w' T h vE vA vB vC :=
  (hc.block T (Array.getElem?_eq_some_iff.1 hs).1 hT).trans hs
theorem SBlk.lt {w : World} {T : Nat} {h : SH} {vE vA vB vC : Value} (hs : SBlk w T h vE vA vB vC) : T < w.heap.size := (Array.getElem?_eq_some_iff.1 hs).1

/-- New blocks but two. -/
def NewB (w wr : World) (T U : Nat) (k : Nat) : Prop := w.heap.size ≤ k ∧ k < wr.heap.size ∧ k ≠ T ∧ k ≠ U
theorem NewB.mono {w wr w1 : World} {T U k : Nat} (h : NewB w wr T U k) (hs : wr.heap.size ≤ w1.heap.size) : NewB w w1 T U k := ⟨h.1, Nat.lt_of_lt_of_le h.2.1 hs, h.2.2⟩
/-- A statement under way: the reader, its own block, the block of the result, its parts. -/
structure StAt (w0 w wr : World) (b n : Nat) (vl : Value) (L : List Tk) (T U : Nat) (h : SH) (vE vA vB vC : Value) (body els : List Stm) (s : PS) : Prop where
  r : Rdr w0 wr b n vl L s
  c : Chg [b] w wr
  s : SBlk wr T h vE vA vB vC
  z : SBlk wr U (sh0 0) (.slice none 0 0) (.slice none 0 0) (.slice none 0 0) (.slice none 0 0)
  e : ∃ nE, NodesP wr (NewB w wr T U) vE nE h.e
  a : ∃ nA, ArgsP wr (NewB w wr T U) vA nA h.args
  bo : ∃ nB, StmsP wr (NewB w wr T U) vB nB body
  el : ∃ nC, StmsP wr (NewB w wr T U) vC nC els
  bT : b < T
  bU : b < U
  tu : T ≠ U
  wT : w.heap.size ≤ T
  wU : w.heap.size ≤ U
theorem StAt.keep {w0 w wr w1 : World} {b n : Nat} {vl : Value} {L : List Tk} {T U : Nat} {h : SH} {vE vA vB vC : Value} {body els : List Stm} {s s1 : PS} (H : StAt w0 w wr b n vl L T U h vE vA vB vC body els s) (hr : Rdr w0 w1 b n vl L s1) (hc : Chg [b] wr w1) (hbw : b < w.heap.size) : StAt w0 w w1 b n vl L T U h vE vA vB vC body els s1 := by
  have hP : ∀ k, NewB w wr T U k → k ∉ [b] := fun k hk hm => by
    simp only [List.mem_singleton] at hm
    have := hk.1
    omega
  have hQ : ∀ k, NewB w wr T U k → NewB w w1 T U k := fun k hk => hk.mono hc.size
  obtain ⟨nE, he⟩ := H.e
  obtain ⟨nA, ha⟩ := H.a
  obtain ⟨nB, hb⟩ := H.bo
  obtain ⟨nC, hl⟩ := H.el
  exact ⟨hr, H.c.trans hc, H.s.chg hc (by simp only [List.mem_singleton]; have := H.bT; omega), H.z.chg hc (by simp only [List.mem_singleton]; have := H.bU; omega), ⟨nE, he.chg hc hP hQ⟩, ⟨nA, ha.chg hc hP hQ⟩, ⟨nB, hb.chg hc hP hQ⟩, ⟨nC, hl.chg hc hP hQ⟩, H.bT, H.bU, H.tu, H.wT, H.wU⟩
/-- A field of the statement's own block is written. -/
theorem StAt.put {w0 w wr : World} {b n : Nat} {vl : Value} {L : List Tk} {T U : Nat} {h h' : SH} {vE vA vB vC vE' vA' vB' vC' : Value} {body els body' els' : List Stm} {s : PS} (H : StAt w0 w wr b n vl L T U h vE vA vB vC body els s) (j : Nat) (v : Value) (e : (stmHead h vE vA vB vC).toArray.setIfInBounds j v = (stmHead h' vE' vA' vB' vC').toArray)
    (he : ∃ nE, NodesP wr (NewB w wr T U) vE' nE h'.e) (ha : ∃ nA, ArgsP wr (NewB w wr T U) vA' nA h'.args) (hb : ∃ nB, StmsP wr (NewB w wr T U) vB' nB body') (hl : ∃ nC, StmsP wr (NewB w wr T U) vC' nC els') :
    StAt w0 w (wr.setCell ⟨T, j, none⟩ v) b n vl L T U h' vE' vA' vB' vC' body' els' s := by
  have hc : Chg [T] wr (wr.setCell ⟨T, j, none⟩ v) := (Chg.refl [T] wr).set (.inl (by simp)) j v
  have hP : ∀ k, NewB w wr T U k → k ∉ [T] := fun k hk hm => hk.2.2.1 (by simpa using hm)
  have hQ : ∀ k, NewB w wr T U k → NewB w (wr.setCell ⟨T, j, none⟩ v) T U k := fun k hk => hk.mono hc.size
  obtain ⟨nE, he⟩ := he
  obtain ⟨nA, ha⟩ := ha
  obtain ⟨nB, hb⟩ := hb
  obtain ⟨nC, hl⟩ := hl
  have hbT := H.bT
  exact ⟨H.r.chg hc (fun x hx => by simp only [List.mem_singleton] at hx; omega) (H.r.r.chg hc (by simp only [List.mem_singleton]; omega)) H.r.lt H.r.deep, H.c.trans' hc (fun x hx => by simp only [List.mem_singleton] at hx; subst hx; exact .inr H.wT), H.s.set j v e, H.z.chg hc (by simp only [List.mem_singleton]; exact fun h => H.tu h.symm), ⟨nE, he.chg hc hP hQ⟩, ⟨nA, ha.chg hc hP hQ⟩, ⟨nB, hb.chg hc hP hQ⟩, ⟨nC, hl.chg hc hP hQ⟩, hbT, H.bU, H.tu, H.wT, H.wU⟩
theorem StAt.field {w0 w wr : World} {b n : Nat} {vl : Value} {L : List Tk} {T U : Nat} {h : SH} {vE vA vB vC : Value} {body els : List Stm} {s : PS} (H : StAt w0 w wr b n vl L T U h vE vA vB vC body els s) (j : Nat) (v : Value) (h' : SH) (e : (stmHead h vE vA vB vC).toArray.setIfInBounds j v = (stmHead h' vE vA vB vC).toArray) (he : h'.e = h.e) (ha : h'.args = h.args) :
    StAt w0 w (wr.setCell ⟨T, j, none⟩ v) b n vl L T U h' vE vA vB vC body els s := H.put j v e (by rw [he]; exact H.e) (by rw [ha]; exact H.a) H.bo H.el
/-- What an expression told can be the statement's. -/
theorem StAt.nodes {w0 w wr w1 : World} {b n : Nat} {vl : Value} {L : List Tk} {T U : Nat} {h : SH} {vE vA vB vC : Value} {body els : List Stm} {s : PS} {ao : Option Addr} {m c : Nat} {l : List Nd} (H : StAt w0 w wr b n vl L T U h vE vA vB vC body els s) (o : OwnN w1 (b + 1) (.slice ao m c) m l) (hf : ∀ k, (Value.slice ao m c).ownBlock = some k → wr.heap.size ≤ k) (hm : m ≤ 20000) : ∃ nE, NodesP w1 (NewB w w1 T U) (.slice ao m c) nE l :=
  ⟨m, o.nodes (by omega) fun k hk => ⟨Nat.le_trans H.c.size (hf k hk), (o.2.lt k hk).2, by have := H.s.lt; have := hf k hk; omega, by have := H.z.lt; have := hf k hk; omega⟩⟩

theorem StAt.newB {w0 w wr w1 : World} {b n : Nat} {vl : Value} {L : List Tk} {T U : Nat} {h : SH} {vE vA vB vC : Value} {body els : List Stm} {s : PS} (H : StAt w0 w wr b n vl L T U h vE vA vB vC body els s) {k : Nat} (hk : wr.heap.size ≤ k ∧ k < w1.heap.size) : NewB w w1 T U k :=
  ⟨Nat.le_trans H.c.size hk.1, hk.2, by have := H.s.lt; omega, by have := H.z.lt; omega⟩
theorem StAt.stms {w0 w wr w1 : World} {b n : Nat} {vl : Value} {L : List Tk} {T U : Nat} {h : SH} {vE vA vB vC : Value} {body els : List Stm} {s : PS} {v : Value} {m : Nat} {l : List Stm} (H : StAt w0 w wr b n vl L T U h vE vA vB vC body els s) (o : StmsP w1 (fun k => wr.heap.size ≤ k ∧ k < w1.heap.size) v m l) (_ : Chg [b] wr w1) : ∃ nB, StmsP w1 (NewB w w1 T U) v nB l :=
  ⟨m, o.chg (Chg.refl [] w1) (fun _ _ h => by cases h) fun k hk => H.newB hk⟩
theorem StAt.args {w0 w wr w1 : World} {b n : Nat} {vl : Value} {L : List Tk} {T U : Nat} {h : SH} {vE vA vB vC : Value} {body els : List Stm} {s : PS} {v : Value} {m : Nat} {l : List (List Nd)} (H : StAt w0 w wr b n vl L T U h vE vA vB vC body els s) (o : ArgsP w1 (fun k => wr.heap.size ≤ k ∧ k < w1.heap.size) v m l) (_ : Chg [b] wr w1) : ∃ nA, ArgsP w1 (NewB w w1 T U) v nA l :=
  ⟨m, o.chg (Chg.refl [] w1) (fun _ _ h => by cases h) fun k hk => H.newB hk⟩
/-- The whole block is written anew. -/
theorem StAt.whole {w0 w wr : World} {b n : Nat} {vl : Value} {L : List Tk} {T U : Nat} {h : SH} {vE vA vB vC : Value} {s : PS} (H : StAt w0 w wr b n vl L T U h vE vA vB vC [] [] s) (h' : SH) (vA' : Value) (he : ∃ nE, NodesP wr (NewB w wr T U) (.slice none 0 0) nE h'.e) (ha : ∃ nA, ArgsP wr (NewB w wr T U) vA' nA h'.args) :
    StAt w0 w (wr.setRow T (stmHead h' (.slice none 0 0) vA' (.slice none 0 0) (.slice none 0 0)).toArray) b n vl L T U h' (.slice none 0 0) vA' (.slice none 0 0) (.slice none 0 0) [] [] s := by
  have hc : Chg [T] wr (wr.setRow T (stmHead h' (.slice none 0 0) vA' (.slice none 0 0) (.slice none 0 0)).toArray) := ⟨rfl, rfl, rfl, by simp, fun k _ hk => setRow_other wr T k _ (by simpa using hk)⟩
  have hP : ∀ k, NewB w wr T U k → k ∉ [T] := fun k hk hm => hk.2.2.1 (by simpa using hm)
  have hQ : ∀ k, NewB w wr T U k → NewB w (wr.setRow T (stmHead h' (.slice none 0 0) vA' (.slice none 0 0) (.slice none 0 0)).toArray) T U k := fun k hk => hk.mono hc.size
  obtain ⟨nE, he⟩ := he
  obtain ⟨nA, ha⟩ := ha
  have hbT := H.bT
  exact ⟨H.r.chg hc (fun x hx => by simp only [List.mem_singleton] at hx; omega) (H.r.r.chg hc (by simp only [List.mem_singleton]; omega)) H.r.lt H.r.deep, H.c.trans' hc (fun x hx => by simp only [List.mem_singleton] at hx; subst hx; exact .inr H.wT), setRow_heap wr T _ _ _ _ H.s, H.z.chg hc (by simp only [List.mem_singleton]; exact fun h => H.tu h.symm), ⟨nE, he.chg hc hP hQ⟩, ⟨nA, ha.chg hc hP hQ⟩, ⟨0, RowsP.nil _ _ _ _⟩, ⟨0, RowsP.nil _ _ _ _⟩, hbT, H.bU, H.tu, H.wT, H.wU⟩

/-- What a statement's reader leaves. -/
def StTold (w0 w : World) (b n : Nat) (vl : Value) (L : List Tk) (r : Stm × PS) (e : Ending) (w' : World) : Prop :=
  ∃ cs : List Value, e = .returned (.agg cs.toArray) ∧ StmV w' (fun k => w.heap.size ≤ k ∧ k < w'.heap.size) r.1 cs ∧ Rdr w0 w' b n vl L r.2 ∧ Chg [b] w w'
theorem StAt.told {w0 w wr : World} {b n : Nat} {vl : Value} {L : List Tk} {T U : Nat} {h : SH} {vE vA vB vC : Value} {body els : List Stm} {s : PS} (H : StAt w0 w wr b n vl L T U h vE vA vB vC body els s) : StTold w0 w b n vl L (.mk h body els, s) (.returned (.agg (stmHead h vE vA vB vC).toArray)) (wr.setRow U (stmHead h vE vA vB vC).toArray) := by
  have hc : Chg [U] wr (wr.setRow U (stmHead h vE vA vB vC).toArray) := ⟨rfl, rfl, rfl, by simp, fun k _ hk => setRow_other wr U k _ (by simpa using hk)⟩
  have hP : ∀ k, NewB w wr T U k → k ∉ [U] := fun k hk hm => hk.2.2.2 (by simpa using hm)
  have hQ : ∀ k, NewB w wr T U k → w.heap.size ≤ k ∧ k < (wr.setRow U (stmHead h vE vA vB vC).toArray).heap.size := fun k hk => ⟨hk.1, by simpa using hk.2.1⟩
  obtain ⟨nE, he⟩ := H.e
  obtain ⟨nA, ha⟩ := H.a
  obtain ⟨nB, hb⟩ := H.bo
  obtain ⟨nC, hl⟩ := H.el
  have hbU := H.bU
  refine ⟨_, rfl, ?_, H.r.chg hc (fun x hx => by simp only [List.mem_singleton] at hx; omega) (H.r.r.chg hc (by simp only [List.mem_singleton]; omega)) H.r.lt H.r.deep, H.c.trans' hc (fun x hx => by simp only [List.mem_singleton] at hx; subst hx; exact .inr H.wU)⟩
  rw [StmV.iff]
  exact ⟨vE, nE, vA, nA, vB, nB, vC, nC, rfl, he.chg hc hP hQ, ha.chg hc hP hQ, hb.chg hc hP hQ, hl.chg hc hP hQ⟩
theorem StAt.ones {w0 w wr : World} {b n : Nat} {vl : Value} {L : List Tk} {T U : Nat} {h : SH} {vE vA vB vC : Value} {body els : List Stm} {s : PS} (H : StAt w0 w wr b n vl L T U h vE vA vB vC body els s) : (stmHead h vE vA vB vC).toArray.all (·.oneCell') = true := by
  obtain ⟨nE, he⟩ := H.e
  obtain ⟨nA, ha⟩ := H.a
  obtain ⟨nB, hb⟩ := H.bo
  obtain ⟨nC, hl⟩ := H.el
  obtain ⟨_, _, rfl⟩ := he.shape
  obtain ⟨_, _, rfl⟩ := ha.shape
  obtain ⟨_, _, rfl⟩ := hb.shape
  obtain ⟨_, _, rfl⟩ := hl.shape
  rw [Array.all_eq_true_iff_forall_mem]
  intro v hv
  have hv' := hv
  simp only [stmHead, List.mem_toArray, List.mem_cons, List.not_mem_nil, or_false] at hv'
  rcases hv' with rfl | rfl | rfl | rfl | rfl | rfl | rfl | rfl | rfl | rfl | rfl | rfl <;> rfl
theorem stmt_info (h : SH) (vE vA vB vC : Value) : (Tryd.prog.info? 88).map (·.size) = some (stmHead h vE vA vB vC).toArray.size := by
  show _ = some 12
  kernel_rfl

end Go.Proofs.YtfcfbdemfbkgmaaDoor

/- The reference's stmt, over expr, call and block. Numbers and types by name. -/
namespace Go.Proofs.YtfcfbdemfbkgmaaDoor
open Go.RowKit Go.Lib
set_option maxRecDepth 100000

/-- What is asked of stmt, of block, of call. -/
def StK (f : FuncId) (w0 : World) (b n : Nat) (vl : Value) (L : List Tk) (N : Nat) : Prop :=
  ∀ (w : World) (s : PS), Rdr w0 w b n vl L s → Dok s → remT L s < N → Calls Tryd.prog f #[.pointer (some ⟨b, 0, none⟩)] w (StTold w0 w b n vl L (stmtT L N s))
def BlTold (w0 w : World) (b n : Nat) (vl : Value) (L : List Tk) (r : List Stm × PS) (e : Ending) (w' : World) : Prop :=
  ∃ ao m c, e = .returned (.slice ao m c) ∧ StmsP w' (fun k => w.heap.size ≤ k ∧ k < w'.heap.size) (.slice ao m c) m r.1 ∧ Rdr w0 w' b n vl L r.2 ∧ Chg [b] w w'
def BlK (f : FuncId) (w0 : World) (b n : Nat) (vl : Value) (L : List Tk) (N : Nat) : Prop :=
  ∀ (w : World) (s : PS), Rdr w0 w b n vl L s → Dok s → remT L s < N → Calls Tryd.prog f #[.pointer (some ⟨b, 0, none⟩)] w (BlTold w0 w b n vl L (blockT L (stmtT L N) N s))
def CaTold (w0 w : World) (b n : Nat) (vl : Value) (L : List Tk) (r : SH × PS) (e : Ending) (w' : World) : Prop :=
  ∃ vA nA, e = .returned (.agg (stmHead r.1 (.slice none 0 0) vA (.slice none 0 0) (.slice none 0 0)).toArray) ∧ r.1.e = [] ∧ ArgsP w' (fun k => w.heap.size ≤ k ∧ k < w'.heap.size) vA nA r.1.args ∧ Rdr w0 w' b n vl L r.2 ∧ Chg [b] w w'
def CaK (f : FuncId) (w0 : World) (b n : Nat) (vl : Value) (L : List Tk) : Prop :=
  ∀ (w : World) (s : PS) (pos : Nat), Rdr w0 w b n vl L s → Dok s → Calls Tryd.prog f #[.pointer (some ⟨b, 0, none⟩), .agg (stmHead (sh0 pos) (.slice none 0 0) (.slice none 0 0) (.slice none 0 0) (.slice none 0 0)).toArray] w (CaTold w0 w b n vl L (callT L s pos))

end Go.Proofs.YtfcfbdemfbkgmaaDoor

namespace Go.Proofs.YtfcfbdemfbkgmaaDoor
open Go.RowKit Go.Lib
set_option maxRecDepth 100000

theorem elemStm : Elem 68 88 (.agg #[.int .i64 0, .int .i64 0, .string ⟨#[]⟩, .string ⟨#[]⟩, .string ⟨#[]⟩, .bool false, .string ⟨#[]⟩, .string ⟨#[]⟩, .slice none 0 0, .slice none 0 0, .slice none 0 0, .slice none 0 0]) 12 200 := ⟨Tryd.underlying68, by kernel_rfl, by decide, by decide⟩
/-- Blocks that hold parts of a list under way: new ones, but for the list's own. -/
def NewR (w wr : World) (v : Value) (k : Nat) : Prop := w.heap.size ≤ k ∧ k < wr.heap.size ∧ v.ownBlock ≠ some k
/-- Within a block. -/
structure BlAt (w0 w wr : World) (b n : Nat) (vl : Value) (L : List Tk) (v : Value) (m : Nat) (s : PS) (l : List Stm) (R : List Stm × PS) (S : PS → Stm × PS) (q N : Nat) : Prop where
  r : Rdr w0 wr b n vl L s
  c : Chg [b] w wr
  o : ∃ cs, wr.ownsRow w.heap.size 88 12 v m cs ∧ Parts 12 (StmV wr (NewR w wr v)) l cs
  em : m = l.length
  g : stmLoop L S q s l = R
  rq : remT L s < q
  rn : remT L s < N
  pot : m + remT L s ≤ 20000
  dk : s.e = 0 → Dok s
  bw : b < w.heap.size
theorem owns_chg {w w' : World} {base e size : Nat} {v : Value} {n : Nat} {xs : List Value} {F : List Nat} (h : w.ownsRow base e size v n xs) (hc : Chg F w w') (hF : ∀ k, v.ownBlock = some k → k ∉ F) : w'.ownsRow base e size v n xs := by
  rcases h.2 with ⟨rfl, rfl⟩ | ⟨g, cap, cur, rfl, hb, hg, hr⟩
  · exact ⟨h.1, .inl ⟨rfl, rfl⟩⟩
  · exact ⟨h.1, .inr ⟨g, cap, cur, rfl, hb, (hc.block g (Array.getElem?_eq_some_iff.1 hg).1 (hF g rfl)).trans hg, hr⟩⟩
theorem BlAt.keep {w0 w wr w1 : World} {b n : Nat} {vl : Value} {L : List Tk} {v : Value} {m : Nat} {s : PS} {l : List Stm} {R : List Stm × PS} {S : PS → Stm × PS} {q N : Nat} (H : BlAt w0 w wr b n vl L v m s l R S q N) (hr : Rdr w0 w1 b n vl L s) (hc : Chg [b] wr w1) : BlAt w0 w w1 b n vl L v m s l R S q N := by
  obtain ⟨cs, h1, h2⟩ := H.o
  have hb := H.bw
  exact ⟨hr, H.c.trans hc, ⟨cs, owns_chg h1 hc (fun k hk hm => by have := (h1.lt k hk).1; simp only [List.mem_singleton] at hm; omega), h2.imp fun a c h => StmV.chg hc (fun k hk hm => by have := hk.1; simp only [List.mem_singleton] at hm; omega) (fun k hk => ⟨hk.1, Nat.lt_of_lt_of_le hk.2.1 hc.size, hk.2.2⟩) a c h⟩, H.em, H.g, H.rq, H.rn, H.pot, H.dk, hb⟩
/-- A statement is appended. -/
theorem BlAt.next {w0 w wr w5 w7 : World} {b n : Nat} {vl : Value} {L : List Tk} {v : Value} {ao7 : Option Addr} {m c7 : Nat} {s : PS} {l : List Stm} {R : List Stm × PS} {S : PS → Stm × PS} {q N : Nat} {o : Obj} {cs cn : List Value} (hL : TokL L) (hS : ∀ s, Goes L s (S s).2) (hrem : remT L (S s).2 < remT L s) (H : BlAt w0 w wr b n vl L v m s l R S q N) (he : s.e = 0) (hi : isT L s [125] = false) (h1 : wr.ownsRow w.heap.size 88 12 v m cs) (h2 : Parts 12 (StmV wr (NewR w wr v)) l cs)
    (hst : StmV w5 (fun k => wr.heap.size ≤ k ∧ k < w5.heap.size) (S s).1 cn) (r5 : Rdr w0 w5 b n vl L (S s).2) (c5 : Chg [b] wr w5)
    (h7 : w7.ownsRow w.heap.size 88 12 (.slice ao7 (m + 1) c7) (m + 1) (cs ++ cn)) (hg : (w5.alloc o).grownBy w7 v.ownBlock) (ho : (Value.slice ao7 (m + 1) c7).ownBlock = v.ownBlock ∨ (Value.slice ao7 (m + 1) c7).ownBlock = some (w5.alloc o).heap.size) :
    ∃ q', BlAt w0 w w7 b n vl L (.slice ao7 (m + 1) c7) (m + 1) (S s).2 (l ++ [(S s).1]) R S q' N := by
  have hbw := H.bw
  have c7' : Chg (rowF v) w5 w7 := ((Chg.refl (rowF v) w5).alloc o).trans' (Chg.of_grown (F := rowF v) hg (fun k hk => rowF_mem.2 hk)) fun x hx => .inl hx
  have hv : ∀ k, v.ownBlock = some k → w.heap.size ≤ k ∧ k < wr.heap.size := fun k hk => h1.lt k hk
  have hs7 : (w5.alloc o).heap.size = w5.heap.size + 1 := by simp
  have hnew : ∀ k, k < w5.heap.size → v.ownBlock ≠ some k → (Value.slice ao7 (m + 1) c7).ownBlock ≠ some k := fun k hk hne e => by
    rcases ho with ho | ho
    · exact hne (ho ▸ e)
    · rw [ho] at e
      cases e
      omega
  have f1 : Chg [b] wr w5 := c5
  have p1 : Parts 12 (StmV w7 (NewR w w7 (.slice ao7 (m + 1) c7))) (l ++ [(S s).1]) (cs ++ cn) := by
    refine Parts.snoc hst.length ?_ (h2.imp fun a c h => ?_)
    · refine StmV.chg c7' (fun k hk hm => ?_) (fun k hk => ?_) _ _ hst
      · have := (hv k (rowF_mem.1 hm)).2
        have := hk.1
        omega
      · refine ⟨Nat.le_trans H.c.size hk.1, Nat.lt_of_lt_of_le hk.2 c7'.size, hnew k hk.2 fun e => ?_⟩
        have := (hv k e).2
        have := hk.1
        omega
    · have h' := StmV.chg f1 (fun k hk hm => by have := hk.1; simp only [List.mem_singleton] at hm; omega) (Q := NewR w w5 v) (fun k hk => ⟨hk.1, Nat.lt_of_lt_of_le hk.2.1 f1.size, hk.2.2⟩) a c h
      exact StmV.chg c7' (fun k hk hm => hk.2.2 (rowF_mem.1 hm)) (fun k hk => ⟨hk.1, Nat.lt_of_lt_of_le hk.2.1 c7'.size, hnew k hk.2.1 hk.2.2⟩) a c h'
  have hq : ∃ q', q = q' + 1 := ⟨q - 1, by have := H.rq; omega⟩
  obtain ⟨q', rfl⟩ := hq
  have hgg := H.g
  unfold stmLoop at hgg
  rw [if_neg (by rw [hi]; simp [he])] at hgg
  refine ⟨q', r5.chg c7' (fun x hx => by have := (hv x (rowF_mem.1 hx)).1; omega) (r5.r.chg c7' (fun hx => by have := (hv b (rowF_mem.1 hx)).1; omega)) r5.lt r5.deep, (H.c.trans f1).trans' c7' (fun x hx => .inr (hv x (rowF_mem.1 hx)).1), ⟨_, h7, p1⟩, by rw [List.length_append, ← H.em]; rfl, hgg, by have := H.rq; omega, by have := H.rn; omega, by have := H.pot; omega, fun h => (hS s).dok (H.dk he), hbw⟩

theorem BlAt.stop {w0 w wr : World} {b n : Nat} {vl : Value} {L : List Tk} {v : Value} {m : Nat} {s : PS} {l : List Stm} {R : List Stm × PS} {S : PS → Stm × PS} {q N : Nat} (H : BlAt w0 w wr b n vl L v m s l R S q N) (h : s.e ≠ 0 ∨ isT L s [125] = true) : R = (l, s) := by
  rw [← H.g]
  have := H.rq
  cases q with
  | zero => omega
  | succ q =>
    unfold stmLoop
    rw [if_pos h]
theorem BlAt.told {w0 w wr : World} {b n : Nat} {vl : Value} {L : List Tk} {ao : Option Addr} {m c : Nat} {s s' : PS} {l : List Stm} {R : List Stm × PS} {S : PS → Stm × PS} {q N : Nat} {w1 : World} (H : BlAt w0 w wr b n vl L (.slice ao m c) m s l R S q N) (hr : Rdr w0 w1 b n vl L s') (hc : Chg [b] wr w1) : BlTold w0 w b n vl L (l, s') (.returned (.slice ao m c)) w1 := by
  obtain ⟨cs, h1, h2⟩ := H.o
  have hb := H.bw
  have h1' := owns_chg h1 hc (fun k hk hm => by have := (h1.lt k hk).1; simp only [List.mem_singleton] at hm; omega)
  refine ⟨ao, m, c, rfl, ⟨H.em, by have := H.pot; omega, fun a n' c' e => ?_, cs, Cells.own h1' (by decide), h2.imp fun a c h => StmV.chg hc (fun k hk hm => by have := hk.1; simp only [List.mem_singleton] at hm; omega) (fun k hk => ⟨hk.1, Nat.lt_of_lt_of_le hk.2.1 hc.size⟩) a c h⟩, hr, H.c.trans hc⟩
  rcases h1'.2 with ⟨e2, _⟩ | ⟨g, cap, cur, e2, hb2, hg, _⟩
  · rw [e2] at e
    cases e
  · rw [e2] at e
    simp only [Value.slice.injEq, Option.some.injEq] at e
    obtain ⟨rfl, _⟩ := e
    exact ⟨hb2, (Array.getElem?_eq_some_iff.1 hg).1⟩
end Go.Proofs.YtfcfbdemfbkgmaaDoor
