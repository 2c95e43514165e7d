/- A statement under way: its block, and what stays of it. Numbers and types by name. -/
import Derived.Test.YtlgfijjkbomejaaGreatDoorPbb
import Derived.Test.YtlgfijjkbomejaaGreatDoorQpa
/- The reference's expressions, whole. Numbers and types by name. -/
namespace Go.Proofs.YtlgfijjkbomejaaGreatDoor
open Go.RowKit Go.Lib
set_option maxRecDepth 100000

theorem unary_ok (w0 : World) (b n : Nat) (vl : Value) (L : List Tk) (hL : TokL L) : ∀ N, ExK 191 (unaryT L N) w0 b n vl L N ∧ ExK 163 (exprT L (unaryT L N) N) w0 b n vl L N := by
  have step : ∀ N, ExK 191 (unaryT L N) w0 b n vl L N → ExK 163 (exprT L (unaryT L N) N) w0 b n vl L N := fun N hU => by
    have gU := unary_goes hL N
    have pU := unary_pot hL N
    have hT : ExK 188 (termT L (unaryT L N) N) w0 b n vl L N := term_walk _ w0 b n vl L N hL gU pU hU
    have gT : ∀ s l, Goes L s (termT L (unaryT L N) N s l).2 := fun s l => opT_goes hL _ gU N s l
    have pT : PotOk L (termT L (unaryT L N) N) := opT_pot hL _ gU pU N
    have hS : ExK 180 (sumT L (unaryT L N) N) w0 b n vl L N := sum_walk _ w0 b n vl L N hL gT pT hT
    exact expr_walk _ w0 b n vl L N hL (fun s l => opT_goes hL _ gT N s l) (opT_pot hL _ gT pT N) hS
  intro N
  induction N with
  | zero => exact ⟨fun w s v m l _ _ hn => absurd hn (Nat.not_lt_zero _), fun w s v m l _ _ hn => absurd hn (Nat.not_lt_zero _)⟩
  | succ N ih =>
    have hU := unary_walk w0 b n vl L N hL ih.1 ih.2
    exact ⟨hU, step (N + 1) hU⟩

/-- What an expression from its beginning leaves: nodes in new memory. -/
def ExN (w0 w : World) (b n : Nat) (vl : Value) (L : List Tk) (r : List Nd × PS) (e : Ending) (w' : World) : Prop :=
  ∃ ao m c, e = .returned (.slice ao m c) ∧ OwnN w' (b + 1) (.slice ao m c) m r.1 ∧ Rdr w0 w' b n vl L r.2 ∧ Chg [b] w w' ∧ (∀ k, (Value.slice ao m c).ownBlock = some k → w.heap.size ≤ k) ∧ m ≤ 20000
theorem rdr_expr (w0 w : World) (b n : Nat) (vl : Value) (L : List Tk) (s : PS) (h : Rdr w0 w b n vl L s) (hd : Dok s) :
    Calls Tryz.prog 163 #[.pointer (some ⟨b, 0, none⟩), .slice none 0 0] w (ExN w0 w b n vl L (exprN L s)) := by
  have hr := rem_lt (L := L) h.lt
  have hf := h.ok.few
  have hp := expr_pot h.ok (unary_goes h.ok (L.length + 1)) (unary_pot h.ok (L.length + 1)) (L.length + 1) s [] h.lt
  refine ((unary_ok w0 b n vl L h.ok (L.length + 1)).2 w s (.slice none 0 0) 0 [] h (OwnN.nil _ _) hr (by simp only [List.length_nil]; omega) hd).mono ?_
  rintro e w' ⟨ao, m, c, rfl, h1, h2, h3, h4⟩
  refine ⟨ao, m, c, rfl, h1, h2, h3.mono (fun x hx => by simpa [rowF, Value.ownBlock] using hx), fun k hk => ?_, ?_⟩
  · rcases h4 with h4 | h4
    · rw [h4] at hk
      cases hk
    · exact h4 k hk
  · have := h1.1
    simp only [List.length_nil] at hp
    change m = (exprN L s).1.length at this
    unfold exprN at this
    omega

end Go.Proofs.YtlgfijjkbomejaaGreatDoor

namespace Go.Proofs.YtlgfijjkbomejaaGreatDoor
open Go.RowKit Go.Lib
set_option maxRecDepth 100000

/-- A statement's own block. -/
def SBlk (w : World) (T : Nat) (h : SH) (vE vA vB vC : Value) : Prop := w.heap[T]? = some (.cells (stmHead h vE vA vB vC).toArray 63 (0, 0))
theorem SBlk.cell {w : World} {T : Nat} {h : SH} {vE vA vB vC : Value} (hs : SBlk w T h vE vA vB vC) (j : Nat) (v : Value) (hj : (stmHead h vE vA vB vC)[j]? = some v) : w.cell? ⟨T, j, none⟩ = some v :=
  cellsN hs j v (by rw [List.getElem?_toArray]; exact hj)
theorem SBlk.free {w : World} {T : Nat} {h : SH} {vE vA vB vC : Value} (hs : SBlk w T h vE vA vB vC) (j : Nat) : w.frozen? ⟨T, j, none⟩ = false := by
  simp only [World.frozen?, SBlk] at *
  rw [hs]
  simp
theorem SBlk.set {w : World} {T : Nat} {h h' : SH} {vE vA vB vC vE' vA' vB' vC' : Value} (hs : SBlk w T h vE vA vB vC) (j : Nat) (v : Value) (e : (stmHead h vE vA vB vC).toArray.setIfInBounds j v = (stmHead h' vE' vA' vB' vC').toArray) : SBlk (w.setCell ⟨T, j, none⟩ v) T h' vE' vA' vB' vC' := by
  unfold SBlk
  rw [heap_set hs, e]
theorem SBlk.chg {w w' : World} {T : Nat} {h : SH} {vE vA vB vC : Value} {F : List Nat} (hs : SBlk w T h vE vA vB vC) (hc : Chg F w w') (hT : T ∉ F) : SBlk w' T h vE vA vB vC :=
  (hc.block T (Array.getElem?_eq_some_iff.1 hs).1 hT).trans hs
theorem SBlk.lt {w : World} {T : Nat} {h : SH} {vE vA vB vC : Value} (hs : SBlk w T h vE vA vB vC) : T < w.heap.size := (Array.getElem?_eq_some_iff.1 hs).1

/-- New blocks but two. -/
def NewB (w wr : World) (T U : Nat) (k : Nat) : Prop := w.heap.size ≤ k ∧ k < wr.heap.size ∧ k ≠ T ∧ k ≠ U
theorem NewB.mono {w wr w1 : World} {T U k : Nat} (h : NewB w wr T U k) (hs : wr.heap.size ≤ w1.heap.size) : NewB w w1 T U k := ⟨h.1, Nat.lt_of_lt_of_le h.2.1 hs, h.2.2⟩
/-- A statement under way: the reader, its own block, the block of the result, its parts. -/
structure StAt (w0 w wr : World) (b n : Nat) (vl : Value) (L : List Tk) (T U : Nat) (h : SH) (vE vA vB vC : Value) (body els : List Stm) (s : PS) : Prop where
  r : Rdr w0 wr b n vl L s
  c : Chg [b] w wr
  s : SBlk wr T h vE vA vB vC
  z : SBlk wr U (sh0 0) (.slice none 0 0) (.slice none 0 0) (.slice none 0 0) (.slice none 0 0)
  e : ∃ nE, NodesP wr (NewB w wr T U) vE nE h.e
  a : ∃ nA, ArgsP wr (NewB w wr T U) vA nA h.args
  bo : ∃ nB, StmsP wr (NewB w wr T U) vB nB body
  el : ∃ nC, StmsP wr (NewB w wr T U) vC nC els
  bT : b < T
  bU : b < U
  tu : T ≠ U
  wT : w.heap.size ≤ T
  wU : w.heap.size ≤ U
theorem StAt.keep {w0 w wr w1 : World} {b n : Nat} {vl : Value} {L : List Tk} {T U : Nat} {h : SH} {vE vA vB vC : Value} {body els : List Stm} {s s1 : PS} (H : StAt w0 w wr b n vl L T U h vE vA vB vC body els s) (hr : Rdr w0 w1 b n vl L s1) (hc : Chg [b] wr w1) (hbw : b < w.heap.size) : StAt w0 w w1 b n vl L T U h vE vA vB vC body els s1 := by
  have hP : ∀ k, NewB w wr T U k → k ∉ [b] := fun k hk hm => by
    simp only [List.mem_singleton] at hm
    have := hk.1
    omega
  have hQ : ∀ k, NewB w wr T U k → NewB w w1 T U k := fun k hk => hk.mono hc.size
  obtain ⟨nE, he⟩ := H.e
  obtain ⟨nA, ha⟩ := H.a
  obtain ⟨nB, hb⟩ := H.bo
  obtain ⟨nC, hl⟩ := H.el
  exact ⟨hr, H.c.trans hc, H.s.chg hc (by simp only [List.mem_singleton]; have := H.bT; omega), H.z.chg hc (by simp only [List.mem_singleton]; have := H.bU; omega), ⟨nE, he.chg hc hP hQ⟩, ⟨nA, ha.chg hc hP hQ⟩, ⟨nB, hb.chg hc hP hQ⟩, ⟨nC, hl.chg hc hP hQ⟩, H.bT, H.bU, H.tu, H.wT, H.wU⟩
/-- A field of the statement's own block is written. -/
theorem StAt.put {w0 w wr : World} {b n : Nat} {vl : Value} {L : List Tk} {T U : Nat} {h h' : SH} {vE vA vB vC vE' vA' vB' vC' : Value} {body els body' els' : List Stm} {s : PS} (H : StAt w0 w wr b n vl L T U h vE vA vB vC body els s) (j : Nat) (v : Value) (e : (stmHead h vE vA vB vC).toArray.setIfInBounds j v = (stmHead h' vE' vA' vB' vC').toArray)
    (he : ∃ nE, NodesP wr (NewB w wr T U) vE' nE h'.e) (ha : ∃ nA, ArgsP wr (NewB w wr T U) vA' nA h'.args) (hb : ∃ nB, StmsP wr (NewB w wr T U) vB' nB body') (hl : ∃ nC, StmsP wr (NewB w wr T U) vC' nC els') :
    StAt w0 w (wr.setCell ⟨T, j, none⟩ v) b n vl L T U h' vE' vA' vB' vC' body' els' s := by
  have hc : Chg [T] wr (wr.setCell ⟨T, j, none⟩ v) := (Chg.refl [T] wr).set (.inl (by simp)) j v
  have hP : ∀ k, NewB w wr T U k → k ∉ [T] := fun k hk hm => hk.2.2.1 (by simpa using hm)
  have hQ : ∀ k, NewB w wr T U k → NewB w (wr.setCell ⟨T, j, none⟩ v) T U k := fun k hk => hk.mono hc.size
  obtain ⟨nE, he⟩ := he
  obtain ⟨nA, ha⟩ := ha
  obtain ⟨nB, hb⟩ := hb
  obtain ⟨nC, hl⟩ := hl
  have hbT := H.bT
  exact ⟨H.r.chg hc (fun x hx => by simp only [List.mem_singleton] at hx; omega) (H.r.r.chg hc (by simp only [List.mem_singleton]; omega)) H.r.lt H.r.deep, H.c.trans' hc (fun x hx => by simp only [List.mem_singleton] at hx; subst hx; exact .inr H.wT), H.s.set j v e, H.z.chg hc (by simp only [List.mem_singleton]; exact fun h => H.tu h.symm), ⟨nE, he.chg hc hP hQ⟩, ⟨nA, ha.chg hc hP hQ⟩, ⟨nB, hb.chg hc hP hQ⟩, ⟨nC, hl.chg hc hP hQ⟩, hbT, H.bU, H.tu, H.wT, H.wU⟩
theorem StAt.field {w0 w wr : World} {b n : Nat} {vl : Value} {L : List Tk} {T U : Nat} {h : SH} {vE vA vB vC : Value} {body els : List Stm} {s : PS} (H : StAt w0 w wr b n vl L T U h vE vA vB vC body els s) (j : Nat) (v : Value) (h' : SH) (e : (stmHead h vE vA vB vC).toArray.setIfInBounds j v = (stmHead h' vE vA vB vC).toArray) (he : h'.e = h.e) (ha : h'.args = h.args) :
    StAt w0 w (wr.setCell ⟨T, j, none⟩ v) b n vl L T U h' vE vA vB vC body els s := H.put j v e (by rw [he]; exact H.e) (by rw [ha]; exact H.a) H.bo H.el
/-- What an expression told can be the statement's. -/
theorem StAt.nodes {w0 w wr w1 : World} {b n : Nat} {vl : Value} {L : List Tk} {T U : Nat} {h : SH} {vE vA vB vC : Value} {body els : List Stm} {s : PS} {ao : Option Addr} {m c : Nat} {l : List Nd} (H : StAt w0 w wr b n vl L T U h vE vA vB vC body els s) (o : OwnN w1 (b + 1) (.slice ao m c) m l) (hf : ∀ k, (Value.slice ao m c).ownBlock = some k → wr.heap.size ≤ k) (hm : m ≤ 20000) : ∃ nE, NodesP w1 (NewB w w1 T U) (.slice ao m c) nE l :=
  ⟨m, o.nodes (by omega) fun k hk => ⟨Nat.le_trans H.c.size (hf k hk), (o.2.lt k hk).2, by have := H.s.lt; have := hf k hk; omega, by have := H.z.lt; have := hf k hk; omega⟩⟩

theorem StAt.newB {w0 w wr w1 : World} {b n : Nat} {vl : Value} {L : List Tk} {T U : Nat} {h : SH} {vE vA vB vC : Value} {body els : List Stm} {s : PS} (H : StAt w0 w wr b n vl L T U h vE vA vB vC body els s) {k : Nat} (hk : wr.heap.size ≤ k ∧ k < w1.heap.size) : NewB w w1 T U k :=
  ⟨Nat.le_trans H.c.size hk.1, hk.2, by have := H.s.lt; omega, by have := H.z.lt; omega⟩
theorem StAt.stms {w0 w wr w1 : World} {b n : Nat} {vl : Value} {L : List Tk} {T U : Nat} {h : SH} {vE vA vB vC : Value} {body els : List Stm} {s : PS} {v : Value} {m : Nat} {l : List Stm} (H : StAt w0 w wr b n vl L T U h vE vA vB vC body els s) (o : StmsP w1 (fun k => wr.heap.size ≤ k ∧ k < w1.heap.size) v m l) (_ : Chg [b] wr w1) : ∃ nB, StmsP w1 (NewB w w1 T U) v nB l :=
  ⟨m, o.chg (Chg.refl [] w1) (fun _ _ h => by cases h) fun k hk => H.newB hk⟩
theorem StAt.args {w0 w wr w1 : World} {b n : Nat} {vl : Value} {L : List Tk} {T U : Nat} {h : SH} {vE vA vB vC : Value} {body els : List Stm} {s : PS} {v : Value} {m : Nat} {l : List (List Nd)} (H : StAt w0 w wr b n vl L T U h vE vA vB vC body els s) (o : ArgsP w1 (fun k => wr.heap.size ≤ k ∧ k < w1.heap.size) v m l) (_ : Chg [b] wr w1) : ∃ nA, ArgsP w1 (NewB w w1 T U) v nA l :=
  ⟨m, o.chg (Chg.refl [] w1) (fun _ _ h => by cases h) fun k hk => H.newB hk⟩
/-- The whole block is written anew. -/
theorem StAt.whole {w0 w wr : World} {b n : Nat} {vl : Value} {L : List Tk} {T U : Nat} {h : SH} {vE vA vB vC : Value} {s : PS} (H : StAt w0 w wr b n vl L T U h vE vA vB vC [] [] s) (h' : SH) (vA' : Value) (he : ∃ nE, NodesP wr (NewB w wr T U) (.slice none 0 0) nE h'.e) (ha : ∃ nA, ArgsP wr (NewB w wr T U) vA' nA h'.args) :
    StAt w0 w (wr.setRow T (stmHead h' (.slice none 0 0) vA' (.slice none 0 0) (.slice none 0 0)).toArray) b n vl L T U h' (.slice none 0 0) vA' (.slice none 0 0) (.slice none 0 0) [] [] s := by
  have hc : Chg [T] wr (wr.setRow T (stmHead h' (.slice none 0 0) vA' (.slice none 0 0) (.slice none 0 0)).toArray) := ⟨rfl, rfl, rfl, by simp, fun k _ hk => setRow_other wr T k _ (by simpa using hk)⟩
  have hP : ∀ k, NewB w wr T U k → k ∉ [T] := fun k hk hm => hk.2.2.1 (by simpa using hm)
  have hQ : ∀ k, NewB w wr T U k → NewB w (wr.setRow T (stmHead h' (.slice none 0 0) vA' (.slice none 0 0) (.slice none 0 0)).toArray) T U k := fun k hk => hk.mono hc.size
  obtain ⟨nE, he⟩ := he
  obtain ⟨nA, ha⟩ := ha
  have hbT := H.bT
  exact ⟨H.r.chg hc (fun x hx => by simp only [List.mem_singleton] at hx; omega) (H.r.r.chg hc (by simp only [List.mem_singleton]; omega)) H.r.lt H.r.deep, H.c.trans' hc (fun x hx => by simp only [List.mem_singleton] at hx; subst hx; exact .inr H.wT), setRow_heap wr T _ _ _ _ H.s, H.z.chg hc (by simp only [List.mem_singleton]; exact fun h => H.tu h.symm), ⟨nE, he.chg hc hP hQ⟩, ⟨nA, ha.chg hc hP hQ⟩, ⟨0, RowsP.nil _ _ _ _⟩, ⟨0, RowsP.nil _ _ _ _⟩, hbT, H.bU, H.tu, H.wT, H.wU⟩

/-- What a statement's reader leaves. -/
def StTold (w0 w : World) (b n : Nat) (vl : Value) (L : List Tk) (r : Stm × PS) (e : Ending) (w' : World) : Prop :=
  ∃ cs : List Value, e = .returned (.agg cs.toArray) ∧ StmV w' (fun k => w.heap.size ≤ k ∧ k < w'.heap.size) r.1 cs ∧ Rdr w0 w' b n vl L r.2 ∧ Chg [b] w w'
theorem StAt.told {w0 w wr : World} {b n : Nat} {vl : Value} {L : List Tk} {T U : Nat} {h : SH} {vE vA vB vC : Value} {body els : List Stm} {s : PS} (H : StAt w0 w wr b n vl L T U h vE vA vB vC body els s) : StTold w0 w b n vl L (.mk h body els, s) (.returned (.agg (stmHead h vE vA vB vC).toArray)) (wr.setRow U (stmHead h vE vA vB vC).toArray) := by
  have hc : Chg [U] wr (wr.setRow U (stmHead h vE vA vB vC).toArray) := ⟨rfl, rfl, rfl, by simp, fun k _ hk => setRow_other wr U k _ (by simpa using hk)⟩
  have hP : ∀ k, NewB w wr T U k → k ∉ [U] := fun k hk hm => hk.2.2.2 (by simpa using hm)
  have hQ : ∀ k, NewB w wr T U k → w.heap.size ≤ k ∧ k < (wr.setRow U (stmHead h vE vA vB vC).toArray).heap.size := fun k hk => ⟨hk.1, by simpa using hk.2.1⟩
  obtain ⟨nE, he⟩ := H.e
  obtain ⟨nA, ha⟩ := H.a
  obtain ⟨nB, hb⟩ := H.bo
  obtain ⟨nC, hl⟩ := H.el
  have hbU := H.bU
  refine ⟨_, rfl, ?_, H.r.chg hc (fun x hx => by simp only [List.mem_singleton] at hx; omega) (H.r.r.chg hc (by simp only [List.mem_singleton]; omega)) H.r.lt H.r.deep, H.c.trans' hc (fun x hx => by simp only [List.mem_singleton] at hx; subst hx; exact .inr H.wU)⟩
  rw [StmV.iff]
  exact ⟨vE, nE, vA, nA, vB, nB, vC, nC, rfl, he.chg hc hP hQ, ha.chg hc hP hQ, hb.chg hc hP hQ, hl.chg hc hP hQ⟩
theorem StAt.ones {w0 w wr : World} {b n : Nat} {vl : Value} {L : List Tk} {T U : Nat} {h : SH} {vE vA vB vC : Value} {body els : List Stm} {s : PS} (H : StAt w0 w wr b n vl L T U h vE vA vB vC body els s) : (stmHead h vE vA vB vC).toArray.all (·.oneCell') = true := by
  obtain ⟨nE, he⟩ := H.e
  obtain ⟨nA, ha⟩ := H.a
  obtain ⟨nB, hb⟩ := H.bo
  obtain ⟨nC, hl⟩ := H.el
  obtain ⟨_, _, rfl⟩ := he.shape
  obtain ⟨_, _, rfl⟩ := ha.shape
  obtain ⟨_, _, rfl⟩ := hb.shape
  obtain ⟨_, _, rfl⟩ := hl.shape
  rw [Array.all_eq_true_iff_forall_mem]
  intro v hv
  have hv' := hv
  simp only [stmHead, List.mem_toArray, List.mem_cons, List.not_mem_nil, or_false] at hv'
  rcases hv' with rfl | rfl | rfl | rfl | rfl | rfl | rfl | rfl | rfl | rfl | rfl | rfl <;> rfl
theorem stmt_info (h : SH) (vE vA vB vC : Value) : (Tryz.prog.info? 63).map (·.size) = some (stmHead h vE vA vB vC).toArray.size := by
  show _ = some 12
  kernel_rfl

end Go.Proofs.YtlgfijjkbomejaaGreatDoor
