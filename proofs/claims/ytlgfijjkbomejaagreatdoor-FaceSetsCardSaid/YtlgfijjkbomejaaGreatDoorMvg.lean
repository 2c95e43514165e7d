/- Regions that draw their order and hold calls: one walk, whatever is kept of a world. Numbers and types by name. -/
import Derived.Test.YtlgfijjkbomejaaGreatDoorQpn
import Derived.Test.YtlgfijjkbomejaaGreatDoorPbl
import Derived.Test.YtlgfijjkbomejaaGreatDoorBel
/- The code's proc. Made by wip/tools/gencproc.py. Numbers and types by name. -/
namespace Go.Proofs.YtlgfijjkbomejaaGreatDoor
open Go.RowKit Go.Lib
set_option maxRecDepth 100000

section
variable (L : List Tk)
def pF9 (x : PS) : PS := (blockN L x).2
def pF8 (x : PS) : PS := pF9 L (listT L (nameT L) x [125]).2
def pF7 (x : PS) : PS := pF8 L (wantT L x [123])
def pF6 (x : PS) : PS := pF7 L (wantT L x kUses)
def pF5 (x : PS) : PS := pF6 L (nameT L x).2
def pF4 (x : PS) : PS := pF5 L (wantT L x kPc)
def pF3 (x : PS) : PS := pF4 L (if isT L x [45, 62] = true then nameT L x.go else ([], x)).2
def pF2 (x : PS) : PS := pF3 L (listT L (paramT L) x [41]).2
def pF1 (x : PS) : PS := pF2 L (wantT L x [40])
variable {L}
theorem pF_err (hL : TokL L) {x : PS} (h : x.e ≠ 0) : pF9 L x = x ∧ pF8 L x = x ∧ pF7 L x = x ∧ pF6 L x = x ∧ pF5 L x = x ∧ pF4 L x = x ∧ pF3 L x = x ∧ pF2 L x = x ∧ pF1 L x = x := by
  have e9 : pF9 L x = x := (blockN_goes hL x).err h
  have e8 : pF8 L x = x := by unfold pF8; rw [(list_goes hL (name_goes hL) x [125]).err h]; exact e9
  have e7 : pF7 L x = x := by unfold pF7; rw [want_err h]; exact e8
  have e6 : pF6 L x = x := by unfold pF6; rw [want_err h]; exact e7
  have e5 : pF5 L x = x := by unfold pF5; rw [(name_goes hL x).err h]; exact e6
  have e4 : pF4 L x = x := by unfold pF4; rw [want_err h]; exact e5
  have e3 : pF3 L x = x := by unfold pF3; rw [isT_err h, if_neg (by simp)]; exact e4
  have e2 : pF2 L x = x := by unfold pF2; rw [(list_goes hL (param_goes hL) x [41]).err h]; exact e3
  have e1 : pF1 L x = x := by unfold pF1; rw [want_err h]; exact e2
  exact ⟨e9, e8, e7, e6, e5, e4, e3, e2, e1⟩
end

/-- A procedure under way: the parser, its own block, the block of the result, its parts. -/
structure PcAt (w0 w wr : World) (b : Nat) (L : List Tk) (T U : Nat) (p : Prc) (vP vU vB : Value) (s : PS) : Prop where
  st : StC w0 w wr b L s
  sb : wr.heap[T]? = some (.cells (prcV p vP vU vB).toArray 66)
  z : wr.heap[U]? = some (.cells (prcV prc0 (.slice none 0 0) (.slice none 0 0) (.slice none 0 0)).toArray 66)
  pp : ∃ n, RowsP wr (NewB w wr T U) 3 (fun p c => c = parV p) vP n p.params
  pu : ∃ n, RowsP wr (NewB w wr T U) 1 (fun x c => c = [Value.string (tx x)]) vU n p.uses
  pb : ∃ n, StmsP wr (NewB w wr T U) vB n p.body
  bw : b < w.heap.size
  wT : w.heap.size ≤ T
  wU : w.heap.size ≤ U
  tu : T ≠ U
section
variable {w0 w wr : World} {b : Nat} {L : List Tk} {T U : Nat} {p : Prc} {vP vU vB : Value} {s : PS}
theorem PcAt.tlt (H : PcAt w0 w wr b L T U p vP vU vB s) : T < wr.heap.size ∧ U < wr.heap.size := ⟨(Array.getElem?_eq_some_iff.1 H.sb).1, (Array.getElem?_eq_some_iff.1 H.z).1⟩
theorem PcAt.keep {w1 : World} {s1 : PS} (H : PcAt w0 w wr b L T U p vP vU vB s) (hr : Psr w0 w1 b L s1) (hc : Chg [b] wr w1) : PcAt w0 w w1 b L T U p vP vU vB s1 := by
  have hbw := H.bw
  have hT := H.wT
  have hU := H.wU
  have hP : ∀ k, NewB w wr T U k → k ∉ [b] := fun k hk hm => by
    simp only [List.mem_singleton] at hm
    have := hk.1
    omega
  have hQ : ∀ k, NewB w wr T U k → NewB w w1 T U k := fun k hk => hk.mono hc.size
  obtain ⟨n1, h1⟩ := H.pp
  obtain ⟨n2, h2⟩ := H.pu
  obtain ⟨n3, h3⟩ := H.pb
  exact ⟨H.st.keep hr hc, (hc.block T H.tlt.1 (by rw [List.mem_singleton]; omega)).trans H.sb, (hc.block U H.tlt.2 (by rw [List.mem_singleton]; omega)).trans H.z, ⟨n1, h1.chg hc hP hQ (fun _ _ h => h)⟩, ⟨n2, h2.chg hc hP hQ (fun _ _ h => h)⟩, ⟨n3, h3.chg hc hP hQ⟩, hbw, hT, hU, H.tu⟩
theorem PcAt.put {p' : Prc} {vP' vU' vB' : Value} (H : PcAt w0 w wr b L T U p vP vU vB s) (j : Nat) (v : Value) (e : (prcV p vP vU vB).toArray.setIfInBounds j v = (prcV p' vP' vU' vB').toArray)
    (h1 : ∃ n, RowsP wr (NewB w wr T U) 3 (fun p c => c = parV p) vP' n p'.params) (h2 : ∃ n, RowsP wr (NewB w wr T U) 1 (fun x c => c = [Value.string (tx x)]) vU' n p'.uses) (h3 : ∃ n, StmsP wr (NewB w wr T U) vB' n p'.body) :
    PcAt w0 w (wr.setCell ⟨T, j, none⟩ v) b L T U p' vP' vU' vB' s := by
  have hbw := H.bw
  have hT := H.wT
  have hc : Chg [T] wr (wr.setCell ⟨T, j, none⟩ v) := (Chg.refl [T] wr).set (.inl (by simp)) j v
  have hP : ∀ k, NewB w wr T U k → k ∉ [T] := fun k hk hm => hk.2.2.1 (by simpa using hm)
  have hQ : ∀ k, NewB w wr T U k → NewB w (wr.setCell ⟨T, j, none⟩ v) T U k := fun k hk => hk.mono hc.size
  obtain ⟨n1, h1⟩ := h1
  obtain ⟨n2, h2⟩ := h2
  obtain ⟨n3, h3⟩ := h3
  exact ⟨H.st.set (by omega) hT j v, by rw [heap_setCell_same wr T j _ _ v H.sb, e], (heap_setCell_other wr ⟨T, j, none⟩ U v (fun h => H.tu h.symm)).trans H.z, ⟨n1, h1.chg hc hP hQ (fun _ _ h => h)⟩, ⟨n2, h2.chg hc hP hQ (fun _ _ h => h)⟩, ⟨n3, h3.chg hc hP hQ⟩, hbw, hT, H.wU, H.tu⟩
theorem PcAt.cell (H : PcAt w0 w wr b L T U p vP vU vB s) (j : Nat) (v : Value) (hj : (prcV p vP vU vB)[j]? = some v) : wr.cell? ⟨T, j, none⟩ = some v := cellsN H.sb j v (by rw [List.getElem?_toArray]; exact hj)
theorem PcAt.free (H : PcAt w0 w wr b L T U p vP vU vB s) (j : Nat) : wr.frozen? ⟨T, j, none⟩ = false := frozen_of_row _ _ _ _ _ H.sb
theorem PcAt.newB {w1 : World} (H : PcAt w0 w wr b L T U p vP vU vB s) {k : Nat} (hk : wr.heap.size ≤ k ∧ k < w1.heap.size) : NewB w w1 T U k :=
  ⟨Nat.le_trans H.st.c.size hk.1, hk.2, by have := H.tlt; omega, by have := H.tlt; omega⟩
theorem PcAt.ones (H : PcAt w0 w wr b L T U p vP vU vB s) : (prcV p vP vU vB).toArray.all (·.oneCell') = true := by
  obtain ⟨n1, h1⟩ := H.pp
  obtain ⟨n2, h2⟩ := H.pu
  obtain ⟨n3, h3⟩ := H.pb
  obtain ⟨_, _, rfl⟩ := h1.shape
  obtain ⟨_, _, rfl⟩ := h2.shape
  obtain ⟨_, _, rfl⟩ := h3.shape
  exact prc_ones p rfl rfl rfl
theorem PcAt.told (H : PcAt w0 w wr b L T U p vP vU vB s) : Psr w0 (wr.setRow U (prcV p vP vU vB).toArray) b L s ∧ Chg [b] w (wr.setRow U (prcV p vP vU vB).toArray) ∧ ProcV (wr.setRow U (prcV p vP vU vB).toArray) (NewW w (wr.setRow U (prcV p vP vU vB).toArray)) p (prcV p vP vU vB) := by
  have hbw := H.bw
  have hU := H.wU
  have hc : Chg [U] wr (wr.setRow U (prcV p vP vU vB).toArray) := (Chg.refl [U] wr).setRow (.inl (by simp)) _
  have hP : ∀ k, NewB w wr T U k → k ∉ [U] := fun k hk hm => hk.2.2.2 (by simpa using hm)
  have hQ : ∀ k, NewB w wr T U k → NewW w (wr.setRow U (prcV p vP vU vB).toArray) k := fun k hk => ⟨hk.1, Nat.lt_of_lt_of_le hk.2.1 hc.size⟩
  obtain ⟨n1, h1⟩ := H.pp
  obtain ⟨n2, h2⟩ := H.pu
  obtain ⟨n3, h3⟩ := H.pb
  have hs := H.st.setRow (T := U) (by omega) hU (prcV p vP vU vB).toArray
  exact ⟨hs.r, hs.c, ⟨_, _, _, _, _, _, rfl, h1.chg hc hP hQ (fun _ _ h => h), h2.chg hc hP hQ (fun _ _ h => h), h3.chg hc hP hQ⟩⟩
end

/-- What a procedure's reader leaves. -/
def PrcC (w : World) (p : Prc) : World → Ending → Prop := fun w' e => ∃ vP vU vB, e = .returned (.agg #[.string (tx p.name), vP, .bool p.has, .string (tx p.result), .string (tx p.pc), vU, vB, .int .i64 (p.pos : Int)]) ∧ ProcV w' (NewW w w') p (prcV p vP vU vB)

end Go.Proofs.YtlgfijjkbomejaaGreatDoor

namespace Go.Proofs.YtlgfijjkbomejaaGreatDoor
open Go.RowKit Go.Lib
section
variable {P : Program} {ops : Array Oper} {md : Region.Mode}

/-- Every order, each step into a later world. -/
def wpMvg (G : World → World → Prop) (P : Program) (md : Region.Mode) (ops : Array Oper) (Q : Act → World → Prop) : Nat → Array Bool → Act → World → Prop
  | 0, listed, a, w => Region.ready md ops listed = [] ∧ Q a w
  | fuel + 1, listed, a, w =>
    (Region.ready md ops listed = [] → Q a w) ∧
    ∀ i ∈ Region.ready md ops listed, mvOp P ops i (fun a' w' => G w w' ∧ wpMvg G P md ops Q fuel (listed.setIfInBounds i true) a' w') a w

theorem wpAny_of_mvg {G : World → World → Prop} {Q : Act → World → Prop} {Q' : Exit → Act → World → Prop} (hQ : ∀ a w, Q a w → Q' .normal a w) : ∀ (fuel : Nat) (listed : Array Bool) (a : Act) (w : World),
    wpMvg G P md ops Q fuel listed a w → wpAny P md ops Q' fuel listed a w
  | 0, _, _, _, h => ⟨h.1, hQ _ _ h.2⟩
  | fuel + 1, _, _, _, h => ⟨fun h0 => hQ _ _ (h.1 h0), fun i hi => wpOp_mono (fun a' w' h' => wpAny_of_mvg hQ fuel _ a' w' h'.2) (wpOp_of_mvOp (h.2 i hi))⟩

/-- The operation yields v in every later world. -/
def Upg (G : World → World → Prop) (P : Program) (ops : Array Oper) (w : World) (o : Oper) (v : Value) (a : Act) : Prop := ∀ w', G w w' → YieldsAt P ops w' o v a

theorem Upg.later {G : World → World → Prop} (g1 : ∀ {a b c}, G a b → G b c → G a c) {w w' : World} {o : Oper} {v : Value} {a : Act} (h : Upg G P ops w o v a) (hg : G w w') : Upg G P ops w' o v a := fun w'' hg' => h w'' (g1 hg hg')

theorem mvOp_putg {G : World → World → Prop} (g1 : ∀ {a b c}, G a b → G b c → G a c) {j : Nat} {oi oj : Oper} {v : Value} {w : World} (hj : ops[j]? = some oj) (hap : oi.apart ops oj = true)
    (hsi : ∀ cs b, oi.op ≠ .select cs b) (hsj : ∀ cs b, oj.op ≠ .select cs b) {K : Act → World → Prop} {a : Act}
    (hy : Upg G P ops w oi v a) (h : mvOp P ops j (fun a' w' => G w w' ∧ K a' w') (a.put oi.dst v) w) :
    mvOp P ops j (fun a' w' => G w w' ∧ (Upg G P ops w' oi v a' ∧ K (a'.put oi.dst v) w')) a w := by
  obtain ⟨h1, h2, h3⟩ := Oper.apart_spec hap
  have keep : ∀ (w' : World) (u : Value), G w w' → Upg G P ops w' oi v (a.put oj.dst u) := fun w' u hg w'' hg' =>
    (hy w'' (g1 hg hg')).of_same (execOp_put oi hsi a oj.dst u h3) (wanted_put oi a oj.dst u h3)
  unfold mvOp mvRun at *
  simp only [hj] at *
  rw [wanted_put oj a oi.dst v h1] at h
  split
  · rename_i hw
    simp only [hw, if_true] at h
    rw [execOp_put oj hsj a oi.dst v h1] at h
    generalize (execOp a.eval oj).run P w = r at *
    cases r with
    | ok n w' =>
      cases n <;> simp only [mvUpon] at h ⊢
      case value u => exact ⟨h.1, keep _ u h.1, by rw [← Act.put_comm a v u h2]; exact h.2⟩
      case skip => exact ⟨h.1, keep _ _ h.1, by rw [← Act.put_comm a v undef h2]; exact h.2⟩
      case enter f args => exact h.mono fun e w'' ⟨u, he, hg, hk⟩ => ⟨u, he, hg, keep _ u hg, by rw [← Act.put_comm a v u h2]; exact hk⟩
    | halt x w' => simp only [mvUpon] at h
  · rename_i hw
    simp only [hw] at h
    exact ⟨h.1, keep _ _ h.1, by rw [← Act.put_comm a v undef h2]; exact h.2⟩

theorem wpMvg_first {G : World → World → Prop} (g0 : ∀ w, G w w) (g1 : ∀ {a b c}, G a b → G b c → G a c) {Q : Act → World → Prop} {i : Nat} {oi : Oper} {v : Value} (hi : ops[i]? = some oi) (hsel : ∀ (j : Nat) (o : Oper) cs b, ops[j]? = some o → o.op ≠ .select cs b) :
    ∀ (fuel : Nat) (listed : Array Bool) (a : Act) (w : World),
      (∀ j oj, ops[j]? = some oj → j ≠ i → listed.getD j true = false → (∀ e ∈ oj.after, Region.binds md e = true → e.on ≠ i) → oi.apart ops oj = true) →
      i ∈ Region.ready md ops listed → Upg G P ops w oi v a →
      wpMvg G P md ops Q fuel (listed.setIfInBounds i true) (a.put oi.dst v) w → wpMvg G P md ops Q (fuel + 1) listed a w := by
  intro fuel
  induction fuel with
  | zero =>
    intro listed a w _ hr hy H
    refine ⟨fun h => (by rw [h] at hr; cases hr), fun j hj => ?_⟩
    by_cases hji : j = i
    · subst hji; exact YieldsAt.mvOp hi (hy w (g0 w)) ⟨g0 w, H⟩
    · have := ready_mono hj hji
      rw [H.1] at this
      cases this
  | succ fuel ih =>
    intro listed a w hfree hr hy H
    refine ⟨fun h => (by rw [h] at hr; cases hr), fun j hj => ?_⟩
    by_cases hji : j = i
    · subst hji; exact YieldsAt.mvOp hi (hy w (g0 w)) ⟨g0 w, H⟩
    · have h1 := H.2 j (ready_mono hj hji)
      obtain ⟨hjun, oj, hoj, hall⟩ := mem_ready.1 hj
      have hnot : ∀ e ∈ oj.after, Region.binds md e = true → e.on ≠ i := fun e he hb heq => by
        have h1 := hall e he hb
        have h0 := (mem_ready.1 hr).1
        rw [heq] at h1
        rcases Nat.lt_or_ge i listed.size with h' | h'
        · simp [h'] at h0 h1; rw [h0] at h1; cases h1
        · simp [Array.getElem?_eq_none h'] at h1
      have h2 := mvOp_putg (G := G) g1 hoj (hfree j oj hoj hji hjun hnot) (fun cs b => hsel i oi cs b hi) (fun cs b => hsel j oj cs b hoj) hy h1
      have hfree' : ∀ k ok, ops[k]? = some ok → k ≠ i → (listed.setIfInBounds j true).getD k true = false →
          (∀ e ∈ ok.after, Region.binds md e = true → e.on ≠ i) → oi.apart ops ok = true := fun k ok hk hki hun hno => by
        refine hfree k ok hk hki ?_ hno
        by_cases hjk : j = k
        · subst hjk; exact hjun
        · rw [getD_set_ne true hjk] at hun; exact hun
      refine mvOp_mono (fun a' w' h3 => ⟨h3.1, ih (listed.setIfInBounds j true) a' w' hfree' (ready_mono hr (Ne.symm hji)) h3.2.1 ?_⟩) h2
      rw [Array.setIfInBounds_comm _ _ hji]
      exact h3.2.2

/-- One walk. -/
def wpLing (G : World → World → Prop) (P : Program) (ops : Array Oper) (Q : Act → World → Prop) : List (Nat × Bool × Oper) → Act → World → Prop
  | [], a, w => Q a w
  | (_, true, o) :: r, a, w => ∃ v, Upg G P ops w o v a ∧ wpLing G P ops Q r (a.put o.dst v) w
  | (_, false, o) :: r, a, w => mvRun P ops o (fun a' w' => G w w' ∧ wpLing G P ops Q r a' w') a w

theorem wpMvg_of_lin {G : World → World → Prop} (g0 : ∀ w, G w w) (g1 : ∀ {a b c}, G a b → G b c → G a c) {Q : Act → World → Prop} (hs : Region.noSelect ops = true) : ∀ (l : List (Nat × Bool × Oper)) (listed : Array Bool) (a : Act) (w : World), (∀ x ∈ l, ops[x.1]? = some x.2.2) →
    mvB md ops l listed = true → wpLing G P ops Q l a w → wpMvg G P md ops Q l.length listed a w
  | [], _, _, _, _, hB, h => ⟨by simpa [mvB] using hB, h⟩
  | (k, true, o) :: r, listed, a, w, hat, hB, h => by
    simp only [mvB, Bool.and_eq_true] at hB
    obtain ⟨v, hy, hK⟩ := h
    have h0 : ops[k]? = some o := hat (k, true, o) (List.mem_cons_self ..)
    exact wpMvg_first (G := G) g0 g1 h0 (Region.noSelect_spec hs) r.length listed a w (Region.free_spec h0 hB.1.2) (by simpa using hB.1.1) hy
      (wpMvg_of_lin (G := G) g0 g1 hs r _ _ w (fun x hx => hat x (by simp [hx])) hB.2 hK)
  | (k, false, o) :: r, listed, a, w, hat, hB, h => by
    simp only [mvB, Bool.and_eq_true, decide_eq_true_eq] at hB
    refine ⟨fun h1 => (by rw [hB.1] at h1; cases h1), fun i hi => ?_⟩
    rw [hB.1] at hi
    obtain rfl : i = k := by simpa using hi
    have h0 : ops[i]? = some o := hat (i, false, o) (List.mem_cons_self ..)
    have hm : mvOp P ops i (fun a' w' => G w w' ∧ wpLing G P ops Q r a' w') a w := by unfold mvOp; simp only [h0]; exact h
    exact mvOp_mono (fun a' w' h' => ⟨h'.1, wpMvg_of_lin (G := G) g0 g1 hs r _ a' w' (fun x hx => hat x (by simp [hx])) hB.2 h'.2⟩) hm

theorem wp_region_mvg (G : World → World → Prop) (g0 : ∀ w, G w w) (g1 : ∀ {a b c}, G a b → G b c → G a c) {id : Nat} {Q : Exit → Act → World → Prop} {a : Act} {w : World} {l : List Oper} (segs : List (Nat × Nat × Bool)) (hm : P.follows .mixedOrders = true) (hB : mvOk l.toArray (mvAll segs l) = true)
    (h : wpLing G P l.toArray (fun a' w' => Q .normal a' w') (mvAll segs l) a w.drew) : (Code.region id l.toArray true).wp P Q a w := by
  simp only [mvOk, Bool.and_eq_true, beq_iff_eq] at hB
  refine wp_region_any hm (wpAny_of_mvg (G := G) (Q := fun a' w' => Q .normal a' w') (fun _ _ h => h) _ _ _ _ ?_)
  have := wpMvg_of_lin (G := G) g0 g1 (md := .any) hB.1.1 (mvAll segs l) (Array.replicate l.toArray.size false) a w.drew (mvAll_at l segs) hB.2 h
  rw [hB.1.2] at this
  exact this

theorem wpLing_nil {G : World → World → Prop} {Q : Act → World → Prop} {a : Act} {w : World} (h : Q a w) : wpLing G P ops Q [] a w := h

theorem wpLing_still {G : World → World → Prop} {Q : Act → World → Prop} {k : Nat} {o : Oper} {r : List (Nat × Bool × Oper)} {a : Act} {w : World} (v : Value) (hv : ∀ w', G w w' → ∀ K : Value → Prop, K v → mvVal P ops o a w' K)
    (h : ∀ K : Act → Prop, (∀ a, wpLing G P ops Q r a w → K a) → K (a.put o.dst v)) : wpLing G P ops Q ((k, true, o) :: r) a w := by
  refine ⟨v, fun w' hg => ?_, h _ fun _ h => h⟩
  have := hv w' hg (fun u => u = v) rfl
  unfold mvVal at this
  unfold YieldsAt
  by_cases hw : Region.wanted o (yielded ops a.tmps) = true
  · left
    rw [if_pos hw] at this
    refine ⟨hw, ?_⟩
    split at this
    · next heq => obtain ⟨rfl, rfl⟩ := this; exact .inl heq
    · next heq => obtain ⟨rfl, rfl⟩ := this; exact .inr (.inl ⟨heq, rfl⟩)
    · next heq => obtain ⟨rfl, u, hc, rfl⟩ := this; exact .inr (.inr ⟨_, _, heq, hc⟩)
    · exact this.elim
  · right
    rw [if_neg hw] at this
    exact ⟨by simpa using hw, this.symm⟩

theorem wpLing_call {G : World → World → Prop} {Q : Act → World → Prop} {k : Nat} {o : Oper} {r : List (Nat × Bool × Oper)} {a : Act} {w : World}
    (h : ∀ K : Act → World → Prop, (∀ a w', G w w' → wpLing G P ops Q r a w' → K a w') → mvRun P ops o K a w) : wpLing G P ops Q ((k, false, o) :: r) a w :=
  h _ fun _ _ hg hk => ⟨hg, hk⟩
end

end Go.Proofs.YtlgfijjkbomejaaGreatDoor
