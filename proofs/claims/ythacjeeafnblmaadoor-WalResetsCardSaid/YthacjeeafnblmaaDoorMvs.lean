/- Regions that draw their order and end with an operation that may write what was there: one walk. Numbers and types by name. -/
import Derived.Test.YthacjeeafnblmaaDoorRq
import Derived.Test.YthacjeeafnblmaaDoorMov
/- The reference's row of files: one file turns; places. Numbers and types by name. -/
namespace Go.Proofs.YthacjeeafnblmaaDoor
open Go.RowKit Go.Maps Go.Sort Go.WideMaps

theorem gate_cases (M : MD) : ∃ ok er M1, M.gate = (ok, er, M1) ∧ M1.fs = M.fs ∧ M1.cap = M.cap ∧ M1.fail = M.fail ∧ M1.keep = M.keep ∧
    ∀ op : Opn, M.act op = if ok = true then (tell7 M1 (op M.cap M.fs).1, { M1 with fs := (op M.cap M.fs).2 }) else (er, M1) := by
  unfold MD.gate MD.act tell7
  by_cases hdw : M.dw = true
  · rw [if_pos hdw]
    exact ⟨_, _, _, rfl, rfl, rfl, rfl, rfl, fun op => by rw [if_pos hdw, if_neg (by simp)]⟩
  · rw [if_neg hdw]
    by_cases hcr : M.n + 1 = M.cr
    · rw [if_pos hcr]
      refine ⟨_, _, _, rfl, rfl, rfl, rfl, rfl, fun op => ?_⟩
      rw [if_neg hdw, if_pos hcr]
      by_cases hdn : M.dn = true
      · rw [if_pos hdn, if_pos hdn, if_pos rfl]
      · rw [if_neg hdn, if_neg hdn]
    · rw [if_neg hcr]
      by_cases hfa : M.fail.contains (M.n + 1) = true
      · rw [if_pos hfa]
        exact ⟨_, _, _, rfl, rfl, rfl, rfl, rfl, fun op => by rw [if_neg hdw, if_neg hcr, if_pos hfa, if_neg (by simp)]⟩
      · rw [if_neg hfa]
        exact ⟨_, _, _, rfl, rfl, rfl, rfl, rfl, fun op => by rw [if_neg hdw, if_neg hcr, if_neg hfa, if_pos rfl, if_neg hdw]⟩

theorem place_none {k : List UInt8} {fs : List Ent} (h : fs.find? (isName k) = none) : placeE k fs = -1 := by
  unfold placeE
  have : fs.findIdx? (isName k) = none := by
    rw [List.findIdx?_eq_none_iff]
    intro x hx
    have := List.find?_eq_none.1 h x hx
    simpa using this
  rw [this]
theorem place_some {k : List UInt8} {fs : List Ent} {x : Ent} (hr : Rising fs) (h : fs.find? (isName k) = some x) :
    ∃ i : Nat, placeE k fs = i ∧ fs[i]? = some x ∧ (∀ u : Ent → Ent, fs.set i (u x) = updE k u fs) ∧ fs.eraseIdx i = woE k fs := by
  obtain ⟨hm, hk⟩ := find_memE h
  obtain ⟨i, hi, rfl⟩ := List.getElem_of_mem hm
  have hne : ∀ j (hj : j < fs.length), isName k fs[j] = true → j = i := by
    intro j hj e
    have e2 : fs[j].1 = fs[i].1 := (isName_iff.1 e).trans hk.symm
    rcases Nat.lt_trichotomy j i with hlt | he | hlt
    · have := List.pairwise_iff_getElem.1 hr j i hj hi hlt
      rw [e2] at this
      exact absurd this (List.lt_irrefl _)
    · exact he
    · have := List.pairwise_iff_getElem.1 hr i j hi hj hlt
      rw [e2] at this
      exact absurd this (List.lt_irrefl _)
  have hf : fs.findIdx? (isName k) = some i := by
    rw [List.findIdx?_eq_some_iff_getElem]
    refine ⟨hi, isName_iff.2 hk, fun j hj => ?_⟩
    intro e
    have := hne j (by omega) (by simpa using e)
    omega
  refine ⟨i, by unfold placeE; rw [hf], List.getElem?_eq_getElem hi, fun u => ?_, ?_⟩
  · apply List.ext_getElem?
    intro j
    unfold updE
    rw [List.getElem?_map]
    by_cases hj : j < fs.length
    · rw [List.getElem?_eq_getElem hj]
      simp only [Option.map_some]
      by_cases hji : j = i
      · subst hji
        rw [List.getElem?_set_self hi, if_pos (isName_iff.2 hk)]
      · rw [List.getElem?_set_ne (fun e => hji e.symm), if_neg (fun e => hji (hne j hj e)), List.getElem?_eq_getElem hj]
    · rw [List.getElem?_eq_none (by simp; omega), List.getElem?_eq_none (by omega)]
      rfl
  · unfold woE
    rw [List.eraseIdx_eq_take_drop_succ]
    conv => rhs; rw [← List.take_append_drop i fs, ← List.getElem_cons_drop (h := hi)]
    rw [List.filter_append, List.filter_cons_of_neg (by simp [isName_iff.2 hk])]
    congr 1
    · symm
      rw [List.filter_eq_self]
      intro y hy
      obtain ⟨j, hj, rfl⟩ := List.getElem_of_mem hy
      rw [List.length_take] at hj
      rw [List.getElem_take]
      cases e : isName k fs[j] with
      | false => rfl
      | true => have := hne j (by omega) e; omega
    · symm
      rw [List.filter_eq_self]
      intro y hy
      obtain ⟨j, hj, rfl⟩ := List.getElem_of_mem hy
      rw [List.length_drop] at hj
      rw [List.getElem_drop]
      cases e : isName k (fs[i + 1 + j]'(by omega)) with
      | false => rfl
      | true => have := hne (i + 1 + j) (by omega) e; omega
theorem place_any {k : List UInt8} {fs : List Ent} : (0 ≤ placeE k fs) ↔ fs.any (isName k) = true := by
  unfold placeE
  cases h : fs.findIdx? (isName k) with
  | none =>
    rw [List.findIdx?_eq_none_iff] at h
    constructor
    · intro h0; simp only at h0; omega
    · intro ha
      obtain ⟨x, hx, hn⟩ := List.any_eq_true.1 ha
      rw [h x hx] at hn; cases hn
  | some i =>
    rw [List.findIdx?_eq_some_iff_getElem] at h
    obtain ⟨hi, hn, _⟩ := h
    constructor
    · intro _; exact List.any_eq_true.2 ⟨_, List.getElem_mem hi, hn⟩
    · intro _; simp only; omega

theorem set_same {xs : List Value} {i : Nat} {v : Value} (h : xs[i]? = some v) : xs.set i v = xs := by
  obtain ⟨hi, rfl⟩ := List.getElem?_eq_some_iff.1 h
  exact List.set_getElem_self hi

/-- The bytes of one file. -/
theorem TellR.bytes {w w' : World} {G : List Nat} {zs : List Value} {L : List Ent} {g : Nat} (h : TellR w G zs L) (t : Turn [g] w w') (hg : g ∉ G) {k : Nat} {x : Ent} (hx : L[k]? = some x) (l : List UInt8) (ao : Option Addr) (c : Nat) (hr : Reads w' (.slice ao l.length c) (bv l)) (hG : l ≠ [] → ∀ a, ao = some a → a.block ∈ G) :
    TellR w' G (zs.set (k * 3 + 1) (.slice ao l.length c)) (L.set k (x.1, l, x.2.2)) := by
  obtain ⟨_, _, e1, e2, e3, _⟩ := h.2 k x hx
  have := h.put (.inr ⟨g, t, hg⟩) k (x.1, l, x.2.2) ao c hr hG
  simp only at this
  rw [set_same e1, set_same (i := k * 3 + 2) (by rw [List.getElem?_set_ne (by omega)]; exact e3)] at this
  exact this
/-- How many bytes of one file are synced. -/
theorem TellR.synced {w w' : World} {G : List Nat} {zs : List Value} {L : List Ent} {g : Nat} (h : TellR w G zs L) (t : Turn [g] w w') (hg : g ∉ G) {k : Nat} {x : Ent} (hx : L[k]? = some x) (q : Nat) :
    TellR w' G (zs.set (k * 3 + 2) (.int .i64 q)) (L.set k (x.1, x.2.1, q)) := by
  obtain ⟨ao, c, e1, e2, e3, e4, e5⟩ := h.2 k x hx
  have := h.put (.inr ⟨g, t, hg⟩) k (x.1, x.2.1, q) ao c (e4.turn t fun hne a n c e => by
    simp only [Value.slice.injEq] at e
    have h5 := e5 (by intro e2; rw [e2] at hne; exact hne rfl) a e.1
    simp only [List.mem_singleton]
    intro e3
    exact hg (by rw [← e3]; exact h5)) e5
  simp only at this
  rw [set_same e1, set_same e2] at this
  exact this

end Go.Proofs.YthacjeeafnblmaaDoor

/- The reference's Create, Remove, Read. Numbers and types by name. -/
namespace Go.Proofs.YthacjeeafnblmaaDoor
open Go.RowKit Go.Maps Go.Sort Go.WideMaps

theorem str_mk (name : ByteArray) : (⟨name.data.toList.toArray⟩ : ByteArray) = name := by cases name; simp

/-- Behind the gate. -/
structure Gated (M : MD) (ok : Bool) (er : Int) (M1 : MD) : Prop where
  fs : M1.fs = M.fs
  cap : M1.cap = M.cap
  act : ∀ op : Opn, M.act op = if ok = true then (tell7 M1 (op M.cap M.fs).1, { M1 with fs := (op M.cap M.fs).2 }) else (er, M1)

end Go.Proofs.YthacjeeafnblmaaDoor

/- The reference's Remove, Rename, Read. Numbers and types by name. -/
namespace Go.Proofs.YthacjeeafnblmaaDoor
open Go.RowKit Go.Maps Go.Sort Go.WideMaps

theorem cell_new {w : World} {a : Addr} {v : Value} (h : w.cell? a = some v) (o : Obj) : (w.alloc o).cell? a = some v :=
  (World.cell?_of_block (((Turn.refl [] w).alloc o).block _ (World.block_lt_of_cell? w _ h) (by simp))).trans h

end Go.Proofs.YthacjeeafnblmaaDoor

/- The reference's Sync and Cut. Numbers and types by name. -/
namespace Go.Proofs.YthacjeeafnblmaaDoor
open Go.RowKit Go.Maps Go.Sort Go.WideMaps

theorem own_block {g n c : Nat} : (Value.slice (some ⟨g, 0, none⟩) n c).ownBlock = some g := rfl

end Go.Proofs.YthacjeeafnblmaaDoor

namespace Go.Proofs.YthacjeeafnblmaaDoor
open Go.RowKit Go.Lib
section
variable {P : Program} {md : Region.Mode} {ops : Array Oper}

/-- Every order; each step but the one of place k into a later world. -/
def wpMvs (P : Program) (md : Region.Mode) (ops : Array Oper) (k : Nat) (Q : Act → World → Prop) : Nat → Array Bool → Act → World → Prop
  | 0, listed, a, w => Region.ready md ops listed = [] ∧ Q a w
  | fuel + 1, listed, a, w =>
    (Region.ready md ops listed = [] → Q a w) ∧
    ∀ i ∈ Region.ready md ops listed, mvOp P ops i (fun a' w' => (i = k ∨ Grow w w') ∧ wpMvs P md ops k Q fuel (listed.setIfInBounds i true) a' w') a w

theorem wpAny_of_mvs {k : Nat} {Q : Act → World → Prop} {Q' : Exit → Act → World → Prop} (hQ : ∀ a w, Q a w → Q' .normal a w) : ∀ (fuel : Nat) (listed : Array Bool) (a : Act) (w : World),
    wpMvs P md ops k Q fuel listed a w → wpAny P md ops Q' fuel listed a w
  | 0, _, _, _, h => ⟨h.1, hQ _ _ h.2⟩
  | fuel + 1, _, _, _, h => ⟨fun h0 => hQ _ _ (h.1 h0), fun i hi => wpOp_mono (fun a' w' h' => wpAny_of_mvs hQ fuel _ a' w' h'.2) (wpOp_of_mvOp (h.2 i hi))⟩

/-- The operation k waits for i. -/
def waitB (md : Region.Mode) (ops : Array Oper) (k i : Nat) : Bool :=
  match ops[k]? with
  | none => false
  | some o => o.after.any fun e => Region.binds md e && e.on == i

theorem wait_not {k i : Nat} {listed : Array Bool} (h : waitB md ops k i = true) (hun : listed.getD i true = false) : k ∉ Region.ready md ops listed := by
  intro hm
  obtain ⟨_, o, ho, hall⟩ := mem_ready.1 hm
  unfold waitB at h
  rw [ho] at h
  obtain ⟨e, he, hb⟩ := Array.any_eq_true'.1 h
  simp only [Bool.and_eq_true, beq_iff_eq] at hb
  have h2 := hall e he hb.1
  rw [hb.2] at h2
  rcases Nat.lt_or_ge i listed.size with h' | h'
  · simp [h'] at hun h2; rw [hun] at h2; cases h2
  · simp [Array.getElem?_eq_none h'] at hun

theorem wpMvs_first {k : Nat} {Q : Act → World → Prop} {i : Nat} {oi : Oper} {v : Value} (hi : ops[i]? = some oi) (hL : waitB md ops k i = true) (hsel : ∀ (j : Nat) (o : Oper) cs b, ops[j]? = some o → o.op ≠ .select cs b) :
    ∀ (fuel : Nat) (listed : Array Bool) (a : Act) (w : World),
      (∀ j oj, ops[j]? = some oj → j ≠ i → listed.getD j true = false → (∀ e ∈ oj.after, Region.binds md e = true → e.on ≠ i) → oi.apart ops oj = true) →
      i ∈ Region.ready md ops listed → Ups P ops w oi v a →
      wpMvs P md ops k Q fuel (listed.setIfInBounds i true) (a.put oi.dst v) w → wpMvs P md ops k Q (fuel + 1) listed a w := by
  intro fuel
  induction fuel with
  | zero =>
    intro listed a w _ hr hy H
    refine ⟨fun h => (by rw [h] at hr; cases hr), fun j hj => ?_⟩
    by_cases hji : j = i
    · subst hji; exact YieldsAt.mvOp hi (hy w (Grow.refl w)) ⟨.inr (Grow.refl w), H⟩
    · have := ready_mono hj hji
      rw [H.1] at this
      cases this
  | succ fuel ih =>
    intro listed a w hfree hr hy H
    refine ⟨fun h => (by rw [h] at hr; cases hr), fun j hj => ?_⟩
    by_cases hji : j = i
    · subst hji; exact YieldsAt.mvOp hi (hy w (Grow.refl w)) ⟨.inr (Grow.refl w), H⟩
    · have hjk : j ≠ k := by
        rintro rfl
        exact wait_not hL (mem_ready.1 hr).1 hj
      have h1 := mvOp_mono (K' := fun a' w' => Grow w w' ∧ wpMvs P md ops k Q fuel ((listed.setIfInBounds i true).setIfInBounds j true) a' w') (fun a' w' h => ⟨h.1.resolve_left hjk, h.2⟩) (H.2 j (ready_mono hj hji))
      obtain ⟨hjun, oj, hoj, hall⟩ := mem_ready.1 hj
      have hnot : ∀ e ∈ oj.after, Region.binds md e = true → e.on ≠ i := fun e he hb heq => by
        have h1 := hall e he hb
        have h0 := (mem_ready.1 hr).1
        rw [heq] at h1
        rcases Nat.lt_or_ge i listed.size with h' | h'
        · simp [h'] at h0 h1; rw [h0] at h1; cases h1
        · simp [Array.getElem?_eq_none h'] at h1
      have h2 := mvOp_put hoj (hfree j oj hoj hji hjun hnot) (fun cs b => hsel i oi cs b hi) (fun cs b => hsel j oj cs b hoj) hy h1
      have hfree' : ∀ q ok, ops[q]? = some ok → q ≠ i → (listed.setIfInBounds j true).getD q true = false →
          (∀ e ∈ ok.after, Region.binds md e = true → e.on ≠ i) → oi.apart ops ok = true := fun q ok hk hki hun hno => by
        refine hfree q ok hk hki ?_ hno
        by_cases hjk : j = q
        · subst hjk; exact hjun
        · rw [getD_set_ne true hjk] at hun; exact hun
      refine mvOp_mono (fun a' w' h3 => ⟨.inr h3.1, ih (listed.setIfInBounds j true) a' w' hfree' (ready_mono hr (Ne.symm hji)) h3.2.1 ?_⟩) h2
      rw [Array.setIfInBounds_comm _ _ hji]
      exact h3.2.2

/-- One walk. -/
def wpLins (P : Program) (ops : Array Oper) (k : Nat) (Q : Act → World → Prop) : List (Nat × Bool × Oper) → Act → World → Prop
  | [], a, w => Q a w
  | (_, true, o) :: r, a, w => ∃ v, Ups P ops w o v a ∧ wpLins P ops k Q r (a.put o.dst v) w
  | (j, false, o) :: r, a, w => mvRun P ops o (fun a' w' => (j = k ∨ Grow w w') ∧ wpLins P ops k Q r a' w') a w

theorem wpMvs_of_lin {k : Nat} {Q : Act → World → Prop} (hs : Region.noSelect ops = true) : ∀ (l : List (Nat × Bool × Oper)) (listed : Array Bool) (a : Act) (w : World), (∀ x ∈ l, ops[x.1]? = some x.2.2) → (∀ x ∈ l, x.2.1 = true → waitB md ops k x.1 = true) →
    mvB md ops l listed = true → wpLins P ops k Q l a w → wpMvs P md ops k Q l.length listed a w
  | [], _, _, _, _, _, hB, h => ⟨by simpa [mvB] using hB, h⟩
  | (j, true, o) :: r, listed, a, w, hat, hnk, hB, h => by
    simp only [mvB, Bool.and_eq_true] at hB
    obtain ⟨v, hy, hK⟩ := h
    have h0 : ops[j]? = some o := hat (j, true, o) (List.mem_cons_self ..)
    exact wpMvs_first h0 (hnk (j, true, o) (List.mem_cons_self ..) rfl) (Region.noSelect_spec hs) r.length listed a w (Region.free_spec h0 hB.1.2) (by simpa using hB.1.1) hy
      (wpMvs_of_lin hs r _ _ w (fun x hx => hat x (by simp [hx])) (fun x hx => hnk x (by simp [hx])) hB.2 hK)
  | (j, false, o) :: r, listed, a, w, hat, hnk, hB, h => by
    simp only [mvB, Bool.and_eq_true, decide_eq_true_eq] at hB
    refine ⟨fun h1 => (by rw [hB.1] at h1; cases h1), fun i hi => ?_⟩
    rw [hB.1] at hi
    obtain rfl : i = j := by simpa using hi
    have h0 : ops[i]? = some o := hat (i, false, o) (List.mem_cons_self ..)
    have hm : mvOp P ops i (fun a' w' => (i = k ∨ Grow w w') ∧ wpLins P ops k Q r a' w') a w := by unfold mvOp; simp only [h0]; exact h
    exact mvOp_mono (fun a' w' h' => ⟨h'.1, wpMvs_of_lin hs r _ a' w' (fun x hx => hat x (by simp [hx])) (fun x hx => hnk x (by simp [hx])) hB.2 h'.2⟩) hm

def mvsOk (ops : Array Oper) (k : Nat) (items : List (Nat × Bool × Oper)) : Bool := mvOk ops items && items.all fun x => !x.2.1 || waitB .any ops k x.1

theorem wp_region_mvs {id : Nat} {Q : Exit → Act → World → Prop} {a : Act} {w : World} {l : List Oper} (k : Nat) (segs : List (Nat × Nat × Bool)) (hm : P.follows .mixedOrders = true) (hB : mvsOk l.toArray k (mvAll segs l) = true)
    (h : wpLins P l.toArray k (fun a' w' => Q .normal a' w') (mvAll segs l) a w.drew) : (Code.region id l.toArray true).wp P Q a w := by
  simp only [mvsOk, mvOk, Bool.and_eq_true, beq_iff_eq] at hB
  refine wp_region_any hm (wpAny_of_mvs (k := k) (Q := fun a' w' => Q .normal a' w') (fun _ _ h => h) _ _ _ _ ?_)
  have := wpMvs_of_lin (md := .any) (k := k) hB.1.1.1 (mvAll segs l) (Array.replicate l.toArray.size false) a w.drew (mvAll_at l segs) (fun x hx hb => by
    have := List.all_eq_true.1 hB.2 x hx
    simp only [Bool.or_eq_true, Bool.not_eq_true'] at this
    rcases this with h | h
    · rw [hb] at h; cases h
    · exact h) hB.1.2 h
  rw [hB.1.1.2] at this
  exact this

theorem wpLins_nil {k : Nat} {Q : Act → World → Prop} {a : Act} {w : World} (h : Q a w) : wpLins P ops k Q [] a w := h

theorem wpLins_still {k : Nat} {Q : Act → World → Prop} {j : Nat} {o : Oper} {r : List (Nat × Bool × Oper)} {a : Act} {w : World} (v : Value) (hv : ∀ w', Grow w w' → ∀ K : Value → Prop, K v → mvVal P ops o a w' K)
    (h : ∀ K : Act → Prop, (∀ a, wpLins P ops k Q r a w → K a) → K (a.put o.dst v)) : wpLins P ops k Q ((j, true, o) :: r) a w := by
  refine ⟨v, fun w' hg => ?_, h _ fun _ h => h⟩
  have := hv w' hg (fun u => u = v) rfl
  unfold mvVal at this
  unfold YieldsAt
  by_cases hw : Region.wanted o (yielded ops a.tmps) = true
  · left
    rw [if_pos hw] at this
    refine ⟨hw, ?_⟩
    split at this
    · next heq => obtain ⟨rfl, rfl⟩ := this; exact .inl heq
    · next heq => obtain ⟨rfl, rfl⟩ := this; exact .inr (.inl ⟨heq, rfl⟩)
    · next heq => obtain ⟨rfl, u, hc, rfl⟩ := this; exact .inr (.inr ⟨_, _, heq, hc⟩)
    · exact this.elim
  · right
    rw [if_neg hw] at this
    exact ⟨by simpa using hw, this.symm⟩

theorem wpLins_call {k : Nat} {Q : Act → World → Prop} {j : Nat} {o : Oper} {r : List (Nat × Bool × Oper)} {a : Act} {w : World}
    (h : ∀ K : Act → World → Prop, (∀ a w', Grow w w' → wpLins P ops k Q r a w' → K a w') → mvRun P ops o K a w) : wpLins P ops k Q ((j, false, o) :: r) a w :=
  mvRun_mono (fun _ _ h => ⟨.inr h.1, h.2⟩) (h (fun a' w' => Grow w w' ∧ wpLins P ops k Q r a' w') fun _ _ hg hk => ⟨hg, hk⟩)
theorem wpLins_last {k : Nat} {Q : Act → World → Prop} {o : Oper} {r : List (Nat × Bool × Oper)} {a : Act} {w : World}
    (h : ∀ K : Act → World → Prop, (∀ a w', wpLins P ops k Q r a w' → K a w') → mvRun P ops o K a w) : wpLins P ops k Q ((k, false, o) :: r) a w :=
  mvRun_mono (fun _ _ h => ⟨.inl rfl, h⟩) (h (fun a' w' => wpLins P ops k Q r a' w') fun _ _ hk => hk)
end

end Go.Proofs.YthacjeeafnblmaaDoor
