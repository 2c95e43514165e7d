/- Regions that draw their order and end with an operation that may write what was there: one walk, whatever is kept of a world. Numbers and types by name. -/
import Derived.Test.YthglbmnhlnpmkaaGreatPr
import Derived.Test.YthglbmnhlnpmkaaGreatMvs
namespace Go.Proofs.YthglbmnhlnpmkaaGreat
open Go.RowKit Go.Lib
section
variable {P : Program} {md : Region.Mode} {ops : Array Oper}

/-- Every order; each step but the one of place k into a later world. -/
def wpMgs (G : World → World → Prop) (P : Program) (md : Region.Mode) (ops : Array Oper) (k : Nat) (Q : Act → World → Prop) : Nat → Array Bool → Act → World → Prop
  | 0, listed, a, w => Region.ready md ops listed = [] ∧ Q a w
  | fuel + 1, listed, a, w =>
    (Region.ready md ops listed = [] → Q a w) ∧
    ∀ i ∈ Region.ready md ops listed, mvOp P ops i (fun a' w' => (i = k ∨ G w w') ∧ wpMgs G P md ops k Q fuel (listed.setIfInBounds i true) a' w') a w

theorem wpAny_of_mgs {G : World → World → Prop} {k : Nat} {Q : Act → World → Prop} {Q' : Exit → Act → World → Prop} (hQ : ∀ a w, Q a w → Q' .normal a w) : ∀ (fuel : Nat) (listed : Array Bool) (a : Act) (w : World),
    wpMgs G P md ops k Q fuel listed a w → wpAny P md ops Q' fuel listed a w
  | 0, _, _, _, h => ⟨h.1, hQ _ _ h.2⟩
  | fuel + 1, _, _, _, h => ⟨fun h0 => hQ _ _ (h.1 h0), fun i hi => wpOp_mono (fun a' w' h' => wpAny_of_mgs hQ fuel _ a' w' h'.2) (wpOp_of_mvOp (h.2 i hi))⟩

theorem wpMgs_first {G : World → World → Prop} (g0 : ∀ w, G w w) (g1 : ∀ {a b c}, G a b → G b c → G a c) {k : Nat} {Q : Act → World → Prop} {i : Nat} {oi : Oper} {v : Value} (hi : ops[i]? = some oi) (hL : waitB md ops k i = true) (hsel : ∀ (j : Nat) (o : Oper) cs b, ops[j]? = some o → o.op ≠ .select cs b) :
    ∀ (fuel : Nat) (listed : Array Bool) (a : Act) (w : World),
      (∀ j oj, ops[j]? = some oj → j ≠ i → listed.getD j true = false → (∀ e ∈ oj.after, Region.binds md e = true → e.on ≠ i) → oi.apart ops oj = true) →
      i ∈ Region.ready md ops listed → Upg G P ops w oi v a →
      wpMgs G P md ops k Q fuel (listed.setIfInBounds i true) (a.put oi.dst v) w → wpMgs G P md ops k Q (fuel + 1) listed a w := by
  intro fuel
  induction fuel with
  | zero =>
    intro listed a w _ hr hy H
    refine ⟨fun h => (by rw [h] at hr; cases hr), fun j hj => ?_⟩
    by_cases hji : j = i
    · subst hji; exact YieldsAt.mvOp hi (hy w (g0 w)) ⟨.inr (g0 w), H⟩
    · have := ready_mono hj hji
      rw [H.1] at this
      cases this
  | succ fuel ih =>
    intro listed a w hfree hr hy H
    refine ⟨fun h => (by rw [h] at hr; cases hr), fun j hj => ?_⟩
    by_cases hji : j = i
    · subst hji; exact YieldsAt.mvOp hi (hy w (g0 w)) ⟨.inr (g0 w), H⟩
    · have hjk : j ≠ k := by
        rintro rfl
        exact wait_not hL (mem_ready.1 hr).1 hj
      have h1 := mvOp_mono (K' := fun a' w' => G w w' ∧ wpMgs G P md ops k Q fuel ((listed.setIfInBounds i true).setIfInBounds j true) a' w') (fun a' w' h => ⟨h.1.resolve_left hjk, h.2⟩) (H.2 j (ready_mono hj hji))
      obtain ⟨hjun, oj, hoj, hall⟩ := mem_ready.1 hj
      have hnot : ∀ e ∈ oj.after, Region.binds md e = true → e.on ≠ i := fun e he hb heq => by
        have h1 := hall e he hb
        have h0 := (mem_ready.1 hr).1
        rw [heq] at h1
        rcases Nat.lt_or_ge i listed.size with h' | h'
        · simp [h'] at h0 h1; rw [h0] at h1; cases h1
        · simp [Array.getElem?_eq_none h'] at h1
      have h2 := mvOp_putg (G := G) g1 hoj (hfree j oj hoj hji hjun hnot) (fun cs b => hsel i oi cs b hi) (fun cs b => hsel j oj cs b hoj) hy h1
      have hfree' : ∀ q ok, ops[q]? = some ok → q ≠ i → (listed.setIfInBounds j true).getD q true = false →
          (∀ e ∈ ok.after, Region.binds md e = true → e.on ≠ i) → oi.apart ops ok = true := fun q ok hk hki hun hno => by
        refine hfree q ok hk hki ?_ hno
        by_cases hjk : j = q
        · subst hjk; exact hjun
        · rw [getD_set_ne true hjk] at hun; exact hun
      refine mvOp_mono (fun a' w' h3 => ⟨.inr h3.1, ih (listed.setIfInBounds j true) a' w' hfree' (ready_mono hr (Ne.symm hji)) h3.2.1 ?_⟩) h2
      rw [Array.setIfInBounds_comm _ _ hji]
      exact h3.2.2

/-- One walk. -/
def wpLgs (G : World → World → Prop) (P : Program) (ops : Array Oper) (k : Nat) (Q : Act → World → Prop) : List (Nat × Bool × Oper) → Act → World → Prop
  | [], a, w => Q a w
  | (_, true, o) :: r, a, w => ∃ v, Upg G P ops w o v a ∧ wpLgs G P ops k Q r (a.put o.dst v) w
  | (j, false, o) :: r, a, w => mvRun P ops o (fun a' w' => (j = k ∨ G w w') ∧ wpLgs G P ops k Q r a' w') a w

theorem wpMgs_of_lin {G : World → World → Prop} (g0 : ∀ w, G w w) (g1 : ∀ {a b c}, G a b → G b c → G a c) {k : Nat} {Q : Act → World → Prop} (hs : Region.noSelect ops = true) : ∀ (l : List (Nat × Bool × Oper)) (listed : Array Bool) (a : Act) (w : World), (∀ x ∈ l, ops[x.1]? = some x.2.2) → (∀ x ∈ l, x.2.1 = true → waitB md ops k x.1 = true) →
    mvB md ops l listed = true → wpLgs G P ops k Q l a w → wpMgs G P md ops k Q l.length listed a w
  | [], _, _, _, _, _, hB, h => ⟨by simpa [mvB] using hB, h⟩
  | (j, true, o) :: r, listed, a, w, hat, hnk, hB, h => by
    simp only [mvB, Bool.and_eq_true] at hB
    obtain ⟨v, hy, hK⟩ := h
    have h0 : ops[j]? = some o := hat (j, true, o) (List.mem_cons_self ..)
    exact wpMgs_first (G := G) g0 g1 h0 (hnk (j, true, o) (List.mem_cons_self ..) rfl) (Region.noSelect_spec hs) r.length listed a w (Region.free_spec h0 hB.1.2) (by simpa using hB.1.1) hy
      (wpMgs_of_lin (G := G) g0 g1 hs r _ _ w (fun x hx => hat x (by simp [hx])) (fun x hx => hnk x (by simp [hx])) hB.2 hK)
  | (j, false, o) :: r, listed, a, w, hat, hnk, hB, h => by
    simp only [mvB, Bool.and_eq_true, decide_eq_true_eq] at hB
    refine ⟨fun h1 => (by rw [hB.1] at h1; cases h1), fun i hi => ?_⟩
    rw [hB.1] at hi
    obtain rfl : i = j := by simpa using hi
    have h0 : ops[i]? = some o := hat (i, false, o) (List.mem_cons_self ..)
    have hm : mvOp P ops i (fun a' w' => (i = k ∨ G w w') ∧ wpLgs G P ops k Q r a' w') a w := by unfold mvOp; simp only [h0]; exact h
    exact mvOp_mono (fun a' w' h' => ⟨h'.1, wpMgs_of_lin (G := G) g0 g1 hs r _ a' w' (fun x hx => hat x (by simp [hx])) (fun x hx => hnk x (by simp [hx])) hB.2 h'.2⟩) hm

theorem wp_region_mgs (G : World → World → Prop) (g0 : ∀ w, G w w) (g1 : ∀ {a b c}, G a b → G b c → G a c) {id : Nat} {Q : Exit → Act → World → Prop} {a : Act} {w : World} {l : List Oper} (k : Nat) (segs : List (Nat × Nat × Bool)) (hm : P.follows .mixedOrders = true) (hB : mvsOk l.toArray k (mvAll segs l) = true)
    (h : wpLgs G P l.toArray k (fun a' w' => Q .normal a' w') (mvAll segs l) a w.drew) : (Code.region id l.toArray true).wp P Q a w := by
  simp only [mvsOk, mvOk, Bool.and_eq_true, beq_iff_eq] at hB
  refine wp_region_any hm (wpAny_of_mgs (G := G) (k := k) (Q := fun a' w' => Q .normal a' w') (fun _ _ h => h) _ _ _ _ ?_)
  have := wpMgs_of_lin (G := G) g0 g1 (md := .any) (k := k) hB.1.1.1 (mvAll segs l) (Array.replicate l.toArray.size false) a w.drew (mvAll_at l segs) (fun x hx hb => by
    have := List.all_eq_true.1 hB.2 x hx
    simp only [Bool.or_eq_true, Bool.not_eq_true'] at this
    rcases this with h | h
    · rw [hb] at h; cases h
    · exact h) hB.1.2 h
  rw [hB.1.1.2] at this
  exact this

theorem wpLgs_nil {G : World → World → Prop} {k : Nat} {Q : Act → World → Prop} {a : Act} {w : World} (h : Q a w) : wpLgs G P ops k Q [] a w := h

theorem wpLgs_still {G : World → World → Prop} {k : Nat} {Q : Act → World → Prop} {j : Nat} {o : Oper} {r : List (Nat × Bool × Oper)} {a : Act} {w : World} (v : Value) (hv : ∀ w', G w w' → ∀ K : Value → Prop, K v → mvVal P ops o a w' K)
    (h : ∀ K : Act → Prop, (∀ a, wpLgs G P ops k Q r a w → K a) → K (a.put o.dst v)) : wpLgs G P ops k Q ((j, true, o) :: r) a w := by
  refine ⟨v, fun w' hg => ?_, h _ fun _ h => h⟩
  have := hv w' hg (fun u => u = v) rfl
  unfold mvVal at this
  unfold YieldsAt
  by_cases hw : Region.wanted o (yielded ops a.tmps) = true
  · left
    rw [if_pos hw] at this
    refine ⟨hw, ?_⟩
    split at this
    · next heq => obtain ⟨rfl, rfl⟩ := this; exact .inl heq
    · next heq => obtain ⟨rfl, rfl⟩ := this; exact .inr (.inl ⟨heq, rfl⟩)
    · next heq => obtain ⟨rfl, u, hc, rfl⟩ := this; exact .inr (.inr ⟨_, _, heq, hc⟩)
    · exact this.elim
  · right
    rw [if_neg hw] at this
    exact ⟨by simpa using hw, this.symm⟩

theorem wpLgs_call {G : World → World → Prop} {k : Nat} {Q : Act → World → Prop} {j : Nat} {o : Oper} {r : List (Nat × Bool × Oper)} {a : Act} {w : World}
    (h : ∀ K : Act → World → Prop, (∀ a w', G w w' → wpLgs G P ops k Q r a w' → K a w') → mvRun P ops o K a w) : wpLgs G P ops k Q ((j, false, o) :: r) a w :=
  mvRun_mono (fun _ _ h => ⟨.inr h.1, h.2⟩) (h (fun a' w' => G w w' ∧ wpLgs G P ops k Q r a' w') fun _ _ hg hk => ⟨hg, hk⟩)
theorem wpLgs_last {G : World → World → Prop} {k : Nat} {Q : Act → World → Prop} {o : Oper} {r : List (Nat × Bool × Oper)} {a : Act} {w : World}
    (h : ∀ K : Act → World → Prop, (∀ a w', wpLgs G P ops k Q r a w' → K a w') → mvRun P ops o K a w) : wpLgs G P ops k Q ((k, false, o) :: r) a w :=
  mvRun_mono (fun _ _ h => ⟨.inl rfl, h⟩) (h (fun a' w' => wpLgs G P ops k Q r a' w') fun _ _ hk => hk)
end

end Go.Proofs.YthglbmnhlnpmkaaGreat
