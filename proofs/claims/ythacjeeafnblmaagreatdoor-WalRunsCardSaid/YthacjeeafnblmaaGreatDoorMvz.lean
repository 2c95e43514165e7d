/- Regions that draw their order and hold calls: one walk; less is kept of a world till one call is made than behind it. Numbers and types by name. -/
import Derived.Test.YthacjeeafnblmaaGreatDoorPr
namespace Go.Proofs.YthacjeeafnblmaaGreatDoor
open Go.RowKit Go.Lib
section
variable {P : Program} {ops : Array Oper} {md : Region.Mode}

/-- What is kept: GA till the call z is made, GB behind it. -/
def relZ (GA GB : World → World → Prop) (z : Nat) (listed : Array Bool) : World → World → Prop := if listed.getD z true = true then GB else GA

theorem relZ_refl {GA GB : World → World → Prop} (a0 : ∀ w, GA w w) (b0 : ∀ w, GB w w) (z : Nat) (listed : Array Bool) (w : World) : relZ GA GB z listed w w := by
  unfold relZ; split
  · exact b0 w
  · exact a0 w
theorem relZ_trans {GA GB : World → World → Prop} (a1 : ∀ {a b c}, GA a b → GA b c → GA a c) (b1 : ∀ {a b c}, GB a b → GB b c → GB a c) (z : Nat) (listed : Array Bool) {a b c : World} (h : relZ GA GB z listed a b) (k : relZ GA GB z listed b c) : relZ GA GB z listed a c := by
  unfold relZ at *; split
  · rename_i h0; rw [if_pos h0] at h k; exact b1 h k
  · rename_i h0; rw [if_neg h0] at h k; exact a1 h k
theorem relZ_less {GA GB : World → World → Prop} (ba : ∀ {a b}, GB a b → GA a b) (z : Nat) {listed : Array Bool} {i : Nat} {a b : World} (h : relZ GA GB z (listed.setIfInBounds i true) a b) : relZ GA GB z listed a b := by
  unfold relZ at *
  by_cases h0 : listed.getD z true = true
  · rw [if_pos h0]
    have h1 : (listed.setIfInBounds i true).getD z true = true := by
      by_cases hiz : i = z
      · subst hiz
        simp [Array.getD]
      · rw [getD_set_ne true hiz]; exact h0
    rw [if_pos h1] at h
    exact h
  · rw [if_neg h0]
    split at h
    · exact ba h
    · exact h

/-- Every order, each step into a later world. -/
def wpMvz (GA GB : World → World → Prop) (z : Nat) (P : Program) (md : Region.Mode) (ops : Array Oper) (Q : Act → World → Prop) : Nat → Array Bool → Act → World → Prop
  | 0, listed, a, w => Region.ready md ops listed = [] ∧ Q a w
  | fuel + 1, listed, a, w =>
    (Region.ready md ops listed = [] → Q a w) ∧
    ∀ i ∈ Region.ready md ops listed, mvOp P ops i (fun a' w' => relZ GA GB z listed w w' ∧ wpMvz GA GB z P md ops Q fuel (listed.setIfInBounds i true) a' w') a w

theorem wpAny_of_mvz {GA GB : World → World → Prop} {z : Nat} {Q : Act → World → Prop} {Q' : Exit → Act → World → Prop} (hQ : ∀ a w, Q a w → Q' .normal a w) : ∀ (fuel : Nat) (listed : Array Bool) (a : Act) (w : World),
    wpMvz GA GB z P md ops Q fuel listed a w → wpAny P md ops Q' fuel listed a w
  | 0, _, _, _, h => ⟨h.1, hQ _ _ h.2⟩
  | fuel + 1, _, _, _, h => ⟨fun h0 => hQ _ _ (h.1 h0), fun i hi => wpOp_mono (fun a' w' h' => wpAny_of_mvz hQ fuel _ a' w' h'.2) (wpOp_of_mvOp (h.2 i hi))⟩

theorem wpMvz_first {GA GB : World → World → Prop} {z : Nat} (a0 : ∀ w, GA w w) (b0 : ∀ w, GB w w) (a1 : ∀ {a b c}, GA a b → GA b c → GA a c) (b1 : ∀ {a b c}, GB a b → GB b c → GB a c) (ba : ∀ {a b}, GB a b → GA a b) {Q : Act → World → Prop} {i : Nat} {oi : Oper} {v : Value} (hi : ops[i]? = some oi) (hsel : ∀ (j : Nat) (o : Oper) cs b, ops[j]? = some o → o.op ≠ .select cs b) :
    ∀ (fuel : Nat) (listed : Array Bool) (a : Act) (w : World),
      (∀ j oj, ops[j]? = some oj → j ≠ i → listed.getD j true = false → (∀ e ∈ oj.after, Region.binds md e = true → e.on ≠ i) → oi.apart ops oj = true) →
      i ∈ Region.ready md ops listed → Upg (relZ GA GB z listed) P ops w oi v a →
      wpMvz GA GB z P md ops Q fuel (listed.setIfInBounds i true) (a.put oi.dst v) w → wpMvz GA GB z P md ops Q (fuel + 1) listed a w := by
  intro fuel
  induction fuel with
  | zero =>
    intro listed a w _ hr hy H
    refine ⟨fun h => (by rw [h] at hr; cases hr), fun j hj => ?_⟩
    by_cases hji : j = i
    · subst hji; exact YieldsAt.mvOp hi (hy w (relZ_refl a0 b0 z listed w)) ⟨relZ_refl a0 b0 z listed w, H⟩
    · have := ready_mono hj hji
      rw [H.1] at this
      cases this
  | succ fuel ih =>
    intro listed a w hfree hr hy H
    refine ⟨fun h => (by rw [h] at hr; cases hr), fun j hj => ?_⟩
    by_cases hji : j = i
    · subst hji; exact YieldsAt.mvOp hi (hy w (relZ_refl a0 b0 z listed w)) ⟨relZ_refl a0 b0 z listed w, H⟩
    · have h1 := mvOp_mono (K' := fun a' w' => relZ GA GB z listed w w' ∧ wpMvz GA GB z P md ops Q fuel ((listed.setIfInBounds i true).setIfInBounds j true) a' w') (fun a' w' h => ⟨relZ_less ba z h.1, h.2⟩) (H.2 j (ready_mono hj hji))
      obtain ⟨hjun, oj, hoj, hall⟩ := mem_ready.1 hj
      have hnot : ∀ e ∈ oj.after, Region.binds md e = true → e.on ≠ i := fun e he hb heq => by
        have h1 := hall e he hb
        have h0 := (mem_ready.1 hr).1
        rw [heq] at h1
        rcases Nat.lt_or_ge i listed.size with h' | h'
        · simp [h'] at h0 h1; rw [h0] at h1; cases h1
        · simp [Array.getElem?_eq_none h'] at h1
      have h2 := mvOp_putg (G := relZ GA GB z listed) (fun h k => relZ_trans (GA := GA) (GB := GB) a1 b1 z listed h k) hoj (hfree j oj hoj hji hjun hnot) (fun cs b => hsel i oi cs b hi) (fun cs b => hsel j oj cs b hoj) hy h1
      have hfree' : ∀ k ok, ops[k]? = some ok → k ≠ i → (listed.setIfInBounds j true).getD k true = false →
          (∀ e ∈ ok.after, Region.binds md e = true → e.on ≠ i) → oi.apart ops ok = true := fun k ok hk hki hun hno => by
        refine hfree k ok hk hki ?_ hno
        by_cases hjk : j = k
        · subst hjk; exact hjun
        · rw [getD_set_ne true hjk] at hun; exact hun
      refine mvOp_mono (fun a' w' h3 => ⟨h3.1, ih (listed.setIfInBounds j true) a' w' hfree' (ready_mono hr (Ne.symm hji)) (fun w'' hg => h3.2.1 w'' (relZ_less ba z hg)) ?_⟩) h2
      rw [Array.setIfInBounds_comm _ _ hji]
      exact h3.2.2

/-- One walk; the flag: is the call made? -/
def wpLinz (GA GB : World → World → Prop) (z : Nat) (P : Program) (ops : Array Oper) (Q : Act → World → Prop) : List (Nat × Bool × Oper) → Bool → Act → World → Prop
  | [], _, a, w => Q a w
  | (k, true, o) :: r, b, a, w => ∃ v, Upg (cond b GB GA) P ops w o v a ∧ wpLinz GA GB z P ops Q r (b || k == z) (a.put o.dst v) w
  | (k, false, o) :: r, b, a, w => mvRun P ops o (fun a' w' => (cond b GB GA) w w' ∧ wpLinz GA GB z P ops Q r (b || k == z) a' w') a w

theorem rel_flag {GA GB : World → World → Prop} {z : Nat} {listed : Array Bool} {b : Bool} (hb : listed.getD z true = b) : relZ GA GB z listed = cond b GB GA := by
  unfold relZ
  rw [hb]
  cases b <;> rfl
theorem flag_next {z k : Nat} {listed : Array Bool} {b : Bool} (hb : listed.getD z true = b) : (listed.setIfInBounds k true).getD z true = (b || k == z) := by
  by_cases hkz : k = z
  · subst hkz
    simp [Array.getD]
  · rw [getD_set_ne true hkz, hb]
    have : (k == z) = false := by simpa using hkz
    rw [this, Bool.or_false]

theorem wpMvz_of_lin {GA GB : World → World → Prop} {z : Nat} (a0 : ∀ w, GA w w) (b0 : ∀ w, GB w w) (a1 : ∀ {a b c}, GA a b → GA b c → GA a c) (b1 : ∀ {a b c}, GB a b → GB b c → GB a c) (ba : ∀ {a b}, GB a b → GA a b) {Q : Act → World → Prop} (hs : Region.noSelect ops = true) : ∀ (l : List (Nat × Bool × Oper)) (listed : Array Bool) (b : Bool) (a : Act) (w : World), listed.getD z true = b → (∀ x ∈ l, ops[x.1]? = some x.2.2) →
    mvB md ops l listed = true → wpLinz GA GB z P ops Q l b a w → wpMvz GA GB z P md ops Q l.length listed a w
  | [], _, _, _, _, _, _, hB, h => ⟨by simpa [mvB] using hB, h⟩
  | (k, true, o) :: r, listed, b, a, w, hb, hat, hB, h => by
    simp only [mvB, Bool.and_eq_true] at hB
    obtain ⟨v, hy, hK⟩ := h
    have h0 : ops[k]? = some o := hat (k, true, o) (List.mem_cons_self ..)
    exact wpMvz_first a0 b0 a1 b1 ba h0 (Region.noSelect_spec hs) r.length listed a w (Region.free_spec h0 hB.1.2) (by simpa using hB.1.1) (by rw [rel_flag hb]; exact hy)
      (wpMvz_of_lin a0 b0 a1 b1 ba hs r _ _ _ w (flag_next hb) (fun x hx => hat x (by simp [hx])) hB.2 hK)
  | (k, false, o) :: r, listed, b, a, w, hb, hat, hB, h => by
    simp only [mvB, Bool.and_eq_true, decide_eq_true_eq] at hB
    refine ⟨fun h1 => (by rw [hB.1] at h1; cases h1), fun i hi => ?_⟩
    rw [hB.1] at hi
    obtain rfl : i = k := by simpa using hi
    have h0 : ops[i]? = some o := hat (i, false, o) (List.mem_cons_self ..)
    have hm : mvOp P ops i (fun a' w' => (cond b GB GA) w w' ∧ wpLinz GA GB z P ops Q r (b || i == z) a' w') a w := by unfold mvOp; simp only [h0]; exact h
    exact mvOp_mono (fun a' w' h' => ⟨by rw [rel_flag hb]; exact h'.1, wpMvz_of_lin a0 b0 a1 b1 ba hs r _ _ a' w' (flag_next hb) (fun x hx => hat x (by simp [hx])) hB.2 h'.2⟩) hm

theorem wp_region_mvz (GA GB : World → World → Prop) (z : Nat) (a0 : ∀ w, GA w w) (b0 : ∀ w, GB w w) (a1 : ∀ {a b c}, GA a b → GA b c → GA a c) (b1 : ∀ {a b c}, GB a b → GB b c → GB a c) (ba : ∀ {a b}, GB a b → GA a b) {id : Nat} {Q : Exit → Act → World → Prop} {a : Act} {w : World} {l : List Oper} (segs : List (Nat × Nat × Bool)) (hm : P.follows .mixedOrders = true) (hz : decide (z < l.length) = true) (hB : mvOk l.toArray (mvAll segs l) = true)
    (h : wpLinz GA GB z P l.toArray (fun a' w' => Q .normal a' w') (mvAll segs l) false a w.drew) : (Code.region id l.toArray true).wp P Q a w := by
  simp only [mvOk, Bool.and_eq_true, beq_iff_eq] at hB
  refine wp_region_any hm (wpAny_of_mvz (GA := GA) (GB := GB) (z := z) (Q := fun a' w' => Q .normal a' w') (fun _ _ h => h) _ _ _ _ ?_)
  have hz' : z < l.length := of_decide_eq_true hz
  have := wpMvz_of_lin (md := .any) a0 b0 a1 b1 ba hB.1.1 (mvAll segs l) (Array.replicate l.toArray.size false) false a w.drew (by simp [Array.getD, hz']) (mvAll_at l segs) hB.2 h
  rw [hB.1.2] at this
  exact this

theorem wpLz_nil {GA GB : World → World → Prop} {z : Nat} {b : Bool} {Q : Act → World → Prop} {a : Act} {w : World} (h : Q a w) : wpLinz GA GB z P ops Q [] b a w := h
theorem ups_of {G : World → World → Prop} {o : Oper} {a : Act} {w : World} (v : Value) (hv : ∀ w', G w w' → ∀ K : Value → Prop, K v → mvVal P ops o a w' K) : Upg G P ops w o v a := fun w' hg => by
  have := hv w' hg (fun u => u = v) rfl
  unfold mvVal at this
  unfold YieldsAt
  by_cases hw : Region.wanted o (yielded ops a.tmps) = true
  · left
    rw [if_pos hw] at this
    refine ⟨hw, ?_⟩
    split at this
    · next heq => obtain ⟨rfl, rfl⟩ := this; exact .inl heq
    · next heq => obtain ⟨rfl, rfl⟩ := this; exact .inr (.inl ⟨heq, rfl⟩)
    · next heq => obtain ⟨rfl, u, hc, rfl⟩ := this; exact .inr (.inr ⟨_, _, heq, hc⟩)
    · exact this.elim
  · right
    rw [if_neg hw] at this
    exact ⟨by simpa using hw, this.symm⟩
/-- Ahead of the call z. -/
theorem wpLza_still {GA GB : World → World → Prop} {z : Nat} {Q : Act → World → Prop} {k : Nat} {o : Oper} {r : List (Nat × Bool × Oper)} {a : Act} {w : World} (hk : (k == z) = false) (v : Value) (hv : ∀ w', GA w w' → ∀ K : Value → Prop, K v → mvVal P ops o a w' K)
    (h : ∀ K : Act → Prop, (∀ a, wpLinz GA GB z P ops Q r false a w → K a) → K (a.put o.dst v)) : wpLinz GA GB z P ops Q ((k, true, o) :: r) false a w :=
  ⟨v, ups_of v hv, by rw [Bool.false_or, hk]; exact h _ fun _ h => h⟩
theorem wpLza_call {GA GB : World → World → Prop} {z : Nat} {Q : Act → World → Prop} {k : Nat} {o : Oper} {r : List (Nat × Bool × Oper)} {a : Act} {w : World} (hk : (k == z) = false)
    (h : ∀ K : Act → World → Prop, (∀ a w', GA w w' → wpLinz GA GB z P ops Q r false a w' → K a w') → mvRun P ops o K a w) : wpLinz GA GB z P ops Q ((k, false, o) :: r) false a w :=
  mvRun_mono (fun _ _ h => ⟨h.1, by rw [Bool.false_or, hk]; exact h.2⟩) (h (fun a' w' => GA w w' ∧ wpLinz GA GB z P ops Q r false a' w') fun _ _ hg hk => ⟨hg, hk⟩)
/-- The call z. -/
theorem wpLz_turn {GA GB : World → World → Prop} {z : Nat} {Q : Act → World → Prop} {o : Oper} {r : List (Nat × Bool × Oper)} {a : Act} {w : World}
    (h : ∀ K : Act → World → Prop, (∀ a w', GA w w' → wpLinz GA GB z P ops Q r true a w' → K a w') → mvRun P ops o K a w) : wpLinz GA GB z P ops Q ((z, false, o) :: r) false a w :=
  mvRun_mono (fun _ _ h => ⟨h.1, by rw [Bool.false_or, beq_self_eq_true]; exact h.2⟩) (h (fun a' w' => GA w w' ∧ wpLinz GA GB z P ops Q r true a' w') fun _ _ hg hk => ⟨hg, hk⟩)
/-- Behind the call z. -/
theorem wpLzb_still {GA GB : World → World → Prop} {z : Nat} {Q : Act → World → Prop} {k : Nat} {o : Oper} {r : List (Nat × Bool × Oper)} {a : Act} {w : World} (v : Value) (hv : ∀ w', GB w w' → ∀ K : Value → Prop, K v → mvVal P ops o a w' K)
    (h : ∀ K : Act → Prop, (∀ a, wpLinz GA GB z P ops Q r true a w → K a) → K (a.put o.dst v)) : wpLinz GA GB z P ops Q ((k, true, o) :: r) true a w :=
  ⟨v, ups_of v hv, by rw [Bool.true_or]; exact h _ fun _ h => h⟩
theorem wpLzb_call {GA GB : World → World → Prop} {z : Nat} {Q : Act → World → Prop} {k : Nat} {o : Oper} {r : List (Nat × Bool × Oper)} {a : Act} {w : World}
    (h : ∀ K : Act → World → Prop, (∀ a w', GB w w' → wpLinz GA GB z P ops Q r true a w' → K a w') → mvRun P ops o K a w) : wpLinz GA GB z P ops Q ((k, false, o) :: r) true a w :=
  mvRun_mono (fun _ _ h => ⟨h.1, by rw [Bool.true_or]; exact h.2⟩) (h (fun a' w' => GB w w' ∧ wpLinz GA GB z P ops Q r true a' w') fun _ _ hg hk => ⟨hg, hk⟩)
end

end Go.Proofs.YthacjeeafnblmaaGreatDoor
