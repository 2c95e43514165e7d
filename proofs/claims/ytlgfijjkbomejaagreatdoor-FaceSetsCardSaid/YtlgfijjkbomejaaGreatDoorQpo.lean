/- The code's variable. Numbers and types by name. -/
import Derived.Test.YtlgfijjkbomejaaGreatDoorMvg
import Derived.Test.YtlgfijjkbomejaaGreatDoorQpn
/- Regions that draw their order and hold calls that may panic, and two operations at once that move the world: one walk, whatever is kept of a world. Numbers and types by name. -/
namespace Go.Proofs.YtlgfijjkbomejaaGreatDoor
open Go.RowKit Go.Lib
section
variable {P : Program} {ops : Array Oper} {md : Region.Mode}

def mpUpon (P : Program) (Qp : List PanicEntry → World → Prop) (o : Oper) (a : Act) (next : Act → World → Prop) : Result Next → Prop
  | .ok (.value v) w' => next (a.put o.dst v) w'
  | .ok .skip w' => next (a.put o.dst undef) w'
  | .ok (.enter f args) w' => Calls P f args w' fun e w'' => (∃ v, e = .returned v ∧ next (a.put o.dst v) w'') ∨ (∃ c, e = .panicked c ∧ Qp c w'')
  | _ => False
def mpRun (P : Program) (ops : Array Oper) (Qp : List PanicEntry → World → Prop) (o : Oper) (next : Act → World → Prop) (a : Act) (w : World) : Prop :=
  if Region.wanted o (yielded ops a.tmps) then mpUpon P Qp o a next ((execOp a.eval o).run P w) else next (a.put o.dst undef) w
def mpOp (P : Program) (ops : Array Oper) (Qp : List PanicEntry → World → Prop) (i : Nat) (next : Act → World → Prop) (a : Act) (w : World) : Prop :=
  match ops[i]? with
  | none => next a w
  | some o => mpRun P ops Qp o next a w
variable {Qp : List PanicEntry → World → Prop}
theorem mpUpon_mono {o : Oper} {a : Act} {K K' : Act → World → Prop} {r : Result Next} (h : ∀ a' w, a'.defers = a.defers → K a' w → K' a' w) (hh : mpUpon P Qp o a K r) : mpUpon P Qp o a K' r := by
  have hp : ∀ v, (a.put o.dst v).defers = a.defers := fun v => by cases o.dst <;> rfl
  cases r with
  | ok n w' =>
    cases n <;> simp only [mpUpon] at hh ⊢
    case enter f args => exact hh.mono fun e w'' hk => hk.imp (fun ⟨v, he, hk⟩ => ⟨v, he, h _ _ (hp v) hk⟩) id
    all_goals exact h _ _ (hp _) hh
  | halt x w' => simp only [mpUpon] at hh
theorem mpRun_mono {o : Oper} {a : Act} {w : World} {K K' : Act → World → Prop} (h : ∀ a' w, a'.defers = a.defers → K a' w → K' a' w) (hh : mpRun P ops Qp o K a w) : mpRun P ops Qp o K' a w := by
  have hp : ∀ v, (a.put o.dst v).defers = a.defers := fun v => by cases o.dst <;> rfl
  unfold mpRun at *
  split
  · rename_i hw; simp only [hw, if_true] at hh; exact mpUpon_mono h hh
  · rename_i hw; simp only [hw] at hh; exact h _ _ (hp _) hh
theorem mpOp_mono {i : Nat} {a : Act} {w : World} {K K' : Act → World → Prop} (h : ∀ a' w, a'.defers = a.defers → K a' w → K' a' w) (hh : mpOp P ops Qp i K a w) : mpOp P ops Qp i K' a w := by
  unfold mpOp at *
  split
  · exact h _ _ rfl (by simpa [*] using hh)
  · rename_i o ho; simp only [ho] at hh; exact mpRun_mono h hh
theorem wpOp_of_mpOp {i : Nat} {a : Act} {w : World} {K : Act → World → Prop} {Q : Exit → Act → World → Prop} (hQp : ∀ c w, Qp c w → ∀ a' : Act, a'.defers = a.defers → Q (.panic c) a' w) (hh : mpOp P ops Qp i K a w) : wpOp P ops Q i K a w := by
  unfold mpOp at hh
  unfold wpOp
  split
  · rename_i ho; simp only [ho] at hh; exact hh
  · rename_i o ho
    simp only [ho, mpRun] at hh
    split
    · rename_i hw
      simp only [hw, if_true] at hh
      left
      unfold Oper.wp
      generalize (execOp a.eval o).run P w = r at *
      cases r with
      | ok n w' =>
        cases n <;> simp only [mpUpon] at hh <;> simp only [Oper.upon]
        case enter f args =>
          refine hh.mono fun e w'' hk => ?_
          rcases hk with ⟨v, he, hk⟩ | ⟨c, he, hk⟩
          · subst he; exact hk
          · subst he; exact hQp c w'' hk _ rfl
        all_goals exact hh
      | halt x w' => simp only [mpUpon] at hh
    · rename_i hw; simp only [hw] at hh; exact hh

/-- Every order, each step into a later world. -/
def wpMp (z : Nat) (G : World → World → Prop) (Qp : List PanicEntry → World → Prop) (P : Program) (md : Region.Mode) (ops : Array Oper) (Q : Act → World → Prop) : Nat → Array Bool → Act → World → Prop
  | 0, listed, a, w => Region.ready md ops listed = [] ∧ Q a w
  | fuel + 1, listed, a, w =>
    (Region.ready md ops listed = [] → Q a w) ∧
    ∀ i ∈ Region.ready md ops listed, mpOp P ops Qp i (fun a' w' => (i = z ∨ G w w') ∧ wpMp z G Qp P md ops Q fuel (listed.setIfInBounds i true) a' w') a w
theorem wpAny_of_mp {z : Nat} {G : World → World → Prop} {Q : Act → World → Prop} {Q' : Exit → Act → World → Prop} {ds : List Deferred} (hQ : ∀ a w, Q a w → Q' .normal a w) (hQp : ∀ c w, Qp c w → ∀ a' : Act, a'.defers = ds → Q' (.panic c) a' w) : ∀ (fuel : Nat) (listed : Array Bool) (a : Act) (w : World),
    a.defers = ds → wpMp z G Qp P md ops Q fuel listed a w → wpAny P md ops Q' fuel listed a w
  | 0, _, _, _, _, h => ⟨h.1, hQ _ _ h.2⟩
  | fuel + 1, _, a, _, hd, h => ⟨fun h0 => hQ _ _ (h.1 h0), fun i hi => wpOp_mono (fun a' w' h' => wpAny_of_mp hQ hQp fuel _ a' w' (h'.1.trans hd) h'.2.2) (wpOp_of_mpOp (fun c w hc a' ha => hQp c w hc a' (ha.trans hd)) (mpOp_mono (fun a' w hd' hk => (show a'.defers = a.defers ∧ _ from ⟨hd', hk⟩)) (h.2 i hi)))⟩

theorem YieldsAt.mpOp {i : Nat} {o : Oper} {v : Value} {a : Act} {w : World} (hi : ops[i]? = some o) (hy : YieldsAt P ops w o v a) {K : Act → World → Prop} (h : K (a.put o.dst v) w) : mpOp P ops Qp i K a w := by
  unfold Proofs.YtlgfijjkbomejaaGreatDoor.mpOp mpRun
  simp only [hi]
  rcases hy with ⟨hw, hv | ⟨hv, rfl⟩ | ⟨f, args, hv, hc⟩⟩ | ⟨hw, rfl⟩
  · simp only [hw, if_true, hv, mpUpon]; exact h
  · simp only [hw, if_true, hv, mpUpon]; exact h
  · simp only [hw, if_true, hv, mpUpon]; exact hc.mono fun e w'' ⟨he, hw''⟩ => .inl ⟨v, he, by subst hw''; exact h⟩
  · simp only [hw, Bool.false_eq_true, if_false]; exact h
theorem mpOp_putg {G : World → World → Prop} (g1 : ∀ {a b c}, G a b → G b c → G a c) {j : Nat} {oi oj : Oper} {v : Value} {w : World} (hj : ops[j]? = some oj) (hap : oi.apart ops oj = true)
    (hsi : ∀ cs b, oi.op ≠ .select cs b) (hsj : ∀ cs b, oj.op ≠ .select cs b) {K : Act → World → Prop} {a : Act}
    (hy : Upg G P ops w oi v a) (h : mpOp P ops Qp j (fun a' w' => G w w' ∧ K a' w') (a.put oi.dst v) w) :
    mpOp P ops Qp j (fun a' w' => G w w' ∧ (Upg G P ops w' oi v a' ∧ K (a'.put oi.dst v) w')) a w := by
  obtain ⟨h1, h2, h3⟩ := Oper.apart_spec hap
  have keep : ∀ (w' : World) (u : Value), G w w' → Upg G P ops w' oi v (a.put oj.dst u) := fun w' u hg w'' hg' =>
    (hy w'' (g1 hg hg')).of_same (execOp_put oi hsi a oj.dst u h3) (wanted_put oi a oj.dst u h3)
  unfold mpOp mpRun at *
  simp only [hj] at *
  rw [wanted_put oj a oi.dst v h1] at h
  split
  · rename_i hw
    simp only [hw, if_true] at h
    rw [execOp_put oj hsj a oi.dst v h1] at h
    generalize (execOp a.eval oj).run P w = r at *
    cases r with
    | ok n w' =>
      cases n <;> simp only [mpUpon] at h ⊢
      case value u => exact ⟨h.1, keep _ u h.1, by rw [← Act.put_comm a v u h2]; exact h.2⟩
      case skip => exact ⟨h.1, keep _ _ h.1, by rw [← Act.put_comm a v undef h2]; exact h.2⟩
      case enter f args => exact h.mono fun e w'' hk => hk.imp (fun ⟨u, he, hg, hk⟩ => ⟨u, he, hg, keep _ u hg, by rw [← Act.put_comm a v u h2]; exact hk⟩) id
    | halt x w' => simp only [mpUpon] at h
  · rename_i hw
    simp only [hw] at h
    exact ⟨h.1, keep _ _ h.1, by rw [← Act.put_comm a v undef h2]; exact h.2⟩
theorem wpMp_first {z : Nat} {G : World → World → Prop} (g0 : ∀ w, G w w) (g1 : ∀ {a b c}, G a b → G b c → G a c) {Q : Act → World → Prop} {i : Nat} {oi : Oper} {v : Value} (hi : ops[i]? = some oi) (hsel : ∀ (j : Nat) (o : Oper) cs b, ops[j]? = some o → o.op ≠ .select cs b) (hz : ∀ oz, ops[z]? = some oz → ∃ e ∈ oz.after, Region.binds md e = true ∧ e.on = i) :
    ∀ (fuel : Nat) (listed : Array Bool) (a : Act) (w : World),
      (∀ j oj, ops[j]? = some oj → j ≠ i → listed.getD j true = false → (∀ e ∈ oj.after, Region.binds md e = true → e.on ≠ i) → oi.apart ops oj = true) →
      i ∈ Region.ready md ops listed → Upg G P ops w oi v a →
      wpMp z G Qp P md ops Q fuel (listed.setIfInBounds i true) (a.put oi.dst v) w → wpMp z G Qp P md ops Q (fuel + 1) listed a w := by
  intro fuel
  induction fuel with
  | zero =>
    intro listed a w _ hr hy H
    refine ⟨fun h => (by rw [h] at hr; cases hr), fun j hj => ?_⟩
    by_cases hji : j = i
    · subst hji; exact YieldsAt.mpOp hi (hy w (g0 w)) ⟨.inr (g0 w), H⟩
    · have := ready_mono hj hji
      rw [H.1] at this
      cases this
  | succ fuel ih =>
    intro listed a w hfree hr hy H
    refine ⟨fun h => (by rw [h] at hr; cases hr), fun j hj => ?_⟩
    by_cases hji : j = i
    · subst hji; exact YieldsAt.mpOp hi (hy w (g0 w)) ⟨.inr (g0 w), H⟩
    · have h1 := H.2 j (ready_mono hj hji)
      obtain ⟨hjun, oj, hoj, hall⟩ := mem_ready.1 hj
      have hnot : ∀ e ∈ oj.after, Region.binds md e = true → e.on ≠ i := fun e he hb heq => by
        have h1 := hall e he hb
        have h0 := (mem_ready.1 hr).1
        rw [heq] at h1
        rcases Nat.lt_or_ge i listed.size with h' | h'
        · simp [h'] at h0 h1; rw [h0] at h1; cases h1
        · simp [Array.getElem?_eq_none h'] at h1
      have hjz : j ≠ z := by
        rintro rfl
        obtain ⟨e, he, hb, heq⟩ := hz oj hoj
        exact hnot e he hb heq
      replace h1 := mpOp_mono (K' := fun a' w' => G w w' ∧ wpMp z G Qp P md ops Q fuel ((listed.setIfInBounds i true).setIfInBounds j true) a' w') (fun a' w' _ h => ⟨h.1.resolve_left hjz, h.2⟩) h1
      have h2 := mpOp_putg (G := G) g1 hoj (hfree j oj hoj hji hjun hnot) (fun cs b => hsel i oi cs b hi) (fun cs b => hsel j oj cs b hoj) hy h1
      have hfree' : ∀ k ok, ops[k]? = some ok → k ≠ i → (listed.setIfInBounds j true).getD k true = false →
          (∀ e ∈ ok.after, Region.binds md e = true → e.on ≠ i) → oi.apart ops ok = true := fun k ok hk hki hun hno => by
        refine hfree k ok hk hki ?_ hno
        by_cases hjk : j = k
        · subst hjk; exact hjun
        · rw [getD_set_ne true hjk] at hun; exact hun
      refine mpOp_mono (fun a' w' _ h3 => ⟨.inr h3.1, ih (listed.setIfInBounds j true) a' w' hfree' (ready_mono hr (Ne.symm hji)) h3.2.1 ?_⟩) h2
      rw [Array.setIfInBounds_comm _ _ hji]
      exact h3.2.2

/-- The walk: one that may be taken first; one that alone is ready; two that are. -/
inductive Wk where
  | done
  | still (k : Nat) (r : Wk)
  | one (k : Nat) (r : Wk)
  | two (k : Nat) (r : Wk) (j : Nat) (q : Wk)
def mpZ (md : Region.Mode) (ops : Array Oper) (z k : Nat) : Bool :=
  match ops[z]? with
  | none => true
  | some oz => oz.after.any fun e => Region.binds md e && e.on == k
def mpB (z : Nat) (md : Region.Mode) (ops : Array Oper) : Nat → Wk → Array Bool → Bool
  | 0, .done, listed => (Region.ready md ops listed).isEmpty
  | n + 1, .still k r, listed => (Region.ready md ops listed).contains k && Region.free md ops listed k && mpZ md ops z k && mpB z md ops n r (listed.setIfInBounds k true)
  | n + 1, .one k r, listed => decide (Region.ready md ops listed = [k]) && mpB z md ops n r (listed.setIfInBounds k true)
  | n + 1, .two k r j q, listed => ((Region.ready md ops listed).all fun i => i == k || i == j) && decide (Region.ready md ops listed ≠ []) && mpB z md ops n r (listed.setIfInBounds k true) && mpB z md ops n q (listed.setIfInBounds j true)
  | _, _, _ => false
/-- One walk. -/
def wpWk (z : Nat) (G : World → World → Prop) (Qp : List PanicEntry → World → Prop) (P : Program) (ops : Array Oper) (Q : Act → World → Prop) : Wk → Act → World → Prop
  | .done, a, w => Q a w
  | .still k r, a, w => ∃ o v, ops[k]? = some o ∧ Upg G P ops w o v a ∧ wpWk z G Qp P ops Q r (a.put o.dst v) w
  | .one k r, a, w => mpOp P ops Qp k (fun a' w' => (k = z ∨ G w w') ∧ wpWk z G Qp P ops Q r a' w') a w
  | .two k r j q, a, w => mpOp P ops Qp k (fun a' w' => (k = z ∨ G w w') ∧ wpWk z G Qp P ops Q r a' w') a w ∧ mpOp P ops Qp j (fun a' w' => (j = z ∨ G w w') ∧ wpWk z G Qp P ops Q q a' w') a w
theorem wpMp_of_wk {z : Nat} {G : World → World → Prop} (g0 : ∀ w, G w w) (g1 : ∀ {a b c}, G a b → G b c → G a c) {Q : Act → World → Prop} (hs : Region.noSelect ops = true) : ∀ (n : Nat) (l : Wk) (listed : Array Bool) (a : Act) (w : World),
    mpB z md ops n l listed = true → wpWk z G Qp P ops Q l a w → wpMp z G Qp P md ops Q n listed a w
  | 0, .done, _, _, _, hB, h => ⟨by simpa [mpB] using hB, h⟩
  | n + 1, .still k r, listed, a, w, hB, h => by
    simp only [mpB, Bool.and_eq_true] at hB
    obtain ⟨o, v, h0, hy, hK⟩ := h
    have hz : ∀ oz, ops[z]? = some oz → ∃ e ∈ oz.after, Region.binds md e = true ∧ e.on = k := fun oz ho => by
      have := hB.1.2
      unfold mpZ at this
      rw [ho] at this
      simp only [Array.any_eq_true, Bool.and_eq_true, beq_iff_eq] at this
      obtain ⟨i, hi, h⟩ := this
      exact ⟨_, Array.getElem_mem hi, h⟩
    exact wpMp_first g0 g1 h0 (Region.noSelect_spec hs) hz n listed a w (Region.free_spec h0 hB.1.1.2) (by simpa using hB.1.1.1) hy (wpMp_of_wk g0 g1 hs n r _ _ w hB.2 hK)
  | n + 1, .one k r, listed, a, w, hB, h => by
    simp only [mpB, Bool.and_eq_true, decide_eq_true_eq] at hB
    refine ⟨fun h1 => (by rw [hB.1] at h1; cases h1), fun i hi => ?_⟩
    rw [hB.1] at hi
    obtain rfl : i = k := by simpa using hi
    exact mpOp_mono (fun a' w' _ h' => ⟨h'.1, wpMp_of_wk g0 g1 hs n r _ a' w' hB.2 h'.2⟩) h
  | n + 1, .two k r j q, listed, a, w, hB, h => by
    simp only [mpB, Bool.and_eq_true, decide_eq_true_eq] at hB
    refine ⟨fun h1 => absurd h1 hB.1.1.2, fun i hi => ?_⟩
    have := List.all_eq_true.1 hB.1.1.1 i hi
    simp only [Bool.or_eq_true, beq_iff_eq] at this
    rcases this with rfl | rfl
    · exact mpOp_mono (fun a' w' _ h' => ⟨h'.1, wpMp_of_wk g0 g1 hs n r _ a' w' hB.1.2 h'.2⟩) h.1
    · exact mpOp_mono (fun a' w' _ h' => ⟨h'.1, wpMp_of_wk g0 g1 hs n q _ a' w' hB.2 h'.2⟩) h.2
theorem wp_region_mp (z : Nat) {id : Nat} {Q : Exit → Act → World → Prop} {a : Act} {w : World} {l : List Oper} (G : World → World → Prop) (g0 : ∀ w, G w w) (g1 : ∀ {a b c}, G a b → G b c → G a c) (Qp : List PanicEntry → World → Prop) (hQp : ∀ c w, Qp c w → ∀ a' : Act, a'.defers = a.defers → Q (.panic c) a' w)
    (wk : Wk) (hm : P.follows .mixedOrders = true) (hB : (Region.noSelect l.toArray && mpB z .any l.toArray l.toArray.size wk (Array.replicate l.toArray.size false)) = true)
    (h : wpWk z G Qp P l.toArray (fun a' w' => Q .normal a' w') wk a w.drew) : (Code.region id l.toArray true).wp P Q a w := by
  simp only [Bool.and_eq_true] at hB
  exact wp_region_any hm (wpAny_of_mp (Q := fun a' w' => Q .normal a' w') (fun _ _ h => h) hQp _ _ _ _ rfl (wpMp_of_wk g0 g1 hB.1 _ wk _ a w.drew hB.2 h))

theorem wpWk_still {z : Nat} {G : World → World → Prop} {Q : Act → World → Prop} {k : Nat} {o : Oper} {r : Wk} {a : Act} {w : World} (h0 : ops[k]? = some o) (v : Value) (hv : ∀ w', G w w' → ∀ K : Value → Prop, K v → mvVal P ops o a w' K)
    (h : ∀ K : Act → Prop, (∀ a, wpWk z G Qp P ops Q r a w → K a) → K (a.put o.dst v)) : wpWk z G Qp P ops Q (.still k r) a w := by
  refine ⟨o, v, h0, fun w' hg => ?_, h _ fun _ h => h⟩
  have := hv w' hg (fun u => u = v) rfl
  unfold mvVal at this
  unfold YieldsAt
  by_cases hw : Region.wanted o (yielded ops a.tmps) = true
  · left
    rw [if_pos hw] at this
    refine ⟨hw, ?_⟩
    split at this
    · next heq => obtain ⟨rfl, rfl⟩ := this; exact .inl heq
    · next heq => obtain ⟨rfl, rfl⟩ := this; exact .inr (.inl ⟨heq, rfl⟩)
    · next heq => obtain ⟨rfl, u, hc, rfl⟩ := this; exact .inr (.inr ⟨_, _, heq, hc⟩)
    · exact this.elim
  · right
    rw [if_neg hw] at this
    exact ⟨by simpa using hw, this.symm⟩
theorem wpWk_op {z : Nat} {G : World → World → Prop} {Q : Act → World → Prop} {k : Nat} {o : Oper} {r : Wk} {a : Act} {w : World} (h0 : ops[k]? = some o)
    (h : ∀ K : Act → World → Prop, (∀ a w', k = z ∨ G w w' → wpWk z G Qp P ops Q r a w' → K a w') → mpRun P ops Qp o K a w) : mpOp P ops Qp k (fun a' w' => (k = z ∨ G w w') ∧ wpWk z G Qp P ops Q r a' w') a w := by
  unfold mpOp
  rw [h0]
  exact h _ fun _ _ hg hk => ⟨hg, hk⟩
theorem wpWk_one {z : Nat} {G : World → World → Prop} {Q : Act → World → Prop} {k : Nat} {o : Oper} {r : Wk} {a : Act} {w : World} (h0 : ops[k]? = some o)
    (h : ∀ K : Act → World → Prop, (∀ a w', k = z ∨ G w w' → wpWk z G Qp P ops Q r a w' → K a w') → mpRun P ops Qp o K a w) : wpWk z G Qp P ops Q (.one k r) a w := wpWk_op h0 h
theorem wpWk_two {z : Nat} {G : World → World → Prop} {Q : Act → World → Prop} {k j : Nat} {o o2 : Oper} {r q : Wk} {a : Act} {w : World} (h0 : ops[k]? = some o) (h1 : ops[j]? = some o2)
    (h : ∀ K : Act → World → Prop, (∀ a w', k = z ∨ G w w' → wpWk z G Qp P ops Q r a w' → K a w') → mpRun P ops Qp o K a w)
    (h' : ∀ K : Act → World → Prop, (∀ a w', j = z ∨ G w w' → wpWk z G Qp P ops Q q a w' → K a w') → mpRun P ops Qp o2 K a w) : wpWk z G Qp P ops Q (.two k r j q) a w := ⟨wpWk_op h0 h, wpWk_op h1 h'⟩
end
end Go.Proofs.YtlgfijjkbomejaaGreatDoor

namespace Go.Proofs.YtlgfijjkbomejaaGreatDoor
open Go.RowKit Go.Lib
set_option maxRecDepth 100000

theorem var_is (L : List Tk) (s : PS) : varT L s = (let s3 := wantT L (paramT L s).2 [61]; let s4 := takeT L s3 [45];
    if s4.e ≠ 0 ∨ (curT L s4).kind ≠ 2 then (⟨(paramT L s).1.name, (paramT L s).1.label, 0, (paramT L s).1.pos⟩, failT L s4 11)
    else (⟨(paramT L s).1.name, (paramT L s).1.label, if isT L s3 [45] = true then - (numV (curT L s4).text : Int) else numV (curT L s4).text, (paramT L s).1.pos⟩, wantT L s4.go [59])) := rfl
theorem wrap_pos {n : Nat} (h : n < 1000000000) : IntKind.i64.wrap (n : Int) = (n : Int) := by
  rw [IntKind.wrap_i64]
  omega
theorem wrap_neg {n : Nat} (h : n < 1000000000) : IntKind.i64.wrap (-(n : Int)) = -(n : Int) := by
  rw [IntKind.wrap_i64]
  omega

end Go.Proofs.YtlgfijjkbomejaaGreatDoor
