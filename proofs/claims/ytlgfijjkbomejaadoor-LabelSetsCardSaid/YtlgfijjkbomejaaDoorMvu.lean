/- A region that draws its order, each operation of which yields one and the same value in every later world, though calls may make memory: ONE walk, in any order that fits. Numbers and types by name. -/
import Derived.Test.YtlgfijjkbomejaaDoorMov
namespace Go.Proofs.YtlgfijjkbomejaaDoor
open Go.RowKit Go.Lib
section
variable {P : Program} {md : Region.Mode} {ops : Array Oper}

/-- The operation yields v at w', and leaves a later world. -/
def GYields (P : Program) (ops : Array Oper) (w' : World) (o : Oper) (v : Value) (a : Act) : Prop :=
  (Region.wanted o (yielded ops a.tmps) = true ∧ ((execOp a.eval o).run P w' = .ok (.value v) w' ∨ ((execOp a.eval o).run P w' = .ok .skip w' ∧ v = undef) ∨ ∃ f args, (execOp a.eval o).run P w' = .ok (.enter f args) w' ∧ Calls P f args w' fun e w3 => e = .returned v ∧ Grow w' w3)) ∨ (Region.wanted o (yielded ops a.tmps) = false ∧ v = undef)
def GUps (P : Program) (ops : Array Oper) (w : World) (o : Oper) (v : Value) (a : Act) : Prop := ∀ w', Grow w w' → GYields P ops w' o v a

theorem GUps.of_same {w : World} {o : Oper} {v : Value} {a b : Act} (h : GUps P ops w o v a) (h1 : execOp b.eval o = execOp a.eval o) (h2 : Region.wanted o (yielded ops b.tmps) = Region.wanted o (yielded ops a.tmps)) : GUps P ops w o v b := fun w' hg => by
  have := h w' hg
  unfold GYields at *
  rw [h1, h2]
  exact this

theorem GYields.mvOp {i : Nat} {o : Oper} {v : Value} {a : Act} {w : World} (hi : ops[i]? = some o) (hy : GYields P ops w o v a) {K : Act → World → Prop} (h : ∀ w', Grow w w' → K (a.put o.dst v) w') : mvOp P ops i K a w := by
  unfold Proofs.YtlgfijjkbomejaaDoor.mvOp mvRun
  simp only [hi]
  rcases hy with ⟨hw, hv | ⟨hv, rfl⟩ | ⟨f, args, hv, hc⟩⟩ | ⟨hw, rfl⟩
  · simp only [hw, if_true, hv, mvUpon]; exact h _ (Grow.refl w)
  · simp only [hw, if_true, hv, mvUpon]; exact h _ (Grow.refl w)
  · simp only [hw, if_true, hv, mvUpon]; exact hc.mono fun e w'' ⟨he, hg⟩ => ⟨v, he, h _ hg⟩
  · simp only [hw, Bool.false_eq_true, if_false]; exact h _ (Grow.refl w)

/-- Every order; each operation's value is one in every world later than w. -/
def wpU (P : Program) (md : Region.Mode) (ops : Array Oper) (Q : Act → World → Prop) (w : World) : Nat → Array Bool → Act → Prop
  | 0, listed, a => Region.ready md ops listed = [] ∧ ∀ w', Grow w w' → Q a w'
  | fuel + 1, listed, a =>
    (Region.ready md ops listed = [] → ∀ w', Grow w w' → Q a w') ∧
    ∀ i ∈ Region.ready md ops listed, ∃ o v, ops[i]? = some o ∧ GUps P ops w o v a ∧ wpU P md ops Q w fuel (listed.setIfInBounds i true) (a.put o.dst v)

theorem wpAny_of_U {w : World} {Q : Act → World → Prop} {Q' : Exit → Act → World → Prop} (hQ : ∀ a w, Q a w → Q' .normal a w) : ∀ (fuel : Nat) (listed : Array Bool) (a : Act) (w' : World), Grow w w' →
    wpU P md ops Q w fuel listed a → wpAny P md ops Q' fuel listed a w'
  | 0, _, _, _, hg, h => ⟨h.1, hQ _ _ (h.2 _ hg)⟩
  | fuel + 1, _, _, w', hg, h => ⟨fun h0 => hQ _ _ (h.1 h0 _ hg), fun i hi => by
      obtain ⟨o, v, ho, hu, hk⟩ := h.2 i hi
      exact wpOp_of_mvOp (GYields.mvOp ho (hu w' hg) fun w2 hg2 => wpAny_of_U hQ fuel _ _ w2 (hg.trans hg2) hk)⟩

theorem wpU_first {w : World} {Q : Act → World → Prop} {i : Nat} {oi : Oper} {v : Value} (hi : ops[i]? = some oi) (hsel : ∀ (j : Nat) (o : Oper) cs b, ops[j]? = some o → o.op ≠ .select cs b) :
    ∀ (fuel : Nat) (listed : Array Bool) (a : Act),
      (∀ j oj, ops[j]? = some oj → j ≠ i → listed.getD j true = false → (∀ e ∈ oj.after, Region.binds md e = true → e.on ≠ i) → oi.apart ops oj = true) →
      i ∈ Region.ready md ops listed → GUps P ops w oi v a →
      wpU P md ops Q w fuel (listed.setIfInBounds i true) (a.put oi.dst v) → wpU P md ops Q w (fuel + 1) listed a := by
  intro fuel
  induction fuel with
  | zero =>
    intro listed a _ hr hy H
    refine ⟨fun h => (by rw [h] at hr; cases hr), fun j hj => ?_⟩
    by_cases hji : j = i
    · subst hji; exact ⟨oi, v, hi, hy, H⟩
    · have := ready_mono hj hji
      rw [H.1] at this
      cases this
  | succ fuel ih =>
    intro listed a hfree hr hy H
    refine ⟨fun h => (by rw [h] at hr; cases hr), fun j hj => ?_⟩
    by_cases hji : j = i
    · subst hji; exact ⟨oi, v, hi, hy, H⟩
    · obtain ⟨oj, u, hoj, hu, hk⟩ := H.2 j (ready_mono hj hji)
      obtain ⟨hjun, oj', hoj', hall⟩ := mem_ready.1 hj
      rw [hoj] at hoj'
      cases hoj'
      have hnot : ∀ e ∈ oj.after, Region.binds md e = true → e.on ≠ i := fun e he hb heq => by
        have h1 := hall e he hb
        have h0 := (mem_ready.1 hr).1
        rw [heq] at h1
        rcases Nat.lt_or_ge i listed.size with h' | h'
        · simp [h'] at h0 h1; rw [h0] at h1; cases h1
        · simp [Array.getElem?_eq_none h'] at h1
      have hap := hfree j oj hoj hji hjun hnot
      obtain ⟨h1, h2, h3⟩ := Oper.apart_spec hap
      have hsi : ∀ cs b, oi.op ≠ .select cs b := fun cs b => hsel i oi cs b hi
      have hsj : ∀ cs b, oj.op ≠ .select cs b := fun cs b => hsel j oj cs b hoj
      have hu' : GUps P ops w oj u a := hu.of_same (execOp_put oj hsj a oi.dst v h1).symm (wanted_put oj a oi.dst v h1).symm
      have hy' : GUps P ops w oi v (a.put oj.dst u) := hy.of_same (execOp_put oi hsi a oj.dst u h3) (wanted_put oi a oj.dst u h3)
      refine ⟨oj, u, hoj, hu', ih (listed.setIfInBounds j true) (a.put oj.dst u) (fun k ok hk' hki hun hno => ?_) (ready_mono hr (Ne.symm hji)) hy' ?_⟩
      · refine hfree k ok hk' hki ?_ hno
        by_cases hjk : j = k
        · subst hjk; exact hjun
        · rw [getD_set_ne true hjk] at hun; exact hun
      · rw [Array.setIfInBounds_comm _ _ hji, ← Act.put_comm a v u h2]
        exact hk

/-- One walk. -/
def wpLinU (P : Program) (ops : Array Oper) (Q : Act → World → Prop) (w : World) : List (Nat × Bool × Oper) → Act → Prop
  | [], a => ∀ w', Grow w w' → Q a w'
  | (_, _, o) :: r, a => ∃ v, GUps P ops w o v a ∧ wpLinU P ops Q w r (a.put o.dst v)

def mvBU (md : Region.Mode) (ops : Array Oper) : List (Nat × Bool × Oper) → Array Bool → Bool
  | [], listed => (Region.ready md ops listed).isEmpty
  | (k, _, _) :: r, listed => (Region.ready md ops listed).contains k && Region.free md ops listed k && mvBU md ops r (listed.setIfInBounds k true)

theorem wpU_of_lin {w : World} {Q : Act → World → Prop} (hs : Region.noSelect ops = true) : ∀ (l : List (Nat × Bool × Oper)) (listed : Array Bool) (a : Act), (∀ x ∈ l, ops[x.1]? = some x.2.2) →
    mvBU md ops l listed = true → wpLinU P ops Q w l a → wpU P md ops Q w l.length listed a
  | [], _, _, _, hB, h => ⟨by simpa [mvBU] using hB, h⟩
  | (k, b, o) :: r, listed, a, hat, hB, h => by
    simp only [mvBU, Bool.and_eq_true] at hB
    obtain ⟨v, hy, hK⟩ := h
    have h0 : ops[k]? = some o := hat (k, b, o) (List.mem_cons_self ..)
    exact wpU_first h0 (Region.noSelect_spec hs) r.length listed a (Region.free_spec h0 hB.1.2) (by simpa using hB.1.1) hy
      (wpU_of_lin hs r _ _ (fun x hx => hat x (by simp [hx])) hB.2 hK)

def mvOkU (ops : Array Oper) (items : List (Nat × Bool × Oper)) : Bool := Region.noSelect ops && items.length == ops.size && mvBU .any ops items (Array.replicate ops.size false)

theorem wp_region_mvu {id : Nat} {Q : Exit → Act → World → Prop} {a : Act} {w : World} {l : List Oper} (segs : List (Nat × Nat × Bool)) (hm : P.follows .mixedOrders = true) (hB : mvOkU l.toArray (mvAll segs l) = true)
    (h : wpLinU P l.toArray (fun a' w' => Q .normal a' w') w.drew (mvAll segs l) a) : (Code.region id l.toArray true).wp P Q a w := by
  simp only [mvOkU, Bool.and_eq_true, beq_iff_eq] at hB
  refine wp_region_any hm (wpAny_of_U (w := w.drew) (Q := fun a' w' => Q .normal a' w') (fun _ _ h => h) _ _ _ _ (Grow.refl _) ?_)
  have := wpU_of_lin (md := .any) hB.1.1 (mvAll segs l) (Array.replicate l.toArray.size false) a (mvAll_at l segs) hB.2 h
  rw [hB.1.2] at this
  exact this

/-- What one operation yields at w', and then K; calls may make memory. -/
def mvValU (P : Program) (ops : Array Oper) (o : Oper) (a : Act) (w' : World) (K : Value → Prop) : Prop :=
  if Region.wanted o (yielded ops a.tmps) then
    (match (execOp a.eval o).run P w' with
     | .ok (.value v) w'' => w'' = w' ∧ K v
     | .ok .skip w'' => w'' = w' ∧ K undef
     | .ok (.enter f args) w'' => w'' = w' ∧ ∃ v, Calls P f args w' (fun e w3 => e = .returned v ∧ Grow w' w3) ∧ K v
     | _ => False)
  else K undef

theorem wpLinU_nil {Q : Act → World → Prop} {a : Act} {w : World} (h : ∀ w', Grow w w' → Q a w') : wpLinU P ops Q w [] a := h

theorem wpLinU_step {Q : Act → World → Prop} {k : Nat} {b : Bool} {o : Oper} {r : List (Nat × Bool × Oper)} {a : Act} {w : World} (v : Value) (hv : ∀ w', Grow w w' → ∀ K : Value → Prop, K v → mvValU P ops o a w' K)
    (h : ∀ K : Act → Prop, (∀ a, wpLinU P ops Q w r a → K a) → K (a.put o.dst v)) : wpLinU P ops Q w ((k, b, o) :: r) a := by
  refine ⟨v, fun w' hg => ?_, h _ fun _ h => h⟩
  have := hv w' hg (fun u => u = v) rfl
  unfold mvValU at this
  unfold GYields
  by_cases hw : Region.wanted o (yielded ops a.tmps) = true
  · left
    rw [if_pos hw] at this
    refine ⟨hw, ?_⟩
    split at this
    · next heq => obtain ⟨rfl, rfl⟩ := this; exact .inl heq
    · next heq => obtain ⟨rfl, rfl⟩ := this; exact .inr (.inl ⟨heq, rfl⟩)
    · next heq => obtain ⟨rfl, u, hc, rfl⟩ := this; exact .inr (.inr ⟨_, _, heq, hc⟩)
    · exact this.elim
  · right
    rw [if_neg hw] at this
    exact ⟨by simpa using hw, this.symm⟩
end

end Go.Proofs.YtlgfijjkbomejaaDoor
