/- An own row of bytes behind other work; an empty one. Numbers and types by name. -/
import Derived.Test.YtlgfijjkbomejaaGreatDoorBas
import Derived.StillTactics
/- A region that draws its order and holds calls that make memory: ONE walk serves every order. An operation that yields the same in every later world may be taken first; a call is taken where nothing else can come up. Numbers and types by name. -/
namespace Go.Proofs.YtlgfijjkbomejaaGreatDoor
open Go.RowKit Go.Lib

/-- What was there is as it was. -/
def Grow (w w' : World) : Prop := Below w.heap.size w w'
theorem Grow.refl (w : World) : Grow w w := Below.refl _ _
theorem Grow.trans {a b c : World} (h : Grow a b) (k : Grow b c) : Grow a c := Below.trans h (Below.mono k h.size)
theorem Grow.of_below {B : Nat} {w w' : World} (h : Below B w w') (hB : w.heap.size ≤ B) : Grow w w' := h.mono hB

section
variable {P : Program} {ops : Array Oper} {md : Region.Mode}

def mvUpon (P : Program) (o : Oper) (a : Act) (next : Act → World → Prop) : Result Next → Prop
  | .ok (.value v) w' => next (a.put o.dst v) w'
  | .ok .skip w' => next (a.put o.dst undef) w'
  | .ok (.enter f args) w' => Calls P f args w' fun e w'' => ∃ v, e = .returned v ∧ next (a.put o.dst v) w''
  | _ => False

def mvRun (P : Program) (ops : Array Oper) (o : Oper) (next : Act → World → Prop) (a : Act) (w : World) : Prop :=
  if Region.wanted o (yielded ops a.tmps) then mvUpon P o a next ((execOp a.eval o).run P w) else next (a.put o.dst undef) w

def mvOp (P : Program) (ops : Array Oper) (i : Nat) (next : Act → World → Prop) (a : Act) (w : World) : Prop :=
  match ops[i]? with
  | none => next a w
  | some o => mvRun P ops o next a w

theorem mvUpon_mono {o : Oper} {a : Act} {K K' : Act → World → Prop} {r : Result Next} (h : ∀ a w, K a w → K' a w) (hh : mvUpon P o a K r) : mvUpon P o a K' r := by
  cases r with
  | ok n w' =>
    cases n <;> simp only [mvUpon] at hh ⊢
    case enter f args => exact hh.mono fun e w'' ⟨v, he, hk⟩ => ⟨v, he, h _ _ hk⟩
    all_goals exact h _ _ hh
  | halt x w' => simp only [mvUpon] at hh

theorem mvRun_mono {o : Oper} {a : Act} {w : World} {K K' : Act → World → Prop} (h : ∀ a w, K a w → K' a w) (hh : mvRun P ops o K a w) : mvRun P ops o K' a w := by
  unfold mvRun at *
  split
  · rename_i hw; simp only [hw, if_true] at hh; exact mvUpon_mono h hh
  · rename_i hw; simp only [hw] at hh; exact h _ _ hh

theorem mvOp_mono {i : Nat} {a : Act} {w : World} {K K' : Act → World → Prop} (h : ∀ a w, K a w → K' a w) (hh : mvOp P ops i K a w) : mvOp P ops i K' a w := by
  unfold mvOp at *
  split
  · exact h _ _ (by simpa [*] using hh)
  · rename_i o ho; simp only [ho] at hh; exact mvRun_mono h hh

theorem wpOp_of_mvOp {i : Nat} {a : Act} {w : World} {K : Act → World → Prop} {Q : Exit → Act → World → Prop} (hh : mvOp P ops i K a w) : wpOp P ops Q i K a w := by
  unfold mvOp at hh
  unfold wpOp
  split
  · rename_i ho; simp only [ho] at hh; exact hh
  · rename_i o ho
    simp only [ho, mvRun] at hh
    split
    · rename_i hw
      simp only [hw, if_true] at hh
      left
      unfold Oper.wp
      generalize (execOp a.eval o).run P w = r at *
      cases r with
      | ok n w' =>
        cases n <;> simp only [mvUpon] at hh <;> simp only [Oper.upon]
        case enter f args => exact hh.mono fun e w'' ⟨v, he, hk⟩ => by subst he; exact hk
        all_goals exact hh
      | halt x w' => simp only [mvUpon] at hh
    · rename_i hw; simp only [hw] at hh; exact hh

/-- Every order, each step into a later world. -/
def wpMv (P : Program) (md : Region.Mode) (ops : Array Oper) (Q : Act → World → Prop) : Nat → Array Bool → Act → World → Prop
  | 0, listed, a, w => Region.ready md ops listed = [] ∧ Q a w
  | fuel + 1, listed, a, w =>
    (Region.ready md ops listed = [] → Q a w) ∧
    ∀ i ∈ Region.ready md ops listed, mvOp P ops i (fun a' w' => Grow w w' ∧ wpMv P md ops Q fuel (listed.setIfInBounds i true) a' w') a w

theorem wpAny_of_mv {Q : Act → World → Prop} {Q' : Exit → Act → World → Prop} (hQ : ∀ a w, Q a w → Q' .normal a w) : ∀ (fuel : Nat) (listed : Array Bool) (a : Act) (w : World),
    wpMv P md ops Q fuel listed a w → wpAny P md ops Q' fuel listed a w
  | 0, _, _, _, h => ⟨h.1, hQ _ _ h.2⟩
  | fuel + 1, _, _, _, h => ⟨fun h0 => hQ _ _ (h.1 h0), fun i hi => wpOp_mono (fun a' w' h' => wpAny_of_mv hQ fuel _ a' w' h'.2) (wpOp_of_mvOp (h.2 i hi))⟩

/-- The operation yields v in every later world. -/
def Ups (P : Program) (ops : Array Oper) (w : World) (o : Oper) (v : Value) (a : Act) : Prop := ∀ w', Grow w w' → YieldsAt P ops w' o v a

theorem Ups.later {w w' : World} {o : Oper} {v : Value} {a : Act} (h : Ups P ops w o v a) (hg : Grow w w') : Ups P ops w' o v a := fun w'' hg' => h w'' (hg.trans hg')

theorem YieldsAt.mvOp {i : Nat} {o : Oper} {v : Value} {a : Act} {w : World} (hi : ops[i]? = some o) (hy : YieldsAt P ops w o v a) {K : Act → World → Prop} (h : K (a.put o.dst v) w) : mvOp P ops i K a w := by
  unfold Proofs.YtlgfijjkbomejaaGreatDoor.mvOp mvRun
  simp only [hi]
  rcases hy with ⟨hw, hv | ⟨hv, rfl⟩ | ⟨f, args, hv, hc⟩⟩ | ⟨hw, rfl⟩
  · simp only [hw, if_true, hv, mvUpon]; exact h
  · simp only [hw, if_true, hv, mvUpon]; exact h
  · simp only [hw, if_true, hv, mvUpon]; exact hc.mono fun e w'' ⟨he, hw''⟩ => ⟨v, he, by subst hw''; exact h⟩
  · simp only [hw, Bool.false_eq_true, if_false]; exact h

theorem mvOp_put {j : Nat} {oi oj : Oper} {v : Value} {w : World} (hj : ops[j]? = some oj) (hap : oi.apart ops oj = true)
    (hsi : ∀ cs b, oi.op ≠ .select cs b) (hsj : ∀ cs b, oj.op ≠ .select cs b) {K : Act → World → Prop} {a : Act}
    (hy : Ups P ops w oi v a) (h : mvOp P ops j (fun a' w' => Grow w w' ∧ K a' w') (a.put oi.dst v) w) :
    mvOp P ops j (fun a' w' => Grow w w' ∧ (Ups P ops w' oi v a' ∧ K (a'.put oi.dst v) w')) a w := by
  obtain ⟨h1, h2, h3⟩ := Oper.apart_spec hap
  have keep : ∀ (w' : World) (u : Value), Grow w w' → Ups P ops w' oi v (a.put oj.dst u) := fun w' u hg w'' hg' =>
    (hy w'' (hg.trans hg')).of_same (execOp_put oi hsi a oj.dst u h3) (wanted_put oi a oj.dst u h3)
  unfold mvOp mvRun at *
  simp only [hj] at *
  rw [wanted_put oj a oi.dst v h1] at h
  split
  · rename_i hw
    simp only [hw, if_true] at h
    rw [execOp_put oj hsj a oi.dst v h1] at h
    generalize (execOp a.eval oj).run P w = r at *
    cases r with
    | ok n w' =>
      cases n <;> simp only [mvUpon] at h ⊢
      case value u => exact ⟨h.1, keep _ u h.1, by rw [← Act.put_comm a v u h2]; exact h.2⟩
      case skip => exact ⟨h.1, keep _ _ h.1, by rw [← Act.put_comm a v undef h2]; exact h.2⟩
      case enter f args => exact h.mono fun e w'' ⟨u, he, hg, hk⟩ => ⟨u, he, hg, keep _ u hg, by rw [← Act.put_comm a v u h2]; exact hk⟩
    | halt x w' => simp only [mvUpon] at h
  · rename_i hw
    simp only [hw] at h
    exact ⟨h.1, keep _ _ h.1, by rw [← Act.put_comm a v undef h2]; exact h.2⟩

theorem wpMv_first {Q : Act → World → Prop} {i : Nat} {oi : Oper} {v : Value} (hi : ops[i]? = some oi) (hsel : ∀ (j : Nat) (o : Oper) cs b, ops[j]? = some o → o.op ≠ .select cs b) :
    ∀ (fuel : Nat) (listed : Array Bool) (a : Act) (w : World),
      (∀ j oj, ops[j]? = some oj → j ≠ i → listed.getD j true = false → (∀ e ∈ oj.after, Region.binds md e = true → e.on ≠ i) → oi.apart ops oj = true) →
      i ∈ Region.ready md ops listed → Ups P ops w oi v a →
      wpMv P md ops Q fuel (listed.setIfInBounds i true) (a.put oi.dst v) w → wpMv P md ops Q (fuel + 1) listed a w := by
  intro fuel
  induction fuel with
  | zero =>
    intro listed a w _ hr hy H
    refine ⟨fun h => (by rw [h] at hr; cases hr), fun j hj => ?_⟩
    by_cases hji : j = i
    · subst hji; exact YieldsAt.mvOp hi (hy w (Grow.refl w)) ⟨Grow.refl w, H⟩
    · have := ready_mono hj hji
      rw [H.1] at this
      cases this
  | succ fuel ih =>
    intro listed a w hfree hr hy H
    refine ⟨fun h => (by rw [h] at hr; cases hr), fun j hj => ?_⟩
    by_cases hji : j = i
    · subst hji; exact YieldsAt.mvOp hi (hy w (Grow.refl w)) ⟨Grow.refl w, H⟩
    · have h1 := H.2 j (ready_mono hj hji)
      obtain ⟨hjun, oj, hoj, hall⟩ := mem_ready.1 hj
      have hnot : ∀ e ∈ oj.after, Region.binds md e = true → e.on ≠ i := fun e he hb heq => by
        have h1 := hall e he hb
        have h0 := (mem_ready.1 hr).1
        rw [heq] at h1
        rcases Nat.lt_or_ge i listed.size with h' | h'
        · simp [h'] at h0 h1; rw [h0] at h1; cases h1
        · simp [Array.getElem?_eq_none h'] at h1
      have h2 := mvOp_put hoj (hfree j oj hoj hji hjun hnot) (fun cs b => hsel i oi cs b hi) (fun cs b => hsel j oj cs b hoj) hy h1
      have hfree' : ∀ k ok, ops[k]? = some ok → k ≠ i → (listed.setIfInBounds j true).getD k true = false →
          (∀ e ∈ ok.after, Region.binds md e = true → e.on ≠ i) → oi.apart ops ok = true := fun k ok hk hki hun hno => by
        refine hfree k ok hk hki ?_ hno
        by_cases hjk : j = k
        · subst hjk; exact hjun
        · rw [getD_set_ne true hjk] at hun; exact hun
      refine mvOp_mono (fun a' w' h3 => ⟨h3.1, ih (listed.setIfInBounds j true) a' w' hfree' (ready_mono hr (Ne.symm hji)) h3.2.1 ?_⟩) h2
      rw [Array.setIfInBounds_comm _ _ hji]
      exact h3.2.2

/-- The walk's order: the operation's place, whether it may be taken first, the operation. -/
def mvSeg : Nat → Nat → Bool → List Oper → List (Nat × Bool × Oper)
  | _, 0, _, _ => []
  | _, _ + 1, _, [] => []
  | s, n + 1, b, o :: t => (s, b, o) :: mvSeg (s + 1) n b t
def mvAll : List (Nat × Nat × Bool) → List Oper → List (Nat × Bool × Oper)
  | [], _ => []
  | (s, n, b) :: r, l => mvSeg s n b (l.drop s) ++ mvAll r l

theorem mvSeg_at (l : List Oper) : ∀ (n s : Nat) (b : Bool) (t : List Oper), (∀ j, t[j]? = l[s + j]?) → ∀ x ∈ mvSeg s n b t, l.toArray[x.1]? = some x.2.2
  | 0, _, _, _, _, x, hx => by cases hx
  | _ + 1, _, _, [], _, x, hx => by cases hx
  | n + 1, s, b, o :: t, ht, x, hx => by
    rcases List.mem_cons.1 hx with rfl | hx
    · have := ht 0
      simpa using this.symm
    · exact mvSeg_at l n (s + 1) b t (fun j => by have := ht (j + 1); rw [List.getElem?_cons_succ] at this; rw [this]; congr 1; omega) x hx
theorem mvAll_at (l : List Oper) : ∀ (segs : List (Nat × Nat × Bool)), ∀ x ∈ mvAll segs l, l.toArray[x.1]? = some x.2.2
  | [], x, hx => by cases hx
  | (s, n, b) :: r, x, hx => by
    rcases List.mem_append.1 hx with hx | hx
    · exact mvSeg_at l n s b _ (fun j => by rw [List.getElem?_drop]) x hx
    · exact mvAll_at l r x hx

def mvB (md : Region.Mode) (ops : Array Oper) : List (Nat × Bool × Oper) → Array Bool → Bool
  | [], listed => (Region.ready md ops listed).isEmpty
  | (k, true, _) :: r, listed => (Region.ready md ops listed).contains k && Region.free md ops listed k && mvB md ops r (listed.setIfInBounds k true)
  | (k, false, _) :: r, listed => decide (Region.ready md ops listed = [k]) && mvB md ops r (listed.setIfInBounds k true)

/-- One walk. -/
def wpLin (P : Program) (ops : Array Oper) (Q : Act → World → Prop) : List (Nat × Bool × Oper) → Act → World → Prop
  | [], a, w => Q a w
  | (_, true, o) :: r, a, w => ∃ v, Ups P ops w o v a ∧ wpLin P ops Q r (a.put o.dst v) w
  | (_, false, o) :: r, a, w => mvRun P ops o (fun a' w' => Grow w w' ∧ wpLin P ops Q r a' w') a w

theorem wpMv_of_lin {Q : Act → World → Prop} (hs : Region.noSelect ops = true) : ∀ (l : List (Nat × Bool × Oper)) (listed : Array Bool) (a : Act) (w : World), (∀ x ∈ l, ops[x.1]? = some x.2.2) →
    mvB md ops l listed = true → wpLin P ops Q l a w → wpMv P md ops Q l.length listed a w
  | [], _, _, _, _, hB, h => ⟨by simpa [mvB] using hB, h⟩
  | (k, true, o) :: r, listed, a, w, hat, hB, h => by
    simp only [mvB, Bool.and_eq_true] at hB
    obtain ⟨v, hy, hK⟩ := h
    have h0 : ops[k]? = some o := hat (k, true, o) (List.mem_cons_self ..)
    exact wpMv_first h0 (Region.noSelect_spec hs) r.length listed a w (Region.free_spec h0 hB.1.2) (by simpa using hB.1.1) hy
      (wpMv_of_lin hs r _ _ w (fun x hx => hat x (by simp [hx])) hB.2 hK)
  | (k, false, o) :: r, listed, a, w, hat, hB, h => by
    simp only [mvB, Bool.and_eq_true, decide_eq_true_eq] at hB
    refine ⟨fun h1 => (by rw [hB.1] at h1; cases h1), fun i hi => ?_⟩
    rw [hB.1] at hi
    obtain rfl : i = k := by simpa using hi
    have h0 : ops[i]? = some o := hat (i, false, o) (List.mem_cons_self ..)
    have hm : mvOp P ops i (fun a' w' => Grow w w' ∧ wpLin P ops Q r a' w') a w := by unfold mvOp; simp only [h0]; exact h
    exact mvOp_mono (fun a' w' h' => ⟨h'.1, wpMv_of_lin hs r _ a' w' (fun x hx => hat x (by simp [hx])) hB.2 h'.2⟩) hm

def mvOk (ops : Array Oper) (items : List (Nat × Bool × Oper)) : Bool := Region.noSelect ops && items.length == ops.size && mvB .any ops items (Array.replicate ops.size false)

theorem wp_region_mv {id : Nat} {Q : Exit → Act → World → Prop} {a : Act} {w : World} {l : List Oper} (segs : List (Nat × Nat × Bool)) (hm : P.follows .mixedOrders = true) (hB : mvOk l.toArray (mvAll segs l) = true)
    (h : wpLin P l.toArray (fun a' w' => Q .normal a' w') (mvAll segs l) a w.drew) : (Code.region id l.toArray true).wp P Q a w := by
  simp only [mvOk, Bool.and_eq_true, beq_iff_eq] at hB
  refine wp_region_any hm (wpAny_of_mv (Q := fun a' w' => Q .normal a' w') (fun _ _ h => h) _ _ _ _ ?_)
  have := wpMv_of_lin (md := .any) hB.1.1 (mvAll segs l) (Array.replicate l.toArray.size false) a w.drew (mvAll_at l segs) hB.2 h
  rw [hB.1.2] at this
  exact this

/-- What one operation yields at w', and then K. -/
def mvVal (P : Program) (ops : Array Oper) (o : Oper) (a : Act) (w' : World) (K : Value → Prop) : Prop :=
  if Region.wanted o (yielded ops a.tmps) then
    (match (execOp a.eval o).run P w' with
     | .ok (.value v) w'' => w'' = w' ∧ K v
     | .ok .skip w'' => w'' = w' ∧ K undef
     | .ok (.enter f args) w'' => w'' = w' ∧ ∃ v, Calls P f args w' (fun e w3 => e = .returned v ∧ w3 = w') ∧ K v
     | _ => False)
  else K undef

theorem wpLin_nil {Q : Act → World → Prop} {a : Act} {w : World} (h : Q a w) : wpLin P ops Q [] a w := h

theorem wpLin_still {Q : Act → World → Prop} {k : Nat} {o : Oper} {r : List (Nat × Bool × Oper)} {a : Act} {w : World} (v : Value) (hv : ∀ w', Grow w w' → ∀ K : Value → Prop, K v → mvVal P ops o a w' K)
    (h : ∀ K : Act → Prop, (∀ a, wpLin P ops Q r a w → K a) → K (a.put o.dst v)) : wpLin P ops Q ((k, true, o) :: r) a w := by
  refine ⟨v, fun w' hg => ?_, h _ fun _ h => h⟩
  have := hv w' hg (fun u => u = v) rfl
  unfold mvVal at this
  unfold YieldsAt
  by_cases hw : Region.wanted o (yielded ops a.tmps) = true
  · left
    rw [if_pos hw] at this
    refine ⟨hw, ?_⟩
    split at this
    · next heq => obtain ⟨rfl, rfl⟩ := this; exact .inl heq
    · next heq => obtain ⟨rfl, rfl⟩ := this; exact .inr (.inl ⟨heq, rfl⟩)
    · next heq => obtain ⟨rfl, u, hc, rfl⟩ := this; exact .inr (.inr ⟨_, _, heq, hc⟩)
    · exact this.elim
  · right
    rw [if_neg hw] at this
    exact ⟨by simpa using hw, this.symm⟩

theorem wpLin_call {Q : Act → World → Prop} {k : Nat} {o : Oper} {r : List (Nat × Bool × Oper)} {a : Act} {w : World}
    (h : ∀ K : Act → World → Prop, (∀ a w', Grow w w' → wpLin P ops Q r a w' → K a w') → mvRun P ops o K a w) : wpLin P ops Q ((k, false, o) :: r) a w :=
  h _ fun _ _ hg hk => ⟨hg, hk⟩
end

theorem Reads.later {w w' : World} {v : Value} {xs : List Value} (h : Reads w v xs) (hg : Grow w w') : Reads w' v xs := by
  obtain ⟨ao, cap, rfl, h0, h1, h2⟩ := h
  refine ⟨ao, cap, rfl, h0, h1, fun a ha j u hj => ?_⟩
  have hc := h2 a ha j u hj
  rw [World.cell?_of_block (hg.block _ (World.block_lt_of_cell? w _ hc))]
  exact hc

theorem conv_up {w : World} {v : Value} {l : List UInt8} (h : Reads w v (bv l)) : ∀ w', Grow w w' → (convert 45 9 v).run Tryz.prog w' = .ok (.string ⟨l.toArray⟩) w' := fun _ hg => conv_reads (h.later hg)

end Go.Proofs.YtlgfijjkbomejaaGreatDoor

namespace Go.Proofs.YtlgfijjkbomejaaGreatDoor
open Go.RowKit Go.Lib

theorem Bs.below {w w' : World} {base B : Nat} {v : Value} {n : Nat} {l : List UInt8} (h : Bs w base v n l) (hb : Below B w w') (hB : w.heap.size ≤ B) : Bs w' base v n l := by
  refine ⟨h.1, h.2.1, h.2.2.imp id ?_⟩
  rintro ⟨g, cap, cur, h1, h2, h3, h4⟩
  refine ⟨g, cap, cur, h1, h2, ?_, h4⟩
  rw [hb.block g (by have := (h.2.lt g (by rw [h1]; rfl)).2; omega)]
  exact h3

theorem Bs.empty (w : World) (base : Nat) (hb : base ≤ w.heap.size) : Bs (w.alloc (.cells #[] 5)) base (.slice (some ⟨w.heap.size, 0, none⟩) 0 0) 0 [] :=
  ⟨rfl, rfl, .inr ⟨w.heap.size, 0, #[], rfl, hb, heap_alloc_new w _, Nat.le_refl _, Nat.zero_le _, rfl, rfl⟩⟩


theorem heap_set {w : World} {b : Nat} {cs : Array Value} {t : TypeId} {fr : Nat × Nat} (h : w.heap[b]? = some (.cells cs t fr)) (j : Nat) (v : Value) : (w.setCell ⟨b, j, none⟩ v).heap[b]? = some (.cells (cs.setIfInBounds j v) t fr) := by
  simp [World.setCell, Array.getElem?_modify, h]

theorem bv_set (l : List UInt8) (j : Nat) (x : UInt8) : bv (l.set j x) = (bv l).set j (.int .u8 (x.toNat : Int)) := by simp [bv, List.map_set]

/-- One byte of an own row is written. -/
theorem Bs.set {w : World} {base g n c : Nat} {l : List UInt8} (h : Bs w base (.slice (some ⟨g, 0, none⟩) n c) n l) (j : Nat) (hj : j < n) (x : UInt8) :
    Bs (w.setCell ⟨g, j, none⟩ (.int .u8 (x.toNat : Int))) base (.slice (some ⟨g, 0, none⟩) n c) n (l.set j x) := by
  obtain ⟨hn, h1, h2 | ⟨g', cap, cur, e, hb, hg, hnc, hcm, hcs, ht⟩⟩ := h
  · exact absurd h2.1 (by simp)
  · simp only [Value.slice.injEq, Option.some.injEq, Addr.mk.injEq, and_true] at e
    obtain ⟨rfl, _, rfl⟩ := e
    refine ⟨by rw [List.length_set]; exact hn, by rw [bv_length, List.length_set]; omega, .inr ⟨g, c, cur.setIfInBounds j (.int .u8 (x.toNat : Int)), rfl, hb, heap_set hg _ _, hnc, hcm, by simpa using hcs, ?_⟩⟩
    rw [bv_set, ← ht]
    simp [List.take_set]

/-- Which cells an own row has, and that they may be written. -/
theorem Bs.cell {w : World} {base g n c : Nat} {l : List UInt8} (h : Bs w base (.slice (some ⟨g, 0, none⟩) n c) n l) {j : Nat} {x : UInt8} (hx : l[j]? = some x) :
    w.cell? ⟨g, j, none⟩ = some (.int .u8 (x.toNat : Int)) ∧ w.frozen? ⟨g, j, none⟩ = false := by
  obtain ⟨hn, h1, h2 | ⟨g', cap, cur, e, hb, hg, hnc, hcm, hcs, ht⟩⟩ := h
  · exact absurd h2.1 (by simp)
  · simp only [Value.slice.injEq, Option.some.injEq, Addr.mk.injEq, and_true] at e
    obtain ⟨rfl, _, rfl⟩ := e
    have hj : j < n := by have := (List.getElem?_eq_some_iff.1 hx).1; omega
    have hc : cur[j]? = some (.int .u8 (x.toNat : Int)) := by
      have h3 : (bv l)[j]? = some (.int .u8 (x.toNat : Int)) := by simp [bv, hx]
      rw [← ht, List.getElem?_take, if_pos (by omega)] at h3
      simpa using h3
    constructor
    · simp only [World.cell?, hg]
      simpa using hc
    · simp [World.frozen?, hg]

theorem below_set {w w' : World} {B g : Nat} (h : Below B w w') (hg : B ≤ g) (j : Nat) (v : Value) : Below B w (w'.setCell ⟨g, j, none⟩ v) :=
  ⟨h.os, h.tape, h.output, by simpa [World.setCell] using h.size, fun k hk => (Below.heap_setCell _ _ _ _ (by show k ≠ g; omega)).trans (h.block k hk)⟩

/-- make([]byte, n). -/
theorem wpList_make_zeros {ops : Array Oper} {rest : List Oper} {o : Oper} {a : Act} {w : World} {Q : Exit → Act → World → Prop} (hgd : o.guard = none) (s x : Operand) (ho : o.op = Op.makeSlice 45 s x)
    (base n : Nat) (C D : Int) (hl : a.eval s = .int .i64 D) (hc : a.eval x = .int .i64 C) (hD : D = (n : Int)) (hC : C = (n : Int)) (h63 : Hid (n ≤ 140737488355328)) (hbase : base ≤ w.heap.size)
    (h : ∀ w', Bs w' base (.slice (some ⟨w.heap.size, 0, none⟩) n n) n (List.replicate n 0) → Below base w w' → wpList Tryz.prog ops Q rest (a.put o.dst (.slice (some ⟨w.heap.size, 0, none⟩) n n)) w') : wpList Tryz.prog ops Q (o :: rest) a w := by
  obtain ⟨i0, hi, hz0, hz1, hz2⟩ := info_parts info_byte
  have hm := h63.out
  refine wpList_make_full w hgd s x _ ho base 5 i0 _ 1 Tryz.underlying45 hi hz0 hz1 .i64 .i64 D C n hl hc hD hC (by rw [hz2]; omega) (by unfold maxLen; omega) hbase fun w' hown hg => h w' ⟨by simp, ?_⟩ (below_none hg hbase)
  have e : (madeCells (Value.int .u8 0).cells (n * 1)).toList = bv (List.replicate n 0) := by
    rw [Nat.mul_one]
    have hz : (Value.int .u8 0).cells = #[.int .u8 0] := rfl
    rw [hz]
    unfold madeCells bv
    apply List.ext_getElem?
    intro i
    by_cases hi : i < n
    · simp [hi, Nat.mod_one]
    · simp [hi]
  rw [e] at hown
  exact hown

end Go.Proofs.YtlgfijjkbomejaaGreatDoor
