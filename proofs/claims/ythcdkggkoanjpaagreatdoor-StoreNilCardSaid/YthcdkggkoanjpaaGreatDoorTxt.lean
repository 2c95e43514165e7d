/- Lists of texts: plain facts, lists that are read, own ones. Numbers and types by name. -/
import Derived.Test.YthcdkggkoanjpaaGreatDoorBe4
import Derived.StillTactics
/- A region that draws its order and holds calls that make memory: ONE walk serves every order. An operation that yields the same in every later world may be taken first; a call is taken where nothing else can come up. Numbers and types by name. -/
namespace Go.Proofs.YthcdkggkoanjpaaGreatDoor
open Go.RowKit Go.Lib
def Grow (w w' : World) : Prop := Below w.heap.size w w'
theorem Grow.refl (w : World) : Grow w w := Below.refl _ _
theorem Grow.trans {a b c : World} (h : Grow a b) (k : Grow b c) : Grow a c := Below.trans h (Below.mono k h.size)
section
variable {P : Program} {ops : Array Oper} {md : Region.Mode}
def mvUpon (P : Program) (o : Oper) (a : Act) (next : Act → World → Prop) : Result Next → Prop
  | .ok (.value v) w' => next (a.put o.dst v) w'
  | .ok .skip w' => next (a.put o.dst undef) w'
  | .ok (.enter f args) w' => Calls P f args w' fun e w'' => ∃ v, e = .returned v ∧ next (a.put o.dst v) w''
  | _ => False
def mvRun (P : Program) (ops : Array Oper) (o : Oper) (next : Act → World → Prop) (a : Act) (w : World) : Prop :=
  if Region.wanted o (yielded ops a.tmps) then mvUpon P o a next ((execOp a.eval o).run P w) else next (a.put o.dst undef) w
def mvOp (P : Program) (ops : Array Oper) (i : Nat) (next : Act → World → Prop) (a : Act) (w : World) : Prop :=
  match ops[i]? with
  | none => next a w
  | some o => mvRun P ops o next a w
theorem mvUpon_mono {o : Oper} {a : Act} {K K' : Act → World → Prop} {r : Result Next} (h : ∀ a w, K a w → K' a w) (hh : mvUpon P o a K r) : mvUpon P o a K' r := by
  cases r with
  | ok n w' =>
    cases n <;> simp only [mvUpon] at hh ⊢
    case enter f args => exact hh.mono fun e w'' ⟨v, he, hk⟩ => ⟨v, he, h _ _ hk⟩
    all_goals exact h _ _ hh
  | halt x w' => simp only [mvUpon] at hh
theorem mvRun_mono {o : Oper} {a : Act} {w : World} {K K' : Act → World → Prop} (h : ∀ a w, K a w → K' a w) (hh : mvRun P ops o K a w) : mvRun P ops o K' a w := by
  unfold mvRun at *
  split
  · rename_i hw; simp only [hw, if_true] at hh; exact mvUpon_mono h hh
  · rename_i hw; simp only [hw] at hh; exact h _ _ hh
theorem mvOp_mono {i : Nat} {a : Act} {w : World} {K K' : Act → World → Prop} (h : ∀ a w, K a w → K' a w) (hh : mvOp P ops i K a w) : mvOp P ops i K' a w := by
  unfold mvOp at *
  split
  · exact h _ _ (by simpa [*] using hh)
  · rename_i o ho; simp only [ho] at hh; exact mvRun_mono h hh
theorem wpOp_of_mvOp {i : Nat} {a : Act} {w : World} {K : Act → World → Prop} {Q : Exit → Act → World → Prop} (hh : mvOp P ops i K a w) : wpOp P ops Q i K a w := by
  unfold mvOp at hh
  unfold wpOp
  split
  · rename_i ho; simp only [ho] at hh; exact hh
  · rename_i o ho
    simp only [ho, mvRun] at hh
    split
    · rename_i hw
      simp only [hw, if_true] at hh
      left
      unfold Oper.wp
      generalize (execOp a.eval o).run P w = r at *
      cases r with
      | ok n w' =>
        cases n <;> simp only [mvUpon] at hh <;> simp only [Oper.upon]
        case enter f args => exact hh.mono fun e w'' ⟨v, he, hk⟩ => by subst he; exact hk
        all_goals exact hh
      | halt x w' => simp only [mvUpon] at hh
    · rename_i hw; simp only [hw] at hh; exact hh
def wpMv (P : Program) (md : Region.Mode) (ops : Array Oper) (Q : Act → World → Prop) : Nat → Array Bool → Act → World → Prop
  | 0, listed, a, w => Region.ready md ops listed = [] ∧ Q a w
  | fuel + 1, listed, a, w =>
    (Region.ready md ops listed = [] → Q a w) ∧
    ∀ i ∈ Region.ready md ops listed, mvOp P ops i (fun a' w' => Grow w w' ∧ wpMv P md ops Q fuel (listed.setIfInBounds i true) a' w') a w
theorem wpAny_of_mv {Q : Act → World → Prop} {Q' : Exit → Act → World → Prop} (hQ : ∀ a w, Q a w → Q' .normal a w) : ∀ (fuel : Nat) (listed : Array Bool) (a : Act) (w : World),
    wpMv P md ops Q fuel listed a w → wpAny P md ops Q' fuel listed a w
  | 0, _, _, _, h => ⟨h.1, hQ _ _ h.2⟩
  | fuel + 1, _, _, _, h => ⟨fun h0 => hQ _ _ (h.1 h0), fun i hi => wpOp_mono (fun a' w' h' => wpAny_of_mv hQ fuel _ a' w' h'.2) (wpOp_of_mvOp (h.2 i hi))⟩
def Ups (P : Program) (ops : Array Oper) (w : World) (o : Oper) (v : Value) (a : Act) : Prop := ∀ w', Grow w w' → YieldsAt P ops w' o v a
theorem YieldsAt.mvOp {i : Nat} {o : Oper} {v : Value} {a : Act} {w : World} (hi : ops[i]? = some o) (hy : YieldsAt P ops w o v a) {K : Act → World → Prop} (h : K (a.put o.dst v) w) : mvOp P ops i K a w := by
  unfold Proofs.YthcdkggkoanjpaaGreatDoor.mvOp mvRun
  simp only [hi]
  rcases hy with ⟨hw, hv | ⟨hv, rfl⟩ | ⟨f, args, hv, hc⟩⟩ | ⟨hw, rfl⟩
  · simp only [hw, if_true, hv, mvUpon]; exact h
  · simp only [hw, if_true, hv, mvUpon]; exact h
  · simp only [hw, if_true, hv, mvUpon]; exact hc.mono fun e w'' ⟨he, hw''⟩ => ⟨v, he, by subst hw''; exact h⟩
  · simp only [hw, Bool.false_eq_true, if_false]; exact h
theorem mvOp_put {j : Nat} {oi oj : Oper} {v : Value} {w : World} (hj : ops[j]? = some oj) (hap : oi.apart ops oj = true)
    (hsi : ∀ cs b, oi.op ≠ .select cs b) (hsj : ∀ cs b, oj.op ≠ .select cs b) {K : Act → World → Prop} {a : Act}
    (hy : Ups P ops w oi v a) (h : mvOp P ops j (fun a' w' => Grow w w' ∧ K a' w') (a.put oi.dst v) w) :
    mvOp P ops j (fun a' w' => Grow w w' ∧ (Ups P ops w' oi v a' ∧ K (a'.put oi.dst v) w')) a w := by
  obtain ⟨h1, h2, h3⟩ := Oper.apart_spec hap
  have keep : ∀ (w' : World) (u : Value), Grow w w' → Ups P ops w' oi v (a.put oj.dst u) := fun w' u hg w'' hg' =>
    (hy w'' (hg.trans hg')).of_same (execOp_put oi hsi a oj.dst u h3) (wanted_put oi a oj.dst u h3)
  unfold mvOp mvRun at *
  simp only [hj] at *
  rw [wanted_put oj a oi.dst v h1] at h
  split
  · rename_i hw
    simp only [hw, if_true] at h
    rw [execOp_put oj hsj a oi.dst v h1] at h
    generalize (execOp a.eval oj).run P w = r at *
    cases r with
    | ok n w' =>
      cases n <;> simp only [mvUpon] at h ⊢
      case value u => exact ⟨h.1, keep _ u h.1, by rw [← Act.put_comm a v u h2]; exact h.2⟩
      case skip => exact ⟨h.1, keep _ _ h.1, by rw [← Act.put_comm a v undef h2]; exact h.2⟩
      case enter f args => exact h.mono fun e w'' ⟨u, he, hg, hk⟩ => ⟨u, he, hg, keep _ u hg, by rw [← Act.put_comm a v u h2]; exact hk⟩
    | halt x w' => simp only [mvUpon] at h
  · rename_i hw
    simp only [hw] at h
    exact ⟨h.1, keep _ _ h.1, by rw [← Act.put_comm a v undef h2]; exact h.2⟩
theorem wpMv_first {Q : Act → World → Prop} {i : Nat} {oi : Oper} {v : Value} (hi : ops[i]? = some oi) (hsel : ∀ (j : Nat) (o : Oper) cs b, ops[j]? = some o → o.op ≠ .select cs b) :
    ∀ (fuel : Nat) (listed : Array Bool) (a : Act) (w : World),
      (∀ j oj, ops[j]? = some oj → j ≠ i → listed.getD j true = false → (∀ e ∈ oj.after, Region.binds md e = true → e.on ≠ i) → oi.apart ops oj = true) →
      i ∈ Region.ready md ops listed → Ups P ops w oi v a →
      wpMv P md ops Q fuel (listed.setIfInBounds i true) (a.put oi.dst v) w → wpMv P md ops Q (fuel + 1) listed a w := by
  intro fuel
  induction fuel with
  | zero =>
    intro listed a w _ hr hy H
    refine ⟨fun h => (by rw [h] at hr; cases hr), fun j hj => ?_⟩
    by_cases hji : j = i
    · subst hji; exact YieldsAt.mvOp hi (hy w (Grow.refl w)) ⟨Grow.refl w, H⟩
    · have := ready_mono hj hji
      rw [H.1] at this
      cases this
  | succ fuel ih =>
    intro listed a w hfree hr hy H
    refine ⟨fun h => (by rw [h] at hr; cases hr), fun j hj => ?_⟩
    by_cases hji : j = i
    · subst hji; exact YieldsAt.mvOp hi (hy w (Grow.refl w)) ⟨Grow.refl w, H⟩
    · have h1 := H.2 j (ready_mono hj hji)
      obtain ⟨hjun, oj, hoj, hall⟩ := mem_ready.1 hj
      have hnot : ∀ e ∈ oj.after, Region.binds md e = true → e.on ≠ i := fun e he hb heq => by
        have h1 := hall e he hb
        have h0 := (mem_ready.1 hr).1
        rw [heq] at h1
        rcases Nat.lt_or_ge i listed.size with h' | h'
        · simp [h'] at h0 h1; rw [h0] at h1; cases h1
        · simp [Array.getElem?_eq_none h'] at h1
      have h2 := mvOp_put hoj (hfree j oj hoj hji hjun hnot) (fun cs b => hsel i oi cs b hi) (fun cs b => hsel j oj cs b hoj) hy h1
      have hfree' : ∀ k ok, ops[k]? = some ok → k ≠ i → (listed.setIfInBounds j true).getD k true = false →
          (∀ e ∈ ok.after, Region.binds md e = true → e.on ≠ i) → oi.apart ops ok = true := fun k ok hk hki hun hno => by
        refine hfree k ok hk hki ?_ hno
        by_cases hjk : j = k
        · subst hjk; exact hjun
        · rw [getD_set_ne true hjk] at hun; exact hun
      refine mvOp_mono (fun a' w' h3 => ⟨h3.1, ih (listed.setIfInBounds j true) a' w' hfree' (ready_mono hr (Ne.symm hji)) h3.2.1 ?_⟩) h2
      rw [Array.setIfInBounds_comm _ _ hji]
      exact h3.2.2
def mvSeg : Nat → Nat → Bool → List Oper → List (Nat × Bool × Oper)
  | _, 0, _, _ => []
  | _, _ + 1, _, [] => []
  | s, n + 1, b, o :: t => (s, b, o) :: mvSeg (s + 1) n b t
def mvAll : List (Nat × Nat × Bool) → List Oper → List (Nat × Bool × Oper)
  | [], _ => []
  | (s, n, b) :: r, l => mvSeg s n b (l.drop s) ++ mvAll r l
theorem mvSeg_at (l : List Oper) : ∀ (n s : Nat) (b : Bool) (t : List Oper), (∀ j, t[j]? = l[s + j]?) → ∀ x ∈ mvSeg s n b t, l.toArray[x.1]? = some x.2.2
  | 0, _, _, _, _, x, hx => by cases hx
  | _ + 1, _, _, [], _, x, hx => by cases hx
  | n + 1, s, b, o :: t, ht, x, hx => by
    rcases List.mem_cons.1 hx with rfl | hx
    · have := ht 0
      simpa using this.symm
    · exact mvSeg_at l n (s + 1) b t (fun j => by have := ht (j + 1); rw [List.getElem?_cons_succ] at this; rw [this]; congr 1; omega) x hx
theorem mvAll_at (l : List Oper) : ∀ (segs : List (Nat × Nat × Bool)), ∀ x ∈ mvAll segs l, l.toArray[x.1]? = some x.2.2
  | [], x, hx => by cases hx
  | (s, n, b) :: r, x, hx => by
    rcases List.mem_append.1 hx with hx | hx
    · exact mvSeg_at l n s b _ (fun j => by rw [List.getElem?_drop]) x hx
    · exact mvAll_at l r x hx
def mvB (md : Region.Mode) (ops : Array Oper) : List (Nat × Bool × Oper) → Array Bool → Bool
  | [], listed => (Region.ready md ops listed).isEmpty
  | (k, true, _) :: r, listed => (Region.ready md ops listed).contains k && Region.free md ops listed k && mvB md ops r (listed.setIfInBounds k true)
  | (k, false, _) :: r, listed => decide (Region.ready md ops listed = [k]) && mvB md ops r (listed.setIfInBounds k true)
def wpLin (P : Program) (ops : Array Oper) (Q : Act → World → Prop) : List (Nat × Bool × Oper) → Act → World → Prop
  | [], a, w => Q a w
  | (_, true, o) :: r, a, w => ∃ v, Ups P ops w o v a ∧ wpLin P ops Q r (a.put o.dst v) w
  | (_, false, o) :: r, a, w => mvRun P ops o (fun a' w' => Grow w w' ∧ wpLin P ops Q r a' w') a w
theorem wpMv_of_lin {Q : Act → World → Prop} (hs : Region.noSelect ops = true) : ∀ (l : List (Nat × Bool × Oper)) (listed : Array Bool) (a : Act) (w : World), (∀ x ∈ l, ops[x.1]? = some x.2.2) →
    mvB md ops l listed = true → wpLin P ops Q l a w → wpMv P md ops Q l.length listed a w
  | [], _, _, _, _, hB, h => ⟨by simpa [mvB] using hB, h⟩
  | (k, true, o) :: r, listed, a, w, hat, hB, h => by
    simp only [mvB, Bool.and_eq_true] at hB
    obtain ⟨v, hy, hK⟩ := h
    have h0 : ops[k]? = some o := hat (k, true, o) (List.mem_cons_self ..)
    exact wpMv_first h0 (Region.noSelect_spec hs) r.length listed a w (Region.free_spec h0 hB.1.2) (by simpa using hB.1.1) hy
      (wpMv_of_lin hs r _ _ w (fun x hx => hat x (by simp [hx])) hB.2 hK)
  | (k, false, o) :: r, listed, a, w, hat, hB, h => by
    simp only [mvB, Bool.and_eq_true, decide_eq_true_eq] at hB
    refine ⟨fun h1 => (by rw [hB.1] at h1; cases h1), fun i hi => ?_⟩
    rw [hB.1] at hi
    obtain rfl : i = k := by simpa using hi
    have h0 : ops[i]? = some o := hat (i, false, o) (List.mem_cons_self ..)
    have hm : mvOp P ops i (fun a' w' => Grow w w' ∧ wpLin P ops Q r a' w') a w := by unfold mvOp; simp only [h0]; exact h
    exact mvOp_mono (fun a' w' h' => ⟨h'.1, wpMv_of_lin hs r _ a' w' (fun x hx => hat x (by simp [hx])) hB.2 h'.2⟩) hm
def mvOk (ops : Array Oper) (items : List (Nat × Bool × Oper)) : Bool := Region.noSelect ops && items.length == ops.size && mvB .any ops items (Array.replicate ops.size false)
theorem wp_region_mv {id : Nat} {Q : Exit → Act → World → Prop} {a : Act} {w : World} {l : List Oper} (segs : List (Nat × Nat × Bool)) (hm : P.follows .mixedOrders = true) (hB : mvOk l.toArray (mvAll segs l) = true)
    (h : wpLin P l.toArray (fun a' w' => Q .normal a' w') (mvAll segs l) a w.drew) : (Code.region id l.toArray true).wp P Q a w := by
  simp only [mvOk, Bool.and_eq_true, beq_iff_eq] at hB
  refine wp_region_any hm (wpAny_of_mv (Q := fun a' w' => Q .normal a' w') (fun _ _ h => h) _ _ _ _ ?_)
  have := wpMv_of_lin (md := .any) hB.1.1 (mvAll segs l) (Array.replicate l.toArray.size false) a w.drew (mvAll_at l segs) hB.2 h
  rw [hB.1.2] at this
  exact this
def mvVal (P : Program) (ops : Array Oper) (o : Oper) (a : Act) (w' : World) (K : Value → Prop) : Prop :=
  if Region.wanted o (yielded ops a.tmps) then
    (match (execOp a.eval o).run P w' with
     | .ok (.value v) w'' => w'' = w' ∧ K v
     | .ok .skip w'' => w'' = w' ∧ K undef
     | .ok (.enter f args) w'' => w'' = w' ∧ ∃ v, Calls P f args w' (fun e w3 => e = .returned v ∧ w3 = w') ∧ K v
     | _ => False)
  else K undef
theorem wpLin_nil {Q : Act → World → Prop} {a : Act} {w : World} (h : Q a w) : wpLin P ops Q [] a w := h
theorem wpLin_still {Q : Act → World → Prop} {k : Nat} {o : Oper} {r : List (Nat × Bool × Oper)} {a : Act} {w : World} (v : Value) (hv : ∀ w', Grow w w' → ∀ K : Value → Prop, K v → mvVal P ops o a w' K)
    (h : ∀ K : Act → Prop, (∀ a, wpLin P ops Q r a w → K a) → K (a.put o.dst v)) : wpLin P ops Q ((k, true, o) :: r) a w := by
  refine ⟨v, fun w' hg => ?_, h _ fun _ h => h⟩
  have := hv w' hg (fun u => u = v) rfl
  unfold mvVal at this
  unfold YieldsAt
  by_cases hw : Region.wanted o (yielded ops a.tmps) = true
  · left
    rw [if_pos hw] at this
    refine ⟨hw, ?_⟩
    split at this
    · next heq => obtain ⟨rfl, rfl⟩ := this; exact .inl heq
    · next heq => obtain ⟨rfl, rfl⟩ := this; exact .inr (.inl ⟨heq, rfl⟩)
    · next heq => obtain ⟨rfl, u, hc, rfl⟩ := this; exact .inr (.inr ⟨_, _, heq, hc⟩)
    · exact this.elim
  · right
    rw [if_neg hw] at this
    exact ⟨by simpa using hw, this.symm⟩
theorem wpLin_call {Q : Act → World → Prop} {k : Nat} {o : Oper} {r : List (Nat × Bool × Oper)} {a : Act} {w : World}
    (h : ∀ K : Act → World → Prop, (∀ a w', Grow w w' → wpLin P ops Q r a w' → K a w') → mvRun P ops o K a w) : wpLin P ops Q ((k, false, o) :: r) a w :=
  h _ fun _ _ hg hk => ⟨hg, hk⟩
end
theorem Reads.later {w w' : World} {v : Value} {xs : List Value} (h : Reads w v xs) (hg : Grow w w') : Reads w' v xs := by
  obtain ⟨ao, cap, rfl, h0, h1, h2⟩ := h
  refine ⟨ao, cap, rfl, h0, h1, fun a ha j u hj => ?_⟩
  have hc := h2 a ha j u hj
  rw [World.cell?_of_block (hg.block _ (World.block_lt_of_cell? w _ hc))]
  exact hc
end Go.Proofs.YthcdkggkoanjpaaGreatDoor

namespace Go.Proofs.YthcdkggkoanjpaaGreatDoor
open Go.RowKit Go.Lib
def sv (L : List ByteArray) : List Value := L.map Value.string
theorem sv_length (L : List ByteArray) : (sv L).length = L.length := by simp [sv]
theorem sv_one (L : List ByteArray) : ∀ u ∈ sv L, u.oneCell' = true := by
  intro u hu; simp only [sv, List.mem_map] at hu; obtain ⟨b, _, rfl⟩ := hu; rfl
def encs (L : List ByteArray) : List UInt8 := L.flatMap fun s => be4 s.size ++ s.data.toList
def enc (L : List ByteArray) : List UInt8 := be4 L.length ++ encs L
def bulk (L : List ByteArray) : Nat := (L.map fun s => 1 + s.size).sum
theorem encs_cons (s : ByteArray) (L : List ByteArray) : encs (s :: L) = be4 s.size ++ s.data.toList ++ encs L := by simp [encs]
theorem encs_append (L M : List ByteArray) : encs (L ++ M) = encs L ++ encs M := by simp [encs]
theorem bulk_cons (s : ByteArray) (L : List ByteArray) : bulk (s :: L) = 1 + s.size + bulk L := by simp [bulk]
theorem bulk_append (L M : List ByteArray) : bulk (L ++ M) = bulk L + bulk M := by simp [bulk]
theorem bulk_length (L : List ByteArray) : L.length ≤ bulk L := by
  induction L with
  | nil => simp
  | cons s L ih => rw [bulk_cons, List.length_cons]; omega
theorem bulk_mem {L : List ByteArray} {s : ByteArray} (h : s ∈ L) : 1 + s.size ≤ bulk L := by
  induction L with
  | nil => cases h
  | cons t L ih =>
    rw [bulk_cons]
    rcases List.mem_cons.1 h with rfl | h
    · omega
    · have := ih h; omega
theorem size_data (s : ByteArray) : s.data.toList.length = s.size := rfl
theorem encs_length (L : List ByteArray) : (encs L).length + L.length = 4 * L.length + bulk L := by
  induction L with
  | nil => rfl
  | cons s L ih => rw [encs_cons, bulk_cons]; simp only [List.length_append, be4_length, size_data, List.length_cons]; omega
theorem enc_length (L : List ByteArray) : (enc L).length + L.length = 4 + 4 * L.length + bulk L := by
  have := encs_length L
  simp only [enc, List.length_append, be4_length]; omega
def text? (b : List UInt8) : Option (List UInt8 × List UInt8) :=
  match num? b with
  | none => none
  | some (n, r) => if n ≤ r.length then some (r.take n, r.drop n) else none
def texts? : Nat → List UInt8 → Option (List ByteArray × List UInt8)
  | 0, b => some ([], b)
  | k + 1, b => match text? b with
    | none => none
    | some (t, r) => match texts? k r with
      | none => none
      | some (L, q) => some (⟨t.toArray⟩ :: L, q)
def list? (b : List UInt8) : Option (List ByteArray × List UInt8) :=
  match num? b with
  | none => none
  | some (n, r) => texts? n r
def dec (b : List UInt8) : Option (List ByteArray) :=
  match list? b with
  | some (L, []) => some L
  | _ => none
theorem text_enc (t : ByteArray) (ht : t.size < 4294967296) (s : List UInt8) : text? (be4 t.size ++ t.data.toList ++ s) = some (t.data.toList, s) := by
  unfold text?
  rw [List.append_assoc, num_be4 _ ht]
  simp only
  rw [if_pos (by simp), List.take_left' (size_data t), List.drop_left' (size_data t)]
theorem texts_enc : ∀ (L : List ByteArray) (s : List UInt8), (∀ t ∈ L, t.size < 4294967296) → texts? L.length (encs L ++ s) = some (L, s)
  | [], s, _ => rfl
  | t :: L, s, h => by
    rw [List.length_cons, texts?, encs_cons, List.append_assoc, text_enc t (h t (by simp))]
    simp only
    rw [texts_enc L s fun u hu => h u (by simp [hu])]
theorem list_enc (L : List ByteArray) (s : List UInt8) (hl : L.length < 4294967296) (h : ∀ t ∈ L, t.size < 4294967296) : list? (enc L ++ s) = some (L, s) := by
  unfold list? enc
  rw [List.append_assoc, num_be4 _ hl]
  exact texts_enc L s h
theorem list_enc_bulk (L : List ByteArray) (s : List UInt8) (h : bulk L ≤ 2000000) : list? (enc L ++ s) = some (L, s) :=
  list_enc L s (by have := bulk_length L; omega) fun t ht => by have := bulk_mem ht; omega
theorem dec_enc (L : List ByteArray) (h : bulk L ≤ 2000000) : dec (enc L) = some L := by
  have := list_enc_bulk L [] h
  rw [List.append_nil] at this
  unfold dec
  rw [this]
def Texts (w : World) (v : Value) (n : Nat) (L : List ByteArray) : Prop := n = L.length ∧ Reads w v (sv L) ∧ n ≤ maxLen ∧ ∀ s ∈ L, s.size ≤ maxLen
theorem Texts.shape {w : World} {v : Value} {n : Nat} {L : List ByteArray} (h : Texts w v n L) : ∃ ao c, v = .slice ao n c := by
  obtain ⟨rfl, ⟨ao, c, rfl, _⟩, _⟩ := h
  exact ⟨ao, c, by rw [sv_length]⟩
theorem Texts.at {w : World} {ao : Option Addr} {n c : Nat} {L : List ByteArray} (h : Texts w (.slice ao n c) n L) {k : Nat} (hk : k < n) : ∃ a s, ao = some a ∧ L[k]? = some s ∧ w.cell? (a.add k) = some (.string s) ∧ s.size ≤ maxLen := by
  obtain ⟨rfl, ⟨ao', c', e, _, hn, hc⟩, _, hs⟩ := h
  simp only [Value.slice.injEq] at e
  obtain ⟨rfl, _, _⟩ := e
  have hx : L[k]? = some L[k] := List.getElem?_eq_getElem hk
  cases ao with
  | none => have := (hn rfl).1; have : L = [] := by simpa [sv] using this
            subst this; simp at hk
  | some a => exact ⟨a, L[k], rfl, hx, hc a rfl k _ (by simp [sv, hx]), hs _ (List.getElem_mem _)⟩
theorem take_next {α : Type} {L : List α} {k : Nat} {s : α} (h : L[k]? = some s) : L.take (k + 1) = L.take k ++ [s] := by rw [List.take_add_one, h]; rfl
theorem Texts.below {w w' : World} {v : Value} {n : Nat} {L : List ByteArray} (h : Texts w v n L) (hb : Below w.heap.size w w') : Texts w' v n L := by
  refine ⟨h.1, ?_, h.2.2⟩
  obtain ⟨ao, cap, rfl, h0, h1, h2⟩ := h.2.1
  refine ⟨ao, cap, rfl, h0, h1, fun a ha j u hj => ?_⟩
  have hc := h2 a ha j u hj
  rw [World.cell?_of_block (hb.block _ (World.block_lt_of_cell? w _ hc))]
  exact hc
theorem encs_take {L : List ByteArray} {k : Nat} {s : ByteArray} (h : L[k]? = some s) : encs (L.take (k + 1)) = encs (L.take k) ++ be4 s.size ++ s.data.toList := by
  rw [take_next h, encs_append]; simp [encs]
theorem encs_take_le (L : List ByteArray) (k : Nat) : (encs (L.take k)).length ≤ (encs L).length := by
  have : encs L = encs (L.take k) ++ encs (L.drop k) := by rw [← encs_append, List.take_append_drop]
  rw [this, List.length_append]; omega
theorem Texts.lit (w : World) (L : List ByteArray) (fr : Nat × Nat) (n : Nat) (hn : n = L.length) (hn2 : n ≤ maxLen) (hs : ∀ s ∈ L, s.size ≤ maxLen) : Texts (w.alloc (.cells (sv L).toArray 9 fr)) (.slice (some ⟨w.heap.size, 0, none⟩) n n) n L :=
  ⟨hn, Reads.lit w (sv L) 9 fr n (by rw [sv_length]; exact hn), hn2, hs⟩
theorem info_string : (Tryz.prog.info? 9).map (fun i => (i.zero, i.size, i.bytes)) = some (some (.string ⟨#[]⟩), 1, 16) := by kernel_rfl
def Ss (w : World) (base : Nat) (v : Value) (n : Nat) (L : List ByteArray) : Prop := n = L.length ∧ w.ownsRow base 9 1 v n (sv L)
theorem Ss.alloc {w : World} {base : Nat} {v : Value} {n : Nat} {L : List ByteArray} (h : Ss w base v n L) (o : Obj) : Ss (w.alloc o) base v n L := ⟨h.1, h.2.alloc o⟩
theorem Ss.reads {w : World} {base : Nat} {v : Value} {n : Nat} {L : List ByteArray} (h : Ss w base v n L) : Reads w v (sv L) := by
  obtain ⟨rfl, h⟩ := h
  exact Reads.own (by simpa [sv_length] using h)
theorem Ss.texts {w : World} {base : Nat} {v : Value} {n : Nat} {L : List ByteArray} (h : Ss w base v n L) (hn : n ≤ maxLen) (hs : ∀ s ∈ L, s.size ≤ maxLen) : Texts w v n L := ⟨h.1, h.reads, hn, hs⟩
theorem run_append_strs (ty : TypeId) (base : Nat) (v : Value) (n : Nat) (xs : List Value) (w : World) (hown : w.ownsRow base 9 1 v n xs) (vb : Value) (news : List Value) (hr : Reads w vb news) (h1 : ∀ u ∈ news, u.oneCell' = true)
    (h63 : Hid (n + news.length ≤ maxLen)) (hbytes : Hid ((n + news.length) * 16 ≤ 140737488355328)) (hbase : base ≤ w.heap.size) :
    ∃ ao c w', (Builtin.append_ #[97, 97] ty #[v, vb]).run Tryz.prog w = .ok (.slice ao (n + news.length) c) w' ∧ w'.ownsRow base 9 1 (.slice ao (n + news.length) c) (n + news.length) (xs ++ news) ∧ w.grownBy w' v.ownBlock ∧
      ((Value.slice ao (n + news.length) c).ownBlock = v.ownBlock ∨ (Value.slice ao (n + news.length) c).ownBlock = some w.heap.size) := by
  obtain ⟨i0, hi, hz0, hz1, hz2⟩ := info_parts info_string
  obtain ⟨ao, cap, rfl, _, hn, hc⟩ := hr
  cases ao with
  | none =>
    obtain ⟨rfl, rfl⟩ := hn rfl
    obtain ⟨ao, c, rfl⟩ := owns_shape hown
    have := run_append_owned_none (P := Tryz.prog) w base 97 ty 9 i0 1 Tryz.underlying97 hi (.slice ao n c) n xs hown
    exact ⟨ao, c, w, this, by simpa using hown, grown_refl _ _, .inl rfl⟩
  | some a =>
    obtain ⟨v', w', hr, h2, h3, _, h5⟩ := run_append_own_at (P := Tryz.prog) w base 97 ty 9 i0 (.string ⟨#[]⟩) 1 16 Tryz.underlying97 hi hz0 hz1 hz2 rfl (by decide) v n xs hown a news.length cap news (by simp) (hc a rfl) h1 h63.out hbytes.out hbase
    obtain ⟨ao, c, rfl⟩ := owns_shape h2
    exact ⟨ao, c, w', hr, h2, h3, h5⟩
theorem wpList_append_texts {ops : Array Oper} {rest : List Oper} {o : Oper} {a : Act} {w : World} {Q : Exit → Act → World → Prop} (hgd : o.guard = none) (s x : Operand)
    (ho : o.op = .call { callee := .builtin .append, args := #[s, x], argTypes := #[97, 97] })
    (base : Nat) (v : Value) (n : Nat) (l : List ByteArray) (hs : a.eval s = v) (hown : Ss w base v n l) (vb : Value) (m : Nat) (k : List ByteArray) (hm : m = k.length) (hx : a.eval x = vb) (hr : Reads w vb (sv k))
    (p : Nat) (hp : p = n + m) (h63 : Hid (p ≤ maxLen)) (hbytes : Hid (p * 16 ≤ 140737488355328)) (hbase : base ≤ w.heap.size)
    (h : ∀ ao c w', Ss w' base (.slice ao p c) p (l ++ k) → Below base w w' → wpList Tryz.prog ops Q rest (a.put o.dst (.slice ao p c)) w') : wpList Tryz.prog ops Q (o :: rest) a w := by
  subst hm hp
  obtain ⟨hn, hown⟩ := hown
  refine wpList_plain hgd fun K hK => ?_
  obtain ⟨ao, c, w', hr', h2, h3, _⟩ := run_append_strs o.type base v n (sv l) w hown vb (sv k) hr (sv_one k) (by rw [sv_length]; exact h63) (by rw [sv_length]; exact hbytes) hbase
  rw [sv_length] at hr' h2
  unfold Oper.wp execOp
  simp only [ho, resolve, invoke, builtin, Sem.run_bind, Sem.run_pure, Result.andThen_ok, List.map_toArray, List.map_cons, List.map_nil, hs, hx, hr']
  refine hK _ _ (h ao c w' ⟨by rw [hn, List.length_append], ?_⟩ (below_grown_own hown h3 hbase))
  simpa [sv] using h2
theorem wpList_make_texts {ops : Array Oper} {rest : List Oper} {o : Oper} {a : Act} {w : World} {Q : Exit → Act → World → Prop} (hgd : o.guard = none) (s x : Operand) (ho : o.op = Op.makeSlice 97 s x)
    (base n : Nat) (C : Int) (hl : a.eval s = .int .i64 0) (hc : a.eval x = .int .i64 C) (hC : C = (n : Int)) (h63 : Hid (n ≤ 4294967296)) (hbase : base ≤ w.heap.size)
    (h : ∀ w', Ss w' base (.slice (some ⟨w.heap.size, 0, none⟩) 0 n) 0 [] → Below base w w' → wpList Tryz.prog ops Q rest (a.put o.dst (.slice (some ⟨w.heap.size, 0, none⟩) 0 n)) w') : wpList Tryz.prog ops Q (o :: rest) a w := by
  obtain ⟨i0, hi, hz0, hz1, hz2⟩ := info_parts info_string
  have hm := h63.out
  exact wpList_make_own w hgd s x _ ho base 9 i0 _ 1 Tryz.underlying97 hi hz0 hz1 .i64 .i64 C n hl hc hC (by rw [hz2]; omega) (by unfold maxLen; omega) hbase fun w' hown hg => h w' ⟨rfl, hown⟩ (below_none hg hbase)
theorem text_shorter {b t r : List UInt8} (h : text? b = some (t, r)) : 4 + r.length ≤ b.length := by
  unfold text? at h
  split at h
  · cases h
  · next n q hq =>
    unfold num? at hq
    split at hq
    · next hl =>
      simp only [Option.some.injEq, Prod.mk.injEq] at hq
      split at h
      · simp only [Option.some.injEq, Prod.mk.injEq] at h
        rw [← h.2, ← hq.2]
        simp; omega
      · cases h
    · cases hq
theorem texts_need : ∀ (k : Nat) {b q : List UInt8} {L : List ByteArray}, texts? k b = some (L, q) → 4 * k ≤ b.length
  | 0, _, _, _, _ => by omega
  | k + 1, b, q, L, h => by
    rw [texts?] at h
    split at h
    · cases h
    · next t r ht =>
      have := text_shorter ht
      split at h
      · cases h
      · next M q' hq => have := texts_need k hq; omega
theorem Texts.later {w w' : World} {v : Value} {n : Nat} {L : List ByteArray} (h : Texts w v n L) (hg : Grow w w') : Texts w' v n L := ⟨h.1, h.2.1.later hg, h.2.2⟩
end Go.Proofs.YthcdkggkoanjpaaGreatDoor
