/- Both disks in one memory. Numbers and types by name. -/
import Derived.Test.YthglbmnhlnpmkaaGreatRdp
import Derived.Test.YthglbmnhlnpmkaaGreatRx
/- Regions that draw their order and hold calls: one walk, whatever is kept of a world. Numbers and types by name. -/
namespace Go.Proofs.YthglbmnhlnpmkaaGreat
open Go.RowKit Go.Lib
section
variable {P : Program} {ops : Array Oper} {md : Region.Mode}

/-- Every order, each step into a later world. -/
def wpMvg (G : World → World → Prop) (P : Program) (md : Region.Mode) (ops : Array Oper) (Q : Act → World → Prop) : Nat → Array Bool → Act → World → Prop
  | 0, listed, a, w => Region.ready md ops listed = [] ∧ Q a w
  | fuel + 1, listed, a, w =>
    (Region.ready md ops listed = [] → Q a w) ∧
    ∀ i ∈ Region.ready md ops listed, mvOp P ops i (fun a' w' => G w w' ∧ wpMvg G P md ops Q fuel (listed.setIfInBounds i true) a' w') a w

theorem wpAny_of_mvg {G : World → World → Prop} {Q : Act → World → Prop} {Q' : Exit → Act → World → Prop} (hQ : ∀ a w, Q a w → Q' .normal a w) : ∀ (fuel : Nat) (listed : Array Bool) (a : Act) (w : World),
    wpMvg G P md ops Q fuel listed a w → wpAny P md ops Q' fuel listed a w
  | 0, _, _, _, h => ⟨h.1, hQ _ _ h.2⟩
  | fuel + 1, _, _, _, h => ⟨fun h0 => hQ _ _ (h.1 h0), fun i hi => wpOp_mono (fun a' w' h' => wpAny_of_mvg hQ fuel _ a' w' h'.2) (wpOp_of_mvOp (h.2 i hi))⟩

/-- The operation yields v in every later world. -/
def Upg (G : World → World → Prop) (P : Program) (ops : Array Oper) (w : World) (o : Oper) (v : Value) (a : Act) : Prop := ∀ w', G w w' → YieldsAt P ops w' o v a

theorem Upg.later {G : World → World → Prop} (g1 : ∀ {a b c}, G a b → G b c → G a c) {w w' : World} {o : Oper} {v : Value} {a : Act} (h : Upg G P ops w o v a) (hg : G w w') : Upg G P ops w' o v a := fun w'' hg' => h w'' (g1 hg hg')

theorem mvOp_putg {G : World → World → Prop} (g1 : ∀ {a b c}, G a b → G b c → G a c) {j : Nat} {oi oj : Oper} {v : Value} {w : World} (hj : ops[j]? = some oj) (hap : oi.apart ops oj = true)
    (hsi : ∀ cs b, oi.op ≠ .select cs b) (hsj : ∀ cs b, oj.op ≠ .select cs b) {K : Act → World → Prop} {a : Act}
    (hy : Upg G P ops w oi v a) (h : mvOp P ops j (fun a' w' => G w w' ∧ K a' w') (a.put oi.dst v) w) :
    mvOp P ops j (fun a' w' => G w w' ∧ (Upg G P ops w' oi v a' ∧ K (a'.put oi.dst v) w')) a w := by
  obtain ⟨h1, h2, h3⟩ := Oper.apart_spec hap
  have keep : ∀ (w' : World) (u : Value), G w w' → Upg G P ops w' oi v (a.put oj.dst u) := fun w' u hg w'' hg' =>
    (hy w'' (g1 hg hg')).of_same (execOp_put oi hsi a oj.dst u h3) (wanted_put oi a oj.dst u h3)
  unfold mvOp mvRun at *
  simp only [hj] at *
  rw [wanted_put oj a oi.dst v h1] at h
  split
  · rename_i hw
    simp only [hw, if_true] at h
    rw [execOp_put oj hsj a oi.dst v h1] at h
    generalize (execOp a.eval oj).run P w = r at *
    cases r with
    | ok n w' =>
      cases n <;> simp only [mvUpon] at h ⊢
      case value u => exact ⟨h.1, keep _ u h.1, by rw [← Act.put_comm a v u h2]; exact h.2⟩
      case skip => exact ⟨h.1, keep _ _ h.1, by rw [← Act.put_comm a v undef h2]; exact h.2⟩
      case enter f args => exact h.mono fun e w'' ⟨u, he, hg, hk⟩ => ⟨u, he, hg, keep _ u hg, by rw [← Act.put_comm a v u h2]; exact hk⟩
    | halt x w' => simp only [mvUpon] at h
  · rename_i hw
    simp only [hw] at h
    exact ⟨h.1, keep _ _ h.1, by rw [← Act.put_comm a v undef h2]; exact h.2⟩

theorem wpMvg_first {G : World → World → Prop} (g0 : ∀ w, G w w) (g1 : ∀ {a b c}, G a b → G b c → G a c) {Q : Act → World → Prop} {i : Nat} {oi : Oper} {v : Value} (hi : ops[i]? = some oi) (hsel : ∀ (j : Nat) (o : Oper) cs b, ops[j]? = some o → o.op ≠ .select cs b) :
    ∀ (fuel : Nat) (listed : Array Bool) (a : Act) (w : World),
      (∀ j oj, ops[j]? = some oj → j ≠ i → listed.getD j true = false → (∀ e ∈ oj.after, Region.binds md e = true → e.on ≠ i) → oi.apart ops oj = true) →
      i ∈ Region.ready md ops listed → Upg G P ops w oi v a →
      wpMvg G P md ops Q fuel (listed.setIfInBounds i true) (a.put oi.dst v) w → wpMvg G P md ops Q (fuel + 1) listed a w := by
  intro fuel
  induction fuel with
  | zero =>
    intro listed a w _ hr hy H
    refine ⟨fun h => (by rw [h] at hr; cases hr), fun j hj => ?_⟩
    by_cases hji : j = i
    · subst hji; exact YieldsAt.mvOp hi (hy w (g0 w)) ⟨g0 w, H⟩
    · have := ready_mono hj hji
      rw [H.1] at this
      cases this
  | succ fuel ih =>
    intro listed a w hfree hr hy H
    refine ⟨fun h => (by rw [h] at hr; cases hr), fun j hj => ?_⟩
    by_cases hji : j = i
    · subst hji; exact YieldsAt.mvOp hi (hy w (g0 w)) ⟨g0 w, H⟩
    · have h1 := H.2 j (ready_mono hj hji)
      obtain ⟨hjun, oj, hoj, hall⟩ := mem_ready.1 hj
      have hnot : ∀ e ∈ oj.after, Region.binds md e = true → e.on ≠ i := fun e he hb heq => by
        have h1 := hall e he hb
        have h0 := (mem_ready.1 hr).1
        rw [heq] at h1
        rcases Nat.lt_or_ge i listed.size with h' | h'
        · simp [h'] at h0 h1; rw [h0] at h1; cases h1
        · simp [Array.getElem?_eq_none h'] at h1
      have h2 := mvOp_putg (G := G) g1 hoj (hfree j oj hoj hji hjun hnot) (fun cs b => hsel i oi cs b hi) (fun cs b => hsel j oj cs b hoj) hy h1
      have hfree' : ∀ k ok, ops[k]? = some ok → k ≠ i → (listed.setIfInBounds j true).getD k true = false →
          (∀ e ∈ ok.after, Region.binds md e = true → e.on ≠ i) → oi.apart ops ok = true := fun k ok hk hki hun hno => by
        refine hfree k ok hk hki ?_ hno
        by_cases hjk : j = k
        · subst hjk; exact hjun
        · rw [getD_set_ne true hjk] at hun; exact hun
      refine mvOp_mono (fun a' w' h3 => ⟨h3.1, ih (listed.setIfInBounds j true) a' w' hfree' (ready_mono hr (Ne.symm hji)) h3.2.1 ?_⟩) h2
      rw [Array.setIfInBounds_comm _ _ hji]
      exact h3.2.2

/-- One walk. -/
def wpLing (G : World → World → Prop) (P : Program) (ops : Array Oper) (Q : Act → World → Prop) : List (Nat × Bool × Oper) → Act → World → Prop
  | [], a, w => Q a w
  | (_, true, o) :: r, a, w => ∃ v, Upg G P ops w o v a ∧ wpLing G P ops Q r (a.put o.dst v) w
  | (_, false, o) :: r, a, w => mvRun P ops o (fun a' w' => G w w' ∧ wpLing G P ops Q r a' w') a w

theorem wpMvg_of_lin {G : World → World → Prop} (g0 : ∀ w, G w w) (g1 : ∀ {a b c}, G a b → G b c → G a c) {Q : Act → World → Prop} (hs : Region.noSelect ops = true) : ∀ (l : List (Nat × Bool × Oper)) (listed : Array Bool) (a : Act) (w : World), (∀ x ∈ l, ops[x.1]? = some x.2.2) →
    mvB md ops l listed = true → wpLing G P ops Q l a w → wpMvg G P md ops Q l.length listed a w
  | [], _, _, _, _, hB, h => ⟨by simpa [mvB] using hB, h⟩
  | (k, true, o) :: r, listed, a, w, hat, hB, h => by
    simp only [mvB, Bool.and_eq_true] at hB
    obtain ⟨v, hy, hK⟩ := h
    have h0 : ops[k]? = some o := hat (k, true, o) (List.mem_cons_self ..)
    exact wpMvg_first (G := G) g0 g1 h0 (Region.noSelect_spec hs) r.length listed a w (Region.free_spec h0 hB.1.2) (by simpa using hB.1.1) hy
      (wpMvg_of_lin (G := G) g0 g1 hs r _ _ w (fun x hx => hat x (by simp [hx])) hB.2 hK)
  | (k, false, o) :: r, listed, a, w, hat, hB, h => by
    simp only [mvB, Bool.and_eq_true, decide_eq_true_eq] at hB
    refine ⟨fun h1 => (by rw [hB.1] at h1; cases h1), fun i hi => ?_⟩
    rw [hB.1] at hi
    obtain rfl : i = k := by simpa using hi
    have h0 : ops[i]? = some o := hat (i, false, o) (List.mem_cons_self ..)
    have hm : mvOp P ops i (fun a' w' => G w w' ∧ wpLing G P ops Q r a' w') a w := by unfold mvOp; simp only [h0]; exact h
    exact mvOp_mono (fun a' w' h' => ⟨h'.1, wpMvg_of_lin (G := G) g0 g1 hs r _ a' w' (fun x hx => hat x (by simp [hx])) hB.2 h'.2⟩) hm

theorem wp_region_mvg (G : World → World → Prop) (g0 : ∀ w, G w w) (g1 : ∀ {a b c}, G a b → G b c → G a c) {id : Nat} {Q : Exit → Act → World → Prop} {a : Act} {w : World} {l : List Oper} (segs : List (Nat × Nat × Bool)) (hm : P.follows .mixedOrders = true) (hB : mvOk l.toArray (mvAll segs l) = true)
    (h : wpLing G P l.toArray (fun a' w' => Q .normal a' w') (mvAll segs l) a w.drew) : (Code.region id l.toArray true).wp P Q a w := by
  simp only [mvOk, Bool.and_eq_true, beq_iff_eq] at hB
  refine wp_region_any hm (wpAny_of_mvg (G := G) (Q := fun a' w' => Q .normal a' w') (fun _ _ h => h) _ _ _ _ ?_)
  have := wpMvg_of_lin (G := G) g0 g1 (md := .any) hB.1.1 (mvAll segs l) (Array.replicate l.toArray.size false) a w.drew (mvAll_at l segs) hB.2 h
  rw [hB.1.2] at this
  exact this

theorem wpLing_nil {G : World → World → Prop} {Q : Act → World → Prop} {a : Act} {w : World} (h : Q a w) : wpLing G P ops Q [] a w := h

theorem wpLing_still {G : World → World → Prop} {Q : Act → World → Prop} {k : Nat} {o : Oper} {r : List (Nat × Bool × Oper)} {a : Act} {w : World} (v : Value) (hv : ∀ w', G w w' → ∀ K : Value → Prop, K v → mvVal P ops o a w' K)
    (h : ∀ K : Act → Prop, (∀ a, wpLing G P ops Q r a w → K a) → K (a.put o.dst v)) : wpLing G P ops Q ((k, true, o) :: r) a w := by
  refine ⟨v, fun w' hg => ?_, h _ fun _ h => h⟩
  have := hv w' hg (fun u => u = v) rfl
  unfold mvVal at this
  unfold YieldsAt
  by_cases hw : Region.wanted o (yielded ops a.tmps) = true
  · left
    rw [if_pos hw] at this
    refine ⟨hw, ?_⟩
    split at this
    · next heq => obtain ⟨rfl, rfl⟩ := this; exact .inl heq
    · next heq => obtain ⟨rfl, rfl⟩ := this; exact .inr (.inl ⟨heq, rfl⟩)
    · next heq => obtain ⟨rfl, u, hc, rfl⟩ := this; exact .inr (.inr ⟨_, _, heq, hc⟩)
    · exact this.elim
  · right
    rw [if_neg hw] at this
    exact ⟨by simpa using hw, this.symm⟩

theorem wpLing_call {G : World → World → Prop} {Q : Act → World → Prop} {k : Nat} {o : Oper} {r : List (Nat × Bool × Oper)} {a : Act} {w : World}
    (h : ∀ K : Act → World → Prop, (∀ a w', G w w' → wpLing G P ops Q r a w' → K a w') → mvRun P ops o K a w) : wpLing G P ops Q ((k, false, o) :: r) a w :=
  h _ fun _ _ hg hk => ⟨hg, hk⟩
end

end Go.Proofs.YthglbmnhlnpmkaaGreat

namespace Go.Proofs.YthglbmnhlnpmkaaGreat
open Go.RowKit Go.Maps Go.Sort Go.WideMaps

/-- The blocks that X names stay as they are. -/
def Stays (X : Nat → Prop) (w w' : World) : Prop := Below 0 w w' ∧ ∀ q, X q → w'.heap[q]? = w.heap[q]?
theorem Stays.refl (X : Nat → Prop) (w : World) : Stays X w w := ⟨Below.refl _ _, fun _ _ => rfl⟩
theorem Stays.trans {X : Nat → Prop} {a b c : World} (h : Stays X a b) (k : Stays X b c) : Stays X a c := ⟨h.1.trans k.1, fun q hq => (k.2 q hq).trans (h.2 q hq)⟩
theorem Stays.less {X Y : Nat → Prop} {a b : World} (h : Stays X a b) (hY : ∀ q, Y q → X q) : Stays Y a b := ⟨h.1, fun q hq => h.2 q (hY q hq)⟩
theorem Stays.below {n : Nat} {a b : World} (h : Stays (· < n) a b) : Below n a b := ⟨h.1.os, h.1.tape, h.1.output, h.1.size, fun q hq => h.2 q hq⟩
theorem Stays.of_turn {X : Nat → Prop} {F : List Nat} {w w' : World} (t : Turn F w w') (hX : ∀ q, X q → q < w.heap.size ∧ q ∉ F) : Stays X w w' :=
  ⟨t.below (Nat.zero_le _) (fun k _ => Nat.zero_le _), fun q hq => t.block q (hX q hq).1 (hX q hq).2⟩
theorem Stays.drew {X : Nat → Prop} (w : World) : Stays X w w.drew := ⟨(Below.refl _ _).drew, fun _ _ => rfl⟩
theorem Stays.cell {X : Nat → Prop} {w w' : World} (h : Stays X w w') {a : Addr} {v : Value} (hX : X a.block) (hc : w.cell? a = some v) : w'.cell? a = some v :=
  (World.cell?_of_block (h.2 _ hX)).trans hc
theorem Stays.reads {X : Nat → Prop} {w w' : World} (h : Stays X w w') {v : Value} {xs : List Value} (hr : Reads w v xs) (hX : xs ≠ [] → ∀ a n c, v = .slice (some a) n c → X a.block) : Reads w' v xs := by
  obtain ⟨ao, c, e, h1, h2, h3⟩ := hr
  refine ⟨ao, c, e, h1, h2, fun a ha j u hj => ?_⟩
  have hne : xs ≠ [] := by rintro rfl; cases hj
  subst ha
  have h0 := h3 a rfl j u hj
  refine h.cell ?_ h0
  have : (a.add j).block = a.block := by unfold Addr.add; split <;> rfl
  rw [this]
  exact hX hne a _ _ e

/-- The code's disk is M1, the reference's M2; nothing of theirs that is written is named by X. -/
def Both (X : Nat → Prop) (w : World) (base b r : Nat) (M1 M2 : MD) : Prop :=
  (∀ q, X q → q < w.heap.size) ∧ ∃ Fd Fr G, CD w base b M1 Fd ∧ RD w r M2 Fr G ∧ (∀ q ∈ Fd, q ∉ Fr ∧ q ∉ G ∧ ¬ X q) ∧ ∀ q ∈ Fr, ¬ X q

theorem Both.less {X Y : Nat → Prop} {w : World} {base b r : Nat} {M1 M2 : MD} (h : Both X w base b r M1 M2) (hY : ∀ q, Y q → X q) : Both Y w base b r M1 M2 := by
  obtain ⟨h0, Fd, Fr, G, h1, h2, h3, h4⟩ := h
  exact ⟨fun q hq => h0 q (hY q hq), Fd, Fr, G, h1, h2, fun q hq => ⟨(h3 q hq).1, (h3 q hq).2.1, fun e => (h3 q hq).2.2 (hY q e)⟩, fun q hq e => h4 q hq (hY q e)⟩
theorem Both.new {X : Nat → Prop} {w w' : World} {base b r : Nat} {M1 M2 : MD} (h : Both X w base b r M1 M2) (t : Turn [] w w') : Both X w' base b r M1 M2 := by
  obtain ⟨h0, Fd, Fr, G, h1, h2, h3, h4⟩ := h
  exact ⟨fun q hq => Nat.lt_of_lt_of_le (h0 q hq) t.size, Fd, Fr, G, h1.new t, h2.new t, h3, h4⟩
theorem Both.box {X : Nat → Prop} {w : World} {base b r : Nat} {M1 M2 : MD} (h : Both X w base b r M1 M2) (o : Obj) : Both (fun q => X q ∨ q = w.heap.size) (w.alloc o) base b r M1 M2 := by
  have t : Turn [] w (w.alloc o) := (Turn.refl [] w).alloc _
  obtain ⟨h0, Fd, Fr, G, h1, h2, h3, h4⟩ := h
  refine ⟨fun q hq => ?_, Fd, Fr, G, h1.new t, h2.new t, fun q hq => ⟨(h3 q hq).1, (h3 q hq).2.1, ?_⟩, fun q hq => ?_⟩
  · have e : (w.alloc o).heap.size = w.heap.size + 1 := by simp
    rcases hq with hq | hq
    · have := h0 q hq; omega
    · omega
  · rintro (e | e)
    · exact (h3 q hq).2.2 e
    · have := (h1.lt q hq).2; omega
  · rintro (e | e)
    · exact h4 q hq e
    · have := h2.lt.1 q hq; omega

theorem Both.code {X : Nat → Prop} {w w' : World} {base b r : Nat} {M2 M' : MD} {Fd Fr G : List Nat} (h0 : ∀ q, X q → q < w.heap.size) (h2 : RD w r M2 Fr G) (h3 : ∀ q ∈ Fd, q ∉ Fr ∧ q ∉ G ∧ ¬ X q) (h4 : ∀ q ∈ Fr, ¬ X q)
    (hn : Next w w' base b M' Fd) : Both X w' base b r M' M2 ∧ Stays X w w' := by
  obtain ⟨F', k1, k2, t⟩ := hn
  refine ⟨⟨fun q hq => Nat.lt_of_lt_of_le (h0 q hq) t.size, F', Fr, G, k1, h2.keep t (fun k hk hm => (h3 k hm).1 hk) (fun k hk hm => (h3 k hm).2.1 hk), fun q hq => ?_, h4⟩, Stays.of_turn t fun q hq => ⟨h0 q hq, fun hm => (h3 q hm).2.2 hq⟩⟩
  rcases k2 q hq with e | e
  · exact h3 q e
  · exact ⟨fun hm => by have := h2.lt.1 q hm; omega, fun hm => by have := (h2.lt.2 q hm).2; omega, fun hm => by have := h0 q hm; omega⟩

theorem Both.refd {X : Nat → Prop} {w w' : World} {base b r : Nat} {M1 M2 M' : MD} {Fd Fr G P : List Nat} (h0 : ∀ q, X q → q < w.heap.size) (h1 : CD w base b M1 Fd) (h2 : RD w r M2 Fr G) (h3 : ∀ q ∈ Fd, q ∉ Fr ∧ q ∉ G ∧ ¬ X q) (h4 : ∀ q ∈ Fr, ¬ X q)
    (hP : ∀ q ∈ P, X q) (hn : RNext w w' r M' Fr G P) : Both X w' base b r M1 M' ∧ Stays X w w' := by
  obtain ⟨F', G', k1, k2, k3, t⟩ := hn
  refine ⟨⟨fun q hq => Nat.lt_of_lt_of_le (h0 q hq) t.size, Fd, F', G', h1.keep t (fun k hk hm => (h3 k hk).1 hm), k1, fun q hq => ⟨fun hm => ?_, fun hm => ?_, (h3 q hq).2.2⟩, fun q hq => ?_⟩, Stays.of_turn t fun q hq => ⟨h0 q hq, fun hm => h4 q hm hq⟩⟩
  · rcases k2 q hm with e | e
    · exact (h3 q hq).1 e
    · have := (h1.lt q hq).2; omega
  · rcases k3 q hm with e | e | e
    · exact (h3 q hq).2.1 e
    · exact (h3 q hq).2.2 (hP q e)
    · have := (h1.lt q hq).2; omega
  · rcases k2 q hq with e | e
    · exact h4 q e
    · intro hm; have := h0 q hm; omega

theorem code_op {P : Program} {f : Nat} {args : Array Value} {X : Nat → Prop} {w : World} {base b r : Nat} {M M2 : MD} {op : Opn} (h : Both X w base b r M M2)
    (hc : ∀ F, CD w base b M F → (∀ q ∈ F, ¬ X q) → Calls P f args w (Left (Acted w base b M F op))) :
    Calls P f args w fun e w' => e = .returned (.int .i64 (M.act op).1) ∧ Both X w' base b r (M.act op).2 M2 ∧ Stays X w w' := by
  obtain ⟨h0, Fd, Fr, G, h1, h2, h3, h4⟩ := h
  refine (hc Fd h1 fun q hq => (h3 q hq).2.2).mono ?_
  rintro e w' ⟨k, rfl, rfl, hn⟩
  exact ⟨rfl, Both.code h0 h2 h3 h4 hn⟩
theorem ref_op {P : Program} {f : Nat} {args : Array Value} {X : Nat → Prop} {w : World} {base b r : Nat} {M M1 : MD} {op : Opn} (h : Both X w base b r M1 M)
    (hc : ∀ F G, RD w r M F G → (∀ q ∈ F, ¬ X q) → Calls P f args w (Left (RActed w r M F G op))) :
    Calls P f args w fun e w' => e = .returned (.int .i64 (M.act op).1) ∧ Both X w' base b r M1 (M.act op).2 ∧ Stays X w w' := by
  obtain ⟨h0, Fd, Fr, G, h1, h2, h3, h4⟩ := h
  refine (hc Fr G h2 h4).mono ?_
  rintro e w' ⟨k, rfl, rfl, hn⟩
  exact ⟨rfl, Both.refd h0 h1 h2 h3 h4 (by simp) hn⟩

/-- How much may have come onto a disk by j acts, each of at most K bytes. -/
structure Hold (K : Nat) (M : MD) (j : Nat) : Prop where
  n : M.n ≤ j
  tot : tot M.fs ≤ j * K
  len : M.fs.length ≤ j
  fail : M.fail.length ≤ 200
  keep : M.keep.length ≤ 200
  cap : M.cap ≤ 9223372036854775807

theorem held_lim {K : Nat} (hK : 120 * K < 900000000) {M : MD} {j : Nat} (h : Hold K M j) (hj : j ≤ 120) : Lim M :=
  ⟨by have := h.n; omega, ⟨Nat.lt_of_le_of_lt h.tot (Nat.lt_of_le_of_lt (Nat.mul_le_mul_right K hj) hK), by have := h.len; omega⟩, by have := h.fail; omega, by have := h.keep; omega⟩
theorem held_step {K : Nat} {M : MD} {j : Nat} (h : Hold K M j) (M' : MD) (hn : M'.n ≤ M.n + 1) (ht : tot M'.fs ≤ tot M.fs + K) (hl : M'.fs.length ≤ M.fs.length + 1) (hf : M'.fail = M.fail) (hk : M'.keep = M.keep) (hc : M'.cap = M.cap) : Hold K M' (j + 1) := by
  have h1 := h.n
  have h2 := h.tot
  have h3 := h.len
  refine ⟨by omega, ?_, by omega, by rw [hf]; exact h.fail, by rw [hk]; exact h.keep, by rw [hc]; exact h.cap⟩
  rw [Nat.succ_mul]
  exact Nat.le_trans ht (Nat.add_le_add_right h2 K)
theorem held_more {K : Nat} {M : MD} {j : Nat} (h : Hold K M j) : Hold K M (j + 1) :=
  held_step h M (by omega) (Nat.le_add_right _ _) (Nat.le_add_right _ _) rfl rfl rfl

/-- A call on files: at most so many bytes more, at most a file more. -/
def Adds (op : Opn) (c : Nat) : Prop := ∀ cap fs, Rising fs → tot (op cap fs).2 ≤ tot fs + c ∧ (op cap fs).2.length ≤ fs.length + 1

theorem held_act {K : Nat} {M : MD} {j : Nat} (h : Hold K M j) {op : Opn} (ho : Adds op K) (hr : Rising M.fs) : Hold K (M.act op).2 (j + 1) := by
  have h1 := ho M.cap M.fs hr
  unfold MD.act
  split
  · exact held_more h
  · split
    · refine held_step h _ (Int.le_refl _) ?_ ?_ rfl rfl rfl
      · show tot (if M.dn = true then (op M.cap M.fs).2 else M.fs) ≤ _
        split
        · exact h1.1
        · exact Nat.le_add_right _ _
      · show (if M.dn = true then (op M.cap M.fs).2 else M.fs).length ≤ _
        split
        · exact h1.2
        · exact Nat.le_add_right _ _
    · split
      · exact held_step h _ (Int.le_refl _) (Nat.le_add_right _ _) (Nat.le_add_right _ _) rfl rfl rfl
      · exact held_step h _ (Int.le_refl _) h1.1 h1.2 rfl rfl rfl

theorem tot_insE (x : Ent) (fs : List Ent) : tot (insE x fs) = x.2.1.length + tot fs := by rw [tot_perm (insE_perm x fs), tot_cons]
theorem tot_woE (k : List UInt8) (fs : List Ent) : tot (woE k fs) ≤ tot fs := by
  induction fs with
  | nil => exact Nat.le_refl _
  | cons x l ih =>
    unfold woE at *
    rw [List.filter_cons]
    split
    · rw [tot_cons, tot_cons]; omega
    · rw [tot_cons]; omega
theorem len_woE (k : List UInt8) (fs : List Ent) : (woE k fs).length ≤ fs.length := List.length_filter_le _ _
theorem tot_woE_mem {k : List UInt8} {fs : List Ent} {x : Ent} (h : fs.find? (isName k) = some x) : x.2.1.length + tot (woE k fs) ≤ tot fs := by
  induction fs with
  | nil => cases h
  | cons y l ih =>
    rw [List.find?_cons] at h
    cases hy : isName k y with
    | true =>
      rw [hy] at h
      cases h
      have := tot_woE k l
      unfold woE at *
      rw [List.filter_cons_of_neg (by simp [hy]), tot_cons]
      omega
    | false =>
      rw [hy] at h
      have := ih h
      unfold woE at *
      rw [List.filter_cons_of_pos (by simp [hy]), tot_cons, tot_cons]
      omega
theorem tot_updE {k : List UInt8} {u : Ent → Ent} {c : Nat} (hu : ∀ x, (u x).2.1.length ≤ x.2.1.length + c) {fs : List Ent} (hn : (fs.map (·.1)).Nodup) : tot (updE k u fs) ≤ tot fs + c := by
  induction fs with
  | nil => exact Nat.zero_le _
  | cons y l ih =>
    rw [List.map_cons, List.nodup_cons] at hn
    unfold updE at *
    rw [List.map_cons, tot_cons, tot_cons]
    have h1 := ih hn.2
    by_cases hy : isName k y = true
    · rw [if_pos hy]
      have h2 : l.map (fun x => if isName k x = true then u x else x) = l := by
        conv => rhs; rw [← List.map_id l]
        apply List.map_congr_left
        intro x hx
        rw [if_neg]
        · rfl
        · intro e
          exact hn.1 (List.mem_map.2 ⟨x, hx, (isName_iff.1 e).trans (isName_iff.1 hy).symm⟩)
      rw [h2]
      have := hu y
      omega
    · rw [if_neg hy]
      omega
theorem len_updE (k : List UInt8) (u : Ent → Ent) (fs : List Ent) : (updE k u fs).length = fs.length := by simp [updE]

theorem adds_create (c : Nat) (k : List UInt8) : Adds (opCreate k) c := by
  intro cap fs hr
  unfold opCreate
  split
  · exact ⟨Nat.le_add_right _ _, Nat.le_add_right _ _⟩
  · split
    · exact ⟨Nat.le_add_right _ _, Nat.le_add_right _ _⟩
    · simp only [tot_insE, insE_length, List.length_nil]; omega
theorem adds_append (c : Nat) (k l : List UInt8) (hl : l.length ≤ c) : Adds (opAppend k l) c := by
  intro cap fs hr
  unfold opAppend
  split
  · exact ⟨Nat.le_add_right _ _, Nat.le_add_right _ _⟩
  · split
    · exact ⟨Nat.le_add_right _ _, Nat.le_add_right _ _⟩
    · refine ⟨tot_updE (fun x => ?_) hr.nodup, by show (updE _ _ _).length ≤ _; rw [len_updE]; omega⟩
      simp only [List.length_append]; omega
theorem adds_sync (c : Nat) (k : List UInt8) : Adds (opSync k) c := by
  intro cap fs hr
  unfold opSync
  split
  · exact ⟨Nat.le_add_right _ _, Nat.le_add_right _ _⟩
  · exact ⟨tot_updE (u := fun x => (x.1, x.2.1, x.2.1.length)) (fun x => Nat.le_add_right _ _) hr.nodup, by show (updE _ _ _).length ≤ _; rw [len_updE]; omega⟩
theorem adds_cut (c : Nat) (k : List UInt8) (n : Int) : Adds (opCut k n) c := by
  intro cap fs hr
  unfold opCut
  split
  · exact ⟨Nat.le_add_right _ _, Nat.le_add_right _ _⟩
  · split
    · exact ⟨Nat.le_add_right _ _, Nat.le_add_right _ _⟩
    · exact ⟨tot_updE (fun x => by simp only [List.length_take]; omega) hr.nodup, by show (updE _ _ _).length ≤ _; rw [len_updE]; omega⟩
theorem adds_rename (c : Nat) (k j : List UInt8) : Adds (opRename k j) c := by
  intro cap fs hr
  unfold opRename
  split
  · exact ⟨Nat.le_add_right _ _, Nat.le_add_right _ _⟩
  · rename_i x hx
    split
    · exact ⟨Nat.le_add_right _ _, Nat.le_add_right _ _⟩
    · split
      · exact ⟨Nat.le_add_right _ _, Nat.le_add_right _ _⟩
      · have h1 := tot_woE j (woE k fs)
        have h2 := tot_woE_mem hx
        have h3 := len_woE j (woE k fs)
        have h4 := len_woE k fs
        simp only [tot_insE, insE_length]
        omega
theorem adds_remove (c : Nat) (k : List UInt8) : Adds (opRemove k) c := by
  intro cap fs hr
  unfold opRemove
  split
  · exact ⟨Nat.le_add_right _ _, Nat.le_add_right _ _⟩
  · have h1 := tot_woE k fs
    have h2 := len_woE k fs
    exact ⟨Nat.le_trans h1 (Nat.le_add_right _ _), Nat.le_trans h2 (Nat.le_add_right _ _)⟩
theorem held_restart {K : Nat} {M : MD} {j : Nat} (h : Hold K M j) {cap cr : Int} {dn : Bool} {zs ks : List Int} (hc : cap ≤ 9223372036854775807) (hz : zs.length ≤ 200) (hk : ks.length ≤ 200) : Hold K (M.restart cap cr dn zs ks) (j + 1) := by
  have h1 := tot_res M.keep M.fs M.fs.length
  have h3 := h.len
  refine ⟨by show (0 : Int) ≤ _; omega, ?_, by show (resE M.keep M.fs M.fs.length).length ≤ _; rw [resE_length]; omega, hz, hk, hc⟩
  rw [Nat.succ_mul]
  exact Nat.le_trans (Nat.le_trans h1 h.tot) (Nat.le_add_right _ _)

end Go.Proofs.YthglbmnhlnpmkaaGreat
