/- The reference's put: a pair into a list by rising keys. Numbers and types by name. -/
import Derived.Test.YthcdkggkoanjpaaGreatDoorBe4
import Derived.StillTactics
import Derived.Laws.BitsLemmas
import Derived.Test.YthcdkggkoanjpaaGreatDoorTxt
import Derived.Test.YthcdkggkoanjpaaGreatDoorBel
import Derived.Test.YthcdkggkoanjpaaGreatDoorPrl
import Derived.Sort.Walk0
import Derived.StillTailTactics
/- Parts of what can be read; own rows beside others. Numbers and types by name. -/
namespace Go.Proofs.YthcdkggkoanjpaaGreatDoor
open Go.RowKit Go.Lib
theorem Reads.drop {w : World} {a : Addr} {n c : Nat} {l : List UInt8} (h : Reads w (.slice (some a) n c) (bv l)) (k : Nat) (hk : k ≤ n) (b : Addr) (hb : b = a.add k ∨ l.length = k) : Reads w (.slice (some b) (n - k) (c - k)) (bv (l.drop k)) := by
  obtain ⟨ao', c', e, h0, _, h2⟩ := h
  simp only [Value.slice.injEq, bv_length] at e h0
  obtain ⟨e1, rfl, rfl⟩ := e
  refine ⟨some b, c - k, by rw [bv_length, List.length_drop], by rw [bv_length, List.length_drop]; omega, (fun e => by cases e), fun a' ha j u hj => ?_⟩
  cases ha
  have hj2 := (List.getElem?_eq_some_iff.1 hj).1
  rw [bv_length, List.length_drop] at hj2
  rcases hb with rfl | hb
  · rw [Addr.add_add]
    refine h2 a e1.symm (k + j) u ?_
    rw [← hj]
    simp [bv]
  · omega
theorem Reads.prefix {w : World} {ao : Option Addr} {n c : Nat} {l : List UInt8} (h : Reads w (.slice ao n c) (bv l)) (k : Nat) (hk : k ≤ n) : Reads w (.slice ao k c) (bv (l.take k)) := by
  obtain ⟨ao', c', e, h0, h1, h2⟩ := h
  simp only [Value.slice.injEq, bv_length] at e h0
  obtain ⟨rfl, rfl, rfl⟩ := e
  refine ⟨ao, c, by rw [bv_length, List.length_take]; congr 1; omega, by rw [bv_length, List.length_take]; omega, fun e => ?_, fun a ha j u hj => ?_⟩
  · have h3 := h1 e
    have : l = [] := by simpa [bv] using h3.1
    subst this
    exact ⟨by simp [bv], h3.2⟩
  · refine h2 a ha j u ?_
    rw [← hj]
    have hj2 := (List.getElem?_eq_some_iff.1 hj).1
    rw [bv_length, List.length_take] at hj2
    simp [bv, List.getElem?_take, (by omega : j < k)]
theorem Reads.byte {w : World} {ao : Option Addr} {n c : Nat} {l : List UInt8} (h : Reads w (.slice ao n c) (bv l)) {k : Nat} (hk : k < n) : ∃ a x, ao = some a ∧ l[k]? = some x ∧ w.cell? (a.add k) = some (.int .u8 ((x : UInt8).toNat : Int)) := by
  obtain ⟨ao', c', e, h0, h1, h2⟩ := h
  simp only [Value.slice.injEq, bv_length] at e h0
  obtain ⟨rfl, rfl, rfl⟩ := e
  have hx : l[k]? = some l[k] := List.getElem?_eq_getElem hk
  cases ao with
  | none => have := (h1 rfl).1; have : l = [] := by simpa [bv] using this
            subst this; simp at hk
  | some a => exact ⟨a, l[k], rfl, hx, h2 a rfl k _ (by simp [bv, hx])⟩
theorem owns_grown {w w' : World} {base e size : Nat} {v : Value} {n : Nat} {xs : List Value} {row : Option Nat} (h : w.ownsRow base e size v n xs) (hg : w.grownBy w' row) (hne : ∀ g, v.ownBlock = some g → row ≠ some g) : w'.ownsRow base e size v n xs := by
  refine ⟨h.1, h.2.imp id ?_⟩
  rintro ⟨g, cap, cur, h1, h2, h3, h4⟩
  refine ⟨g, cap, cur, h1, h2, ?_, h4⟩
  have hv : v.ownBlock = some g := by rw [h1]; rfl
  rw [hg.block g (h.lt g hv).2 (fun e => hne g hv e.symm)]
  exact h3
theorem owns_apart {w : World} {base base' e e' size size' : Nat} {v v' : Value} {n n' : Nat} {xs xs' : List Value} (h : w.ownsRow base e size v n xs) (k : w.ownsRow base' e' size' v' n' xs') (hee : e ≠ e') : ∀ g, v.ownBlock = some g → v'.ownBlock ≠ some g := by
  intro g hv hv'
  rcases h.2 with ⟨rfl, _⟩ | ⟨g1, cap, cur, h1, h2, h3, h4⟩
  · cases hv
  rcases k.2 with ⟨rfl, _⟩ | ⟨g2, cap', cur', k1, k2, k3, k4⟩
  · cases hv'
  have e1 : g1 = g := by rw [h1] at hv; exact Option.some.inj hv
  have e2 : g2 = g := by rw [k1] at hv'; exact Option.some.inj hv'
  subst e1
  subst e2
  rw [h3] at k3
  simp only [Option.some.injEq, Obj.cells.injEq] at k3
  exact hee k3.2.1
theorem owns_below {w w' : World} {base B e size : Nat} {v : Value} {n : Nat} {xs : List Value} (h : w.ownsRow base e size v n xs) (hb : Below B w w') (hB : w.heap.size ≤ B) : w'.ownsRow base e size v n xs := by
  refine ⟨h.1, h.2.imp id ?_⟩
  rintro ⟨g, cap, cur, h1, h2, h3, h4⟩
  refine ⟨g, cap, cur, h1, h2, ?_, h4⟩
  rw [hb.block g (by have := (h.lt g (by rw [h1]; rfl)).2; omega)]
  exact h3
end Go.Proofs.YthcdkggkoanjpaaGreatDoor

/- The reference's U32 and Get. Numbers and types by name. -/
namespace Go.Proofs.YthcdkggkoanjpaaGreatDoor
open Go.RowKit Go.Lib
theorem bs_lit (w : World) (base : Nat) (l : List UInt8) (n : Nat) (hn : n = l.length) (hb : base ≤ w.heap.size) (hm : n ≤ maxLen) : Bs (w.alloc (.cells (bv l).toArray 5)) base (.slice (some ⟨w.heap.size, 0, none⟩) n n) n l := by
  subst hn
  refine ⟨rfl, by rw [bv_length, Nat.mul_one], .inr ⟨w.heap.size, l.length, (bv l).toArray, rfl, hb, heap_alloc_new w _, Nat.le_refl _, hm, by simp [bv], ?_⟩⟩
  rw [Nat.mul_one, ← bv_length l]
  simp
end Go.Proofs.YthcdkggkoanjpaaGreatDoor

/- Regions that draw their order and hold calls: one walk, whatever is kept of a world. Numbers and types by name. -/
namespace Go.Proofs.YthcdkggkoanjpaaGreatDoor
open Go.RowKit Go.Lib
section
variable {P : Program} {ops : Array Oper} {md : Region.Mode}
def wpMvg (G : World → World → Prop) (P : Program) (md : Region.Mode) (ops : Array Oper) (Q : Act → World → Prop) : Nat → Array Bool → Act → World → Prop
  | 0, listed, a, w => Region.ready md ops listed = [] ∧ Q a w
  | fuel + 1, listed, a, w =>
    (Region.ready md ops listed = [] → Q a w) ∧
    ∀ i ∈ Region.ready md ops listed, mvOp P ops i (fun a' w' => G w w' ∧ wpMvg G P md ops Q fuel (listed.setIfInBounds i true) a' w') a w
theorem wpAny_of_mvg {G : World → World → Prop} {Q : Act → World → Prop} {Q' : Exit → Act → World → Prop} (hQ : ∀ a w, Q a w → Q' .normal a w) : ∀ (fuel : Nat) (listed : Array Bool) (a : Act) (w : World),
    wpMvg G P md ops Q fuel listed a w → wpAny P md ops Q' fuel listed a w
  | 0, _, _, _, h => ⟨h.1, hQ _ _ h.2⟩
  | fuel + 1, _, _, _, h => ⟨fun h0 => hQ _ _ (h.1 h0), fun i hi => wpOp_mono (fun a' w' h' => wpAny_of_mvg hQ fuel _ a' w' h'.2) (wpOp_of_mvOp (h.2 i hi))⟩
def Upg (G : World → World → Prop) (P : Program) (ops : Array Oper) (w : World) (o : Oper) (v : Value) (a : Act) : Prop := ∀ w', G w w' → YieldsAt P ops w' o v a
theorem mvOp_putg {G : World → World → Prop} (g1 : ∀ {a b c}, G a b → G b c → G a c) {j : Nat} {oi oj : Oper} {v : Value} {w : World} (hj : ops[j]? = some oj) (hap : oi.apart ops oj = true)
    (hsi : ∀ cs b, oi.op ≠ .select cs b) (hsj : ∀ cs b, oj.op ≠ .select cs b) {K : Act → World → Prop} {a : Act}
    (hy : Upg G P ops w oi v a) (h : mvOp P ops j (fun a' w' => G w w' ∧ K a' w') (a.put oi.dst v) w) :
    mvOp P ops j (fun a' w' => G w w' ∧ (Upg G P ops w' oi v a' ∧ K (a'.put oi.dst v) w')) a w := by
  obtain ⟨h1, h2, h3⟩ := Oper.apart_spec hap
  have keep : ∀ (w' : World) (u : Value), G w w' → Upg G P ops w' oi v (a.put oj.dst u) := fun w' u hg w'' hg' =>
    (hy w'' (g1 hg hg')).of_same (execOp_put oi hsi a oj.dst u h3) (wanted_put oi a oj.dst u h3)
  unfold mvOp mvRun at *
  simp only [hj] at *
  rw [wanted_put oj a oi.dst v h1] at h
  split
  · rename_i hw
    simp only [hw, if_true] at h
    rw [execOp_put oj hsj a oi.dst v h1] at h
    generalize (execOp a.eval oj).run P w = r at *
    cases r with
    | ok n w' =>
      cases n <;> simp only [mvUpon] at h ⊢
      case value u => exact ⟨h.1, keep _ u h.1, by rw [← Act.put_comm a v u h2]; exact h.2⟩
      case skip => exact ⟨h.1, keep _ _ h.1, by rw [← Act.put_comm a v undef h2]; exact h.2⟩
      case enter f args => exact h.mono fun e w'' ⟨u, he, hg, hk⟩ => ⟨u, he, hg, keep _ u hg, by rw [← Act.put_comm a v u h2]; exact hk⟩
    | halt x w' => simp only [mvUpon] at h
  · rename_i hw
    simp only [hw] at h
    exact ⟨h.1, keep _ _ h.1, by rw [← Act.put_comm a v undef h2]; exact h.2⟩
theorem wpMvg_first {G : World → World → Prop} (g0 : ∀ w, G w w) (g1 : ∀ {a b c}, G a b → G b c → G a c) {Q : Act → World → Prop} {i : Nat} {oi : Oper} {v : Value} (hi : ops[i]? = some oi) (hsel : ∀ (j : Nat) (o : Oper) cs b, ops[j]? = some o → o.op ≠ .select cs b) :
    ∀ (fuel : Nat) (listed : Array Bool) (a : Act) (w : World),
      (∀ j oj, ops[j]? = some oj → j ≠ i → listed.getD j true = false → (∀ e ∈ oj.after, Region.binds md e = true → e.on ≠ i) → oi.apart ops oj = true) →
      i ∈ Region.ready md ops listed → Upg G P ops w oi v a →
      wpMvg G P md ops Q fuel (listed.setIfInBounds i true) (a.put oi.dst v) w → wpMvg G P md ops Q (fuel + 1) listed a w := by
  intro fuel
  induction fuel with
  | zero =>
    intro listed a w _ hr hy H
    refine ⟨fun h => (by rw [h] at hr; cases hr), fun j hj => ?_⟩
    by_cases hji : j = i
    · subst hji; exact YieldsAt.mvOp hi (hy w (g0 w)) ⟨g0 w, H⟩
    · have := ready_mono hj hji
      rw [H.1] at this
      cases this
  | succ fuel ih =>
    intro listed a w hfree hr hy H
    refine ⟨fun h => (by rw [h] at hr; cases hr), fun j hj => ?_⟩
    by_cases hji : j = i
    · subst hji; exact YieldsAt.mvOp hi (hy w (g0 w)) ⟨g0 w, H⟩
    · have h1 := H.2 j (ready_mono hj hji)
      obtain ⟨hjun, oj, hoj, hall⟩ := mem_ready.1 hj
      have hnot : ∀ e ∈ oj.after, Region.binds md e = true → e.on ≠ i := fun e he hb heq => by
        have h1 := hall e he hb
        have h0 := (mem_ready.1 hr).1
        rw [heq] at h1
        rcases Nat.lt_or_ge i listed.size with h' | h'
        · simp [h'] at h0 h1; rw [h0] at h1; cases h1
        · simp [Array.getElem?_eq_none h'] at h1
      have h2 := mvOp_putg (G := G) g1 hoj (hfree j oj hoj hji hjun hnot) (fun cs b => hsel i oi cs b hi) (fun cs b => hsel j oj cs b hoj) hy h1
      have hfree' : ∀ k ok, ops[k]? = some ok → k ≠ i → (listed.setIfInBounds j true).getD k true = false →
          (∀ e ∈ ok.after, Region.binds md e = true → e.on ≠ i) → oi.apart ops ok = true := fun k ok hk hki hun hno => by
        refine hfree k ok hk hki ?_ hno
        by_cases hjk : j = k
        · subst hjk; exact hjun
        · rw [getD_set_ne true hjk] at hun; exact hun
      refine mvOp_mono (fun a' w' h3 => ⟨h3.1, ih (listed.setIfInBounds j true) a' w' hfree' (ready_mono hr (Ne.symm hji)) h3.2.1 ?_⟩) h2
      rw [Array.setIfInBounds_comm _ _ hji]
      exact h3.2.2
def wpLing (G : World → World → Prop) (P : Program) (ops : Array Oper) (Q : Act → World → Prop) : List (Nat × Bool × Oper) → Act → World → Prop
  | [], a, w => Q a w
  | (_, true, o) :: r, a, w => ∃ v, Upg G P ops w o v a ∧ wpLing G P ops Q r (a.put o.dst v) w
  | (_, false, o) :: r, a, w => mvRun P ops o (fun a' w' => G w w' ∧ wpLing G P ops Q r a' w') a w
theorem wpMvg_of_lin {G : World → World → Prop} (g0 : ∀ w, G w w) (g1 : ∀ {a b c}, G a b → G b c → G a c) {Q : Act → World → Prop} (hs : Region.noSelect ops = true) : ∀ (l : List (Nat × Bool × Oper)) (listed : Array Bool) (a : Act) (w : World), (∀ x ∈ l, ops[x.1]? = some x.2.2) →
    mvB md ops l listed = true → wpLing G P ops Q l a w → wpMvg G P md ops Q l.length listed a w
  | [], _, _, _, _, hB, h => ⟨by simpa [mvB] using hB, h⟩
  | (k, true, o) :: r, listed, a, w, hat, hB, h => by
    simp only [mvB, Bool.and_eq_true] at hB
    obtain ⟨v, hy, hK⟩ := h
    have h0 : ops[k]? = some o := hat (k, true, o) (List.mem_cons_self ..)
    exact wpMvg_first (G := G) g0 g1 h0 (Region.noSelect_spec hs) r.length listed a w (Region.free_spec h0 hB.1.2) (by simpa using hB.1.1) hy
      (wpMvg_of_lin (G := G) g0 g1 hs r _ _ w (fun x hx => hat x (by simp [hx])) hB.2 hK)
  | (k, false, o) :: r, listed, a, w, hat, hB, h => by
    simp only [mvB, Bool.and_eq_true, decide_eq_true_eq] at hB
    refine ⟨fun h1 => (by rw [hB.1] at h1; cases h1), fun i hi => ?_⟩
    rw [hB.1] at hi
    obtain rfl : i = k := by simpa using hi
    have h0 : ops[i]? = some o := hat (i, false, o) (List.mem_cons_self ..)
    have hm : mvOp P ops i (fun a' w' => G w w' ∧ wpLing G P ops Q r a' w') a w := by unfold mvOp; simp only [h0]; exact h
    exact mvOp_mono (fun a' w' h' => ⟨h'.1, wpMvg_of_lin (G := G) g0 g1 hs r _ a' w' (fun x hx => hat x (by simp [hx])) hB.2 h'.2⟩) hm
theorem wp_region_mvg (G : World → World → Prop) (g0 : ∀ w, G w w) (g1 : ∀ {a b c}, G a b → G b c → G a c) {id : Nat} {Q : Exit → Act → World → Prop} {a : Act} {w : World} {l : List Oper} (segs : List (Nat × Nat × Bool)) (hm : P.follows .mixedOrders = true) (hB : mvOk l.toArray (mvAll segs l) = true)
    (h : wpLing G P l.toArray (fun a' w' => Q .normal a' w') (mvAll segs l) a w.drew) : (Code.region id l.toArray true).wp P Q a w := by
  simp only [mvOk, Bool.and_eq_true, beq_iff_eq] at hB
  refine wp_region_any hm (wpAny_of_mvg (G := G) (Q := fun a' w' => Q .normal a' w') (fun _ _ h => h) _ _ _ _ ?_)
  have := wpMvg_of_lin (G := G) g0 g1 (md := .any) hB.1.1 (mvAll segs l) (Array.replicate l.toArray.size false) a w.drew (mvAll_at l segs) hB.2 h
  rw [hB.1.2] at this
  exact this
theorem wpLing_nil {G : World → World → Prop} {Q : Act → World → Prop} {a : Act} {w : World} (h : Q a w) : wpLing G P ops Q [] a w := h
theorem wpLing_still {G : World → World → Prop} {Q : Act → World → Prop} {k : Nat} {o : Oper} {r : List (Nat × Bool × Oper)} {a : Act} {w : World} (v : Value) (hv : ∀ w', G w w' → ∀ K : Value → Prop, K v → mvVal P ops o a w' K)
    (h : ∀ K : Act → Prop, (∀ a, wpLing G P ops Q r a w → K a) → K (a.put o.dst v)) : wpLing G P ops Q ((k, true, o) :: r) a w := by
  refine ⟨v, fun w' hg => ?_, h _ fun _ h => h⟩
  have := hv w' hg (fun u => u = v) rfl
  unfold mvVal at this
  unfold YieldsAt
  by_cases hw : Region.wanted o (yielded ops a.tmps) = true
  · left
    rw [if_pos hw] at this
    refine ⟨hw, ?_⟩
    split at this
    · next heq => obtain ⟨rfl, rfl⟩ := this; exact .inl heq
    · next heq => obtain ⟨rfl, rfl⟩ := this; exact .inr (.inl ⟨heq, rfl⟩)
    · next heq => obtain ⟨rfl, u, hc, rfl⟩ := this; exact .inr (.inr ⟨_, _, heq, hc⟩)
    · exact this.elim
  · right
    rw [if_neg hw] at this
    exact ⟨by simpa using hw, this.symm⟩
theorem wpLing_call {G : World → World → Prop} {Q : Act → World → Prop} {k : Nat} {o : Oper} {r : List (Nat × Bool × Oper)} {a : Act} {w : World}
    (h : ∀ K : Act → World → Prop, (∀ a w', G w w' → wpLing G P ops Q r a w' → K a w') → mvRun P ops o K a w) : wpLing G P ops Q ((k, false, o) :: r) a w :=
  h _ fun _ _ hg hk => ⟨hg, hk⟩
end
end Go.Proofs.YthcdkggkoanjpaaGreatDoor

namespace Go.Proofs.YthcdkggkoanjpaaGreatDoor
open Go.RowKit Go.Lib Go.Sort
def putP (x : Prm) : List Prm → List Prm
  | [] => [x]
  | y :: l => if kOf y < kOf x then y :: putP x l else if kOf y = kOf x then x :: l else x :: y :: l
theorem put_here {L : List Prm} {x y : Prm} {k : Nat} (h1 : ∀ j, j < k → ∀ z, L[j]? = some z → kOf z < kOf x) (hy : L[k]? = some y) (he : kOf y = kOf x) : putP x L = L.set k x := by
  induction L generalizing k with
  | nil => cases hy
  | cons a l ih =>
    cases k with
    | zero =>
      cases hy
      unfold putP
      rw [if_neg (by rw [he]; exact List.lt_irrefl _), if_pos he]
      rfl
    | succ k =>
      have h0 := h1 0 (by omega) a rfl
      unfold putP
      rw [if_pos h0, ih (k := k) (fun j hj z hz => h1 (j + 1) (by omega) z (by simpa using hz)) (by simpa using hy)]
      rfl
theorem put_at {L : List Prm} {x : Prm} {k : Nat} (hk : k ≤ L.length) (h1 : ∀ j, j < k → ∀ z, L[j]? = some z → kOf z < kOf x) (h2 : ∀ y, L[k]? = some y → ¬ kOf y < kOf x ∧ kOf y ≠ kOf x) : putP x L = L.take k ++ x :: L.drop k := by
  induction L generalizing k with
  | nil =>
    have : k = 0 := by simpa using hk
    subst this
    rfl
  | cons a l ih =>
    cases k with
    | zero =>
      have h0 := h2 a rfl
      unfold putP
      rw [if_neg h0.1, if_neg h0.2]
      rfl
    | succ k =>
      have h0 := h1 0 (by omega) a rfl
      unfold putP
      rw [if_pos h0, ih (k := k) (by simpa using hk) (fun j hj z hz => h1 (j + 1) (by omega) z (by simpa using hz)) (fun y hy => h2 y (by simpa using hy))]
      rfl
def movedP {α : Type} (b : α) (fs : List α) (p : Nat) : List α := (fs ++ [b]).take (p + 1) ++ fs.drop p
theorem movedP_length {α : Type} {b : α} (fs : List α) {p : Nat} (h : p ≤ fs.length) : (movedP b fs p).length = fs.length + 1 := by
  simp only [movedP, List.length_append, List.length_take, List.length_drop, List.length_cons, List.length_nil]; omega
theorem movedP_start {α : Type} {b : α} (fs : List α) : movedP b fs fs.length = fs ++ [b] := by
  unfold movedP
  rw [List.take_of_length_le (by simp), List.drop_length, List.append_nil]
theorem movedP_below {α : Type} {b : α} {fs : List α} {p j : Nat} (hp : p ≤ fs.length) (hj : j < p) : (movedP b fs p)[j]? = fs[j]? := by
  unfold movedP
  rw [List.getElem?_append_left (by simp; omega), List.getElem?_take, if_pos (by omega), List.getElem?_append_left (by omega)]
theorem movedP_step {α : Type} {b : α} {fs : List α} {p : Nat} {y : α} (hp : p + 1 ≤ fs.length) (hy : fs[p]? = some y) : (movedP b fs (p + 1)).set (p + 1) y = movedP b fs p := by
  unfold movedP
  have hd : fs.drop p = y :: fs.drop (p + 1) := by
    rw [← List.getElem_cons_drop (h := by omega)]
    congr 1
    have := List.getElem?_eq_getElem (l := fs) (i := p) (by omega)
    rw [hy] at this
    exact (Option.some.inj this).symm
  rw [hd]
  apply List.ext_getElem?
  intro i
  rw [List.getElem?_set]
  by_cases h1 : p + 1 = i
  · subst h1
    rw [if_pos rfl, if_pos (by simp; omega), List.getElem?_append_right (by simp; omega)]
    simp only [List.length_take, List.length_append, List.length_cons, List.length_nil]
    rw [show p + 1 - min (p + 1) (fs.length + (0 + 1)) = 0 by omega]
    rfl
  · rw [if_neg h1]
    by_cases h2 : i < p + 1
    · rw [List.getElem?_append_left (by simp; omega), List.getElem?_append_left (by simp; omega), List.getElem?_take, List.getElem?_take, if_pos (by omega), if_pos (by omega)]
    · rw [List.getElem?_append_right (by simp; omega), List.getElem?_append_right (by simp; omega)]
      simp only [List.length_take, List.length_append, List.length_cons, List.length_nil]
      rw [show i - min (p + 1) (fs.length + (0 + 1)) = (i - min (p + 1 + 1) (fs.length + (0 + 1))) + 1 by omega]
      rw [List.getElem?_cons_succ]
theorem movedP_end {α : Type} {b : α} {fs : List α} {p : Nat} (x : α) (hp : p ≤ fs.length) : (movedP b fs p).set p x = fs.take p ++ x :: fs.drop p := by
  unfold movedP
  apply List.ext_getElem?
  intro i
  rw [List.getElem?_set]
  by_cases h1 : p = i
  · subst h1
    rw [if_pos rfl, if_pos (by simp; omega), List.getElem?_append_right (by simp; omega)]
    simp [Nat.min_eq_left hp]
  · rw [if_neg h1]
    by_cases h2 : i < p
    · rw [List.getElem?_append_left (by simp; omega), List.getElem?_append_left (by simp; omega), List.getElem?_take, List.getElem?_take, if_pos (by omega), if_pos (by omega), List.getElem?_append_left (by omega)]
    · rw [List.getElem?_append_right (by simp; omega), List.getElem?_append_right (by simp; omega)]
      simp only [List.length_take, List.length_append, List.length_cons, List.length_nil]
      rw [show i - min p fs.length = (i - min (p + 1) (fs.length + (0 + 1))) + 1 by omega]
      rw [List.getElem?_cons_succ]
theorem pvs_set {L : List Prm} {k : Nat} (y : Prm) (hk : k < L.length) : pvs (L.set k y) = ((pvs L).set (k * 2) (.string y.key)).set (k * 2 + 1) (.string y.val) := by
  induction L generalizing k with
  | nil => simp at hk
  | cons a l ih =>
    have e : ∀ (p : Prm) (l : List Prm), pvs (p :: l) = .string p.key :: .string p.val :: pvs l := fun p l => by simp [pvs, pv]
    cases k with
    | zero => simp [e]
    | succ k =>
      rw [List.set_cons_succ, e, e, ih (by simpa using hk), show (k + 1) * 2 = k * 2 + 1 + 1 by omega]
      simp
theorem own_set {w : World} {base e size g n c : Nat} {xs : List Value} (h : w.ownsRow base e size (.slice (some ⟨g, 0, none⟩) n c) n xs) (j : Nat) (v : Value) :
    (w.setCell ⟨g, j, none⟩ v).ownsRow base e size (.slice (some ⟨g, 0, none⟩) n c) n (xs.set j v) := by
  obtain ⟨h1, h2 | ⟨g', cap, cur, e, hb, hg, hnc, hcm, hcs, ht⟩⟩ := h
  · exact absurd h2.1 (by simp)
  · simp only [Value.slice.injEq, Option.some.injEq, Addr.mk.injEq, and_true] at e
    obtain ⟨rfl, _, rfl⟩ := e
    refine ⟨by rw [List.length_set]; omega, .inr ⟨g, c, cur.setIfInBounds j v, rfl, hb, heap_set hg _ _, hnc, hcm, by simpa using hcs, ?_⟩⟩
    rw [← ht]
    simp [List.take_set]
end Go.Proofs.YthcdkggkoanjpaaGreatDoor
