/- The reference's put of a pair: the walk. Numbers and types by name. -/
import Derived.Test.YthcdkggkoanjpaaGreatDoorFrp
import Derived.Sort.Walk0
import Derived.Test.YthcdkggkoanjpaaGreatDoorMov
import Derived.Test.YthcdkggkoanjpaaGreatDoorCop
import Derived.StillTailTactics
namespace Go.Proofs.YthcdkggkoanjpaaGreatDoor
open Go.RowKit Go.Lib Go.Sort
def findP (L : List Prm) (k : ByteArray) : ByteArray × Bool := match L.find? (fun o => decide (o.key = k)) with
  | none => (⟨#[]⟩, false)
  | some o => (o.val, true)
set_option maxHeartbeats 1000000 in
theorem right_pairs (v : Value) (n : Nat) (L : List Prm) (w : World) (hr : Prr w v n L) :
    Calls Tryz.prog 117 #[v] w fun e w' => ∃ q, e = .returned (.bool (decide (Rise L))) ∧ w' = w.drewN q := by
  obtain ⟨ao, c, rfl⟩ := hr.shape
  have HR := Lib.hid hr
  have hm := hr.2.1
  unfold maxLen at hm
  clear hr
  go_enter Tryz.func117, Tryz.ntmps117
  go_wp2_with fail
  go_loopw [3] (fun i wr => ∃ m q : Nat, i = .int .i64 m ∧ 1 ≤ m ∧ (m = 1 ∨ m ≤ n) ∧ Hid (∀ j a b, j + 1 < m → L[j]? = some a → L[j + 1]? = some b → kOf a < kOf b) ∧ wr = w.drewN q)
    (fun i _ => n + 1 - (RowKit.intOf i).toNat)
  case atStart => exact ⟨1, 0, rfl, Nat.le_refl _, .inl rfl, Lib.hid (fun j a b h => by omega), rfl⟩
  case round =>
    obtain ⟨m, q, rfl, hm1, hk, hs, hw⟩ := hrel
    by_cases hlt : m < n
    · have h3 : (m : Int) < (n : Int) := by omega
      obtain ⟨k, hkm⟩ : ∃ k, m = k + 1 := ⟨m - 1, by omega⟩
      have h4 : (k : Int) < (n : Int) := by omega
      have h5 : k < n := by omega
      have u1 : IntKind.i64.wrap ((m : Int) - 1) = (k : Int) := by rw [IntKind.wrap_i64]; omega
      have HR' : Prr wr (.slice ao n c) n L := by rw [hw]; exact HR.out
      obtain ⟨a, o, rfl, ho, c0, _, _, _⟩ := HR'.at hlt
      obtain ⟨a', o', e, ho', d0, _, _, _⟩ := HR'.at (k := k) (by omega)
      cases e
      rw [hkm] at ho
      have HO := Lib.hid (And.intro ho (And.intro ho' (And.intro hw hkm)))
      clear ho ho' hw HR' hkm
      by_cases hb : (Op.bytesLess o.key.toList o'.key.toList || o.key.toList == o'.key.toList) = true
      · have HN : Hid (¬ Rise L) := Lib.hid (fun hR => by
          have h1 := rise_next hR HO.out.2.1 HO.out.1
          unfold kOf at h1
          rw [Bool.or_eq_true, bytesLess_eq, decide_eq_true_eq, beq_iff_eq] at hb
          rcases hb with h2 | h2
          · exact List.lt_irrefl _ (List.lt_trans h1 h2)
          · rw [h2] at h1; exact List.lt_irrefl _ h1)
        go_wp2_with fail
        go_quiet (fail)
        go_wp2
        go_ret
        exact ⟨q + nq, by rw [decide_eq_false HN.out]; rfl, by rw [HO.out.2.2.1, World.drewN_drewN]⟩
      · have HN : Hid (kOf o' < kOf o) := Lib.hid (by
          unfold kOf
          rw [Bool.or_eq_true, bytesLess_eq, decide_eq_true_eq, beq_iff_eq] at hb
          by_cases h1 : o'.key.toList < o.key.toList
          · exact h1
          · refine absurd ?_ hb
            by_cases h2 : o.key.toList < o'.key.toList
            · exact .inl h2
            · exact .inr (List.le_antisymm (List.not_lt.1 h1) (List.not_lt.1 h2)))
        rw [Bool.not_eq_true] at hb
        go_wp2_with fail
        go_quiet (fail)
        go_wp2
        refine ⟨⟨m + 1, q + nq, by go_num, by omega, .inr (by omega), Lib.hid (fun j a b hj h1 h2 => ?_), by rw [HO.out.2.2.1, World.drewN_drewN]⟩, by simp [RowKit.intOf]; omega⟩
        have hkm := HO.out.2.2.2
        by_cases hjk : j + 1 < m
        · exact hs.out j a b hjk h1 h2
        · obtain rfl : j = k := by omega
          rw [HO.out.2.1] at h1
          rw [HO.out.1] at h2
          cases h1; cases h2
          exact HN.out
    · have h3 : ¬ (m : Int) < (n : Int) := by omega
      have HW := Lib.hid hw
      have HN : Hid (Rise L) := Lib.hid (rise_steps fun j a b h1 h2 => hs.out j a b (by
        have := (List.getElem?_eq_some_iff.1 h2).1
        have := HR.out.1
        omega) h1 h2)
      clear hw
      go_wp2_with fail
      go_ret
      exact ⟨by rw [decide_eq_true HN.out]; rfl, q, HW.out⟩
end Go.Proofs.YthcdkggkoanjpaaGreatDoor
namespace Go.Proofs.YthcdkggkoanjpaaGreatDoor
open Go.RowKit Go.Lib
section
variable {P : Program} {ops : Array Oper} {md : Region.Mode}
def wpMvg (G : World → World → Prop) (P : Program) (md : Region.Mode) (ops : Array Oper) (Q : Act → World → Prop) : Nat → Array Bool → Act → World → Prop
  | 0, listed, a, w => Region.ready md ops listed = [] ∧ Q a w
  | fuel + 1, listed, a, w =>
    (Region.ready md ops listed = [] → Q a w) ∧
    ∀ i ∈ Region.ready md ops listed, mvOp P ops i (fun a' w' => G w w' ∧ wpMvg G P md ops Q fuel (listed.setIfInBounds i true) a' w') a w
theorem wpAny_of_mvg {G : World → World → Prop} {Q : Act → World → Prop} {Q' : Exit → Act → World → Prop} (hQ : ∀ a w, Q a w → Q' .normal a w) : ∀ (fuel : Nat) (listed : Array Bool) (a : Act) (w : World),
    wpMvg G P md ops Q fuel listed a w → wpAny P md ops Q' fuel listed a w
  | 0, _, _, _, h => ⟨h.1, hQ _ _ h.2⟩
  | fuel + 1, _, _, _, h => ⟨fun h0 => hQ _ _ (h.1 h0), fun i hi => wpOp_mono (fun a' w' h' => wpAny_of_mvg hQ fuel _ a' w' h'.2) (wpOp_of_mvOp (h.2 i hi))⟩
def Upg (G : World → World → Prop) (P : Program) (ops : Array Oper) (w : World) (o : Oper) (v : Value) (a : Act) : Prop := ∀ w', G w w' → YieldsAt P ops w' o v a
theorem mvOp_putg {G : World → World → Prop} (g1 : ∀ {a b c}, G a b → G b c → G a c) {j : Nat} {oi oj : Oper} {v : Value} {w : World} (hj : ops[j]? = some oj) (hap : oi.apart ops oj = true)
    (hsi : ∀ cs b, oi.op ≠ .select cs b) (hsj : ∀ cs b, oj.op ≠ .select cs b) {K : Act → World → Prop} {a : Act}
    (hy : Upg G P ops w oi v a) (h : mvOp P ops j (fun a' w' => G w w' ∧ K a' w') (a.put oi.dst v) w) :
    mvOp P ops j (fun a' w' => G w w' ∧ (Upg G P ops w' oi v a' ∧ K (a'.put oi.dst v) w')) a w := by
  obtain ⟨h1, h2, h3⟩ := Oper.apart_spec hap
  have keep : ∀ (w' : World) (u : Value), G w w' → Upg G P ops w' oi v (a.put oj.dst u) := fun w' u hg w'' hg' =>
    (hy w'' (g1 hg hg')).of_same (execOp_put oi hsi a oj.dst u h3) (wanted_put oi a oj.dst u h3)
  unfold mvOp mvRun at *
  simp only [hj] at *
  rw [wanted_put oj a oi.dst v h1] at h
  split
  · rename_i hw
    simp only [hw, if_true] at h
    rw [execOp_put oj hsj a oi.dst v h1] at h
    generalize (execOp a.eval oj).run P w = r at *
    cases r with
    | ok n w' =>
      cases n <;> simp only [mvUpon] at h ⊢
      case value u => exact ⟨h.1, keep _ u h.1, by rw [← Act.put_comm a v u h2]; exact h.2⟩
      case skip => exact ⟨h.1, keep _ _ h.1, by rw [← Act.put_comm a v undef h2]; exact h.2⟩
      case enter f args => exact h.mono fun e w'' ⟨u, he, hg, hk⟩ => ⟨u, he, hg, keep _ u hg, by rw [← Act.put_comm a v u h2]; exact hk⟩
    | halt x w' => simp only [mvUpon] at h
  · rename_i hw
    simp only [hw] at h
    exact ⟨h.1, keep _ _ h.1, by rw [← Act.put_comm a v undef h2]; exact h.2⟩
theorem wpMvg_first {G : World → World → Prop} (g0 : ∀ w, G w w) (g1 : ∀ {a b c}, G a b → G b c → G a c) {Q : Act → World → Prop} {i : Nat} {oi : Oper} {v : Value} (hi : ops[i]? = some oi) (hsel : ∀ (j : Nat) (o : Oper) cs b, ops[j]? = some o → o.op ≠ .select cs b) :
    ∀ (fuel : Nat) (listed : Array Bool) (a : Act) (w : World),
      (∀ j oj, ops[j]? = some oj → j ≠ i → listed.getD j true = false → (∀ e ∈ oj.after, Region.binds md e = true → e.on ≠ i) → oi.apart ops oj = true) →
      i ∈ Region.ready md ops listed → Upg G P ops w oi v a →
      wpMvg G P md ops Q fuel (listed.setIfInBounds i true) (a.put oi.dst v) w → wpMvg G P md ops Q (fuel + 1) listed a w := by
  intro fuel
  induction fuel with
  | zero =>
    intro listed a w _ hr hy H
    refine ⟨fun h => (by rw [h] at hr; cases hr), fun j hj => ?_⟩
    by_cases hji : j = i
    · subst hji; exact YieldsAt.mvOp hi (hy w (g0 w)) ⟨g0 w, H⟩
    · have := ready_mono hj hji
      rw [H.1] at this
      cases this
  | succ fuel ih =>
    intro listed a w hfree hr hy H
    refine ⟨fun h => (by rw [h] at hr; cases hr), fun j hj => ?_⟩
    by_cases hji : j = i
    · subst hji; exact YieldsAt.mvOp hi (hy w (g0 w)) ⟨g0 w, H⟩
    · have h1 := H.2 j (ready_mono hj hji)
      obtain ⟨hjun, oj, hoj, hall⟩ := mem_ready.1 hj
      have hnot : ∀ e ∈ oj.after, Region.binds md e = true → e.on ≠ i := fun e he hb heq => by
        have h1 := hall e he hb
        have h0 := (mem_ready.1 hr).1
        rw [heq] at h1
        rcases Nat.lt_or_ge i listed.size with h' | h'
        · simp [h'] at h0 h1; rw [h0] at h1; cases h1
        · simp [Array.getElem?_eq_none h'] at h1
      have h2 := mvOp_putg (G := G) g1 hoj (hfree j oj hoj hji hjun hnot) (fun cs b => hsel i oi cs b hi) (fun cs b => hsel j oj cs b hoj) hy h1
      have hfree' : ∀ k ok, ops[k]? = some ok → k ≠ i → (listed.setIfInBounds j true).getD k true = false →
          (∀ e ∈ ok.after, Region.binds md e = true → e.on ≠ i) → oi.apart ops ok = true := fun k ok hk hki hun hno => by
        refine hfree k ok hk hki ?_ hno
        by_cases hjk : j = k
        · subst hjk; exact hjun
        · rw [getD_set_ne true hjk] at hun; exact hun
      refine mvOp_mono (fun a' w' h3 => ⟨h3.1, ih (listed.setIfInBounds j true) a' w' hfree' (ready_mono hr (Ne.symm hji)) h3.2.1 ?_⟩) h2
      rw [Array.setIfInBounds_comm _ _ hji]
      exact h3.2.2
def wpLing (G : World → World → Prop) (P : Program) (ops : Array Oper) (Q : Act → World → Prop) : List (Nat × Bool × Oper) → Act → World → Prop
  | [], a, w => Q a w
  | (_, true, o) :: r, a, w => ∃ v, Upg G P ops w o v a ∧ wpLing G P ops Q r (a.put o.dst v) w
  | (_, false, o) :: r, a, w => mvRun P ops o (fun a' w' => G w w' ∧ wpLing G P ops Q r a' w') a w
theorem wpMvg_of_lin {G : World → World → Prop} (g0 : ∀ w, G w w) (g1 : ∀ {a b c}, G a b → G b c → G a c) {Q : Act → World → Prop} (hs : Region.noSelect ops = true) : ∀ (l : List (Nat × Bool × Oper)) (listed : Array Bool) (a : Act) (w : World), (∀ x ∈ l, ops[x.1]? = some x.2.2) →
    mvB md ops l listed = true → wpLing G P ops Q l a w → wpMvg G P md ops Q l.length listed a w
  | [], _, _, _, _, hB, h => ⟨by simpa [mvB] using hB, h⟩
  | (k, true, o) :: r, listed, a, w, hat, hB, h => by
    simp only [mvB, Bool.and_eq_true] at hB
    obtain ⟨v, hy, hK⟩ := h
    have h0 : ops[k]? = some o := hat (k, true, o) (List.mem_cons_self ..)
    exact wpMvg_first (G := G) g0 g1 h0 (Region.noSelect_spec hs) r.length listed a w (Region.free_spec h0 hB.1.2) (by simpa using hB.1.1) hy
      (wpMvg_of_lin (G := G) g0 g1 hs r _ _ w (fun x hx => hat x (by simp [hx])) hB.2 hK)
  | (k, false, o) :: r, listed, a, w, hat, hB, h => by
    simp only [mvB, Bool.and_eq_true, decide_eq_true_eq] at hB
    refine ⟨fun h1 => (by rw [hB.1] at h1; cases h1), fun i hi => ?_⟩
    rw [hB.1] at hi
    obtain rfl : i = k := by simpa using hi
    have h0 : ops[i]? = some o := hat (i, false, o) (List.mem_cons_self ..)
    have hm : mvOp P ops i (fun a' w' => G w w' ∧ wpLing G P ops Q r a' w') a w := by unfold mvOp; simp only [h0]; exact h
    exact mvOp_mono (fun a' w' h' => ⟨h'.1, wpMvg_of_lin (G := G) g0 g1 hs r _ a' w' (fun x hx => hat x (by simp [hx])) hB.2 h'.2⟩) hm
theorem wp_region_mvg (G : World → World → Prop) (g0 : ∀ w, G w w) (g1 : ∀ {a b c}, G a b → G b c → G a c) {id : Nat} {Q : Exit → Act → World → Prop} {a : Act} {w : World} {l : List Oper} (segs : List (Nat × Nat × Bool)) (hm : P.follows .mixedOrders = true) (hB : mvOk l.toArray (mvAll segs l) = true)
    (h : wpLing G P l.toArray (fun a' w' => Q .normal a' w') (mvAll segs l) a w.drew) : (Code.region id l.toArray true).wp P Q a w := by
  simp only [mvOk, Bool.and_eq_true, beq_iff_eq] at hB
  refine wp_region_any hm (wpAny_of_mvg (G := G) (Q := fun a' w' => Q .normal a' w') (fun _ _ h => h) _ _ _ _ ?_)
  have := wpMvg_of_lin (G := G) g0 g1 (md := .any) hB.1.1 (mvAll segs l) (Array.replicate l.toArray.size false) a w.drew (mvAll_at l segs) hB.2 h
  rw [hB.1.2] at this
  exact this
theorem wpLing_nil {G : World → World → Prop} {Q : Act → World → Prop} {a : Act} {w : World} (h : Q a w) : wpLing G P ops Q [] a w := h
theorem wpLing_still {G : World → World → Prop} {Q : Act → World → Prop} {k : Nat} {o : Oper} {r : List (Nat × Bool × Oper)} {a : Act} {w : World} (v : Value) (hv : ∀ w', G w w' → ∀ K : Value → Prop, K v → mvVal P ops o a w' K)
    (h : ∀ K : Act → Prop, (∀ a, wpLing G P ops Q r a w → K a) → K (a.put o.dst v)) : wpLing G P ops Q ((k, true, o) :: r) a w := by
  refine ⟨v, fun w' hg => ?_, h _ fun _ h => h⟩
  have := hv w' hg (fun u => u = v) rfl
  unfold mvVal at this
  unfold YieldsAt
  by_cases hw : Region.wanted o (yielded ops a.tmps) = true
  · left
    rw [if_pos hw] at this
    refine ⟨hw, ?_⟩
    split at this
    · next heq => obtain ⟨rfl, rfl⟩ := this; exact .inl heq
    · next heq => obtain ⟨rfl, rfl⟩ := this; exact .inr (.inl ⟨heq, rfl⟩)
    · next heq => obtain ⟨rfl, u, hc, rfl⟩ := this; exact .inr (.inr ⟨_, _, heq, hc⟩)
    · exact this.elim
  · right
    rw [if_neg hw] at this
    exact ⟨by simpa using hw, this.symm⟩
theorem wpLing_call {G : World → World → Prop} {Q : Act → World → Prop} {k : Nat} {o : Oper} {r : List (Nat × Bool × Oper)} {a : Act} {w : World}
    (h : ∀ K : Act → World → Prop, (∀ a w', G w w' → wpLing G P ops Q r a w' → K a w') → mvRun P ops o K a w) : wpLing G P ops Q ((k, false, o) :: r) a w :=
  h _ fun _ _ hg hk => ⟨hg, hk⟩
end
end Go.Proofs.YthcdkggkoanjpaaGreatDoor
namespace Go.Proofs.YthcdkggkoanjpaaGreatDoor
open Go.RowKit Go.Lib Go.Sort
def putP (x : Prm) : List Prm → List Prm
  | [] => [x]
  | y :: l => if kOf y < kOf x then y :: putP x l else if kOf y = kOf x then x :: l else x :: y :: l
theorem put_here {L : List Prm} {x y : Prm} {k : Nat} (h1 : ∀ j, j < k → ∀ z, L[j]? = some z → kOf z < kOf x) (hy : L[k]? = some y) (he : kOf y = kOf x) : putP x L = L.set k x := by
  induction L generalizing k with
  | nil => cases hy
  | cons a l ih =>
    cases k with
    | zero =>
      cases hy
      unfold putP
      rw [if_neg (by rw [he]; exact List.lt_irrefl _), if_pos he]
      rfl
    | succ k =>
      have h0 := h1 0 (by omega) a rfl
      unfold putP
      rw [if_pos h0, ih (k := k) (fun j hj z hz => h1 (j + 1) (by omega) z (by simpa using hz)) (by simpa using hy)]
      rfl
theorem put_at {L : List Prm} {x : Prm} {k : Nat} (hk : k ≤ L.length) (h1 : ∀ j, j < k → ∀ z, L[j]? = some z → kOf z < kOf x) (h2 : ∀ y, L[k]? = some y → ¬ kOf y < kOf x ∧ kOf y ≠ kOf x) : putP x L = L.take k ++ x :: L.drop k := by
  induction L generalizing k with
  | nil =>
    have : k = 0 := by simpa using hk
    subst this
    rfl
  | cons a l ih =>
    cases k with
    | zero =>
      have h0 := h2 a rfl
      unfold putP
      rw [if_neg h0.1, if_neg h0.2]
      rfl
    | succ k =>
      have h0 := h1 0 (by omega) a rfl
      unfold putP
      rw [if_pos h0, ih (k := k) (by simpa using hk) (fun j hj z hz => h1 (j + 1) (by omega) z (by simpa using hz)) (fun y hy => h2 y (by simpa using hy))]
      rfl
def movedP {α : Type} (b : α) (fs : List α) (p : Nat) : List α := (fs ++ [b]).take (p + 1) ++ fs.drop p
theorem movedP_length {α : Type} {b : α} (fs : List α) {p : Nat} (h : p ≤ fs.length) : (movedP b fs p).length = fs.length + 1 := by
  simp only [movedP, List.length_append, List.length_take, List.length_drop, List.length_cons, List.length_nil]; omega
theorem movedP_start {α : Type} {b : α} (fs : List α) : movedP b fs fs.length = fs ++ [b] := by
  unfold movedP
  rw [List.take_of_length_le (by simp), List.drop_length, List.append_nil]
theorem movedP_below {α : Type} {b : α} {fs : List α} {p j : Nat} (hp : p ≤ fs.length) (hj : j < p) : (movedP b fs p)[j]? = fs[j]? := by
  unfold movedP
  rw [List.getElem?_append_left (by simp; omega), List.getElem?_take, if_pos (by omega), List.getElem?_append_left (by omega)]
theorem movedP_step {α : Type} {b : α} {fs : List α} {p : Nat} {y : α} (hp : p + 1 ≤ fs.length) (hy : fs[p]? = some y) : (movedP b fs (p + 1)).set (p + 1) y = movedP b fs p := by
  unfold movedP
  have hd : fs.drop p = y :: fs.drop (p + 1) := by
    rw [← List.getElem_cons_drop (h := by omega)]
    congr 1
    have := List.getElem?_eq_getElem (l := fs) (i := p) (by omega)
    rw [hy] at this
    exact (Option.some.inj this).symm
  rw [hd]
  apply List.ext_getElem?
  intro i
  rw [List.getElem?_set]
  by_cases h1 : p + 1 = i
  · subst h1
    rw [if_pos rfl, if_pos (by simp; omega), List.getElem?_append_right (by simp; omega)]
    simp only [List.length_take, List.length_append, List.length_cons, List.length_nil]
    rw [show p + 1 - min (p + 1) (fs.length + (0 + 1)) = 0 by omega]
    rfl
  · rw [if_neg h1]
    by_cases h2 : i < p + 1
    · rw [List.getElem?_append_left (by simp; omega), List.getElem?_append_left (by simp; omega), List.getElem?_take, List.getElem?_take, if_pos (by omega), if_pos (by omega)]
    · rw [List.getElem?_append_right (by simp; omega), List.getElem?_append_right (by simp; omega)]
      simp only [List.length_take, List.length_append, List.length_cons, List.length_nil]
      rw [show i - min (p + 1) (fs.length + (0 + 1)) = (i - min (p + 1 + 1) (fs.length + (0 + 1))) + 1 by omega]
      rw [List.getElem?_cons_succ]
theorem movedP_end {α : Type} {b : α} {fs : List α} {p : Nat} (x : α) (hp : p ≤ fs.length) : (movedP b fs p).set p x = fs.take p ++ x :: fs.drop p := by
  unfold movedP
  apply List.ext_getElem?
  intro i
  rw [List.getElem?_set]
  by_cases h1 : p = i
  · subst h1
    rw [if_pos rfl, if_pos (by simp; omega), List.getElem?_append_right (by simp; omega)]
    simp [Nat.min_eq_left hp]
  · rw [if_neg h1]
    by_cases h2 : i < p
    · rw [List.getElem?_append_left (by simp; omega), List.getElem?_append_left (by simp; omega), List.getElem?_take, List.getElem?_take, if_pos (by omega), if_pos (by omega), List.getElem?_append_left (by omega)]
    · rw [List.getElem?_append_right (by simp; omega), List.getElem?_append_right (by simp; omega)]
      simp only [List.length_take, List.length_append, List.length_cons, List.length_nil]
      rw [show i - min p fs.length = (i - min (p + 1) (fs.length + (0 + 1))) + 1 by omega]
      rw [List.getElem?_cons_succ]
theorem pvs_set {L : List Prm} {k : Nat} (y : Prm) (hk : k < L.length) : pvs (L.set k y) = ((pvs L).set (k * 2) (.string y.key)).set (k * 2 + 1) (.string y.val) := by
  induction L generalizing k with
  | nil => simp at hk
  | cons a l ih =>
    have e : ∀ (p : Prm) (l : List Prm), pvs (p :: l) = .string p.key :: .string p.val :: pvs l := fun p l => by simp [pvs, pv]
    cases k with
    | zero => simp [e]
    | succ k =>
      rw [List.set_cons_succ, e, e, ih (by simpa using hk), show (k + 1) * 2 = k * 2 + 1 + 1 by omega]
      simp
theorem own_set {w : World} {base e size g n c : Nat} {xs : List Value} (h : w.ownsRow base e size (.slice (some ⟨g, 0, none⟩) n c) n xs) (j : Nat) (v : Value) :
    (w.setCell ⟨g, j, none⟩ v).ownsRow base e size (.slice (some ⟨g, 0, none⟩) n c) n (xs.set j v) := by
  obtain ⟨h1, h2 | ⟨g', cap, cur, e, hb, hg, hnc, hcm, hcs, ht⟩⟩ := h
  · exact absurd h2.1 (by simp)
  · simp only [Value.slice.injEq, Option.some.injEq, Addr.mk.injEq, and_true] at e
    obtain ⟨rfl, _, rfl⟩ := e
    refine ⟨by rw [List.length_set]; omega, .inr ⟨g, c, cur.setIfInBounds j v, rfl, hb, heap_set hg _ _, hnc, hcm, by simpa using hcs, ?_⟩⟩
    rw [← ht]
    simp [List.take_set]
end Go.Proofs.YthcdkggkoanjpaaGreatDoor
namespace Go.Proofs.YthcdkggkoanjpaaGreatDoor
open Go.RowKit Go.Lib Go.Sort
theorem cells_of6 {w : World} {b : Nat} {cs : Array Value} {t : TypeId} (h : w.heap[b]? = some (.cells cs t (0, 0))) (j : Nat) (v : Value) (hj : cs[j]? = some v) : w.cell? ⟨b, j, none⟩ = some v := by
  simp only [World.cell?, h]
  simpa using hj
theorem row_cell2 {w : World} {base e : Nat} {ao : Option Addr} {n c : Nat} {xs : List Value} (h : w.ownsRow base e 2 (.slice ao n c) n xs) (hx : xs.length = n * 2) {j : Nat} {v : Value} (hj : xs[j]? = some v) :
    ∃ g, ao = some ⟨g, 0, none⟩ ∧ w.cell? ⟨g, j, none⟩ = some v ∧ w.frozen? ⟨g, j, none⟩ = false ∧ base ≤ g ∧ g < w.heap.size := by
  have hlt := (List.getElem?_eq_some_iff.1 hj).1
  rcases h.2 with ⟨hv, h0⟩ | ⟨g, cap, cur, hv, hb, hg, hc, _, hs, ht⟩
  · subst h0; simp at hx; rw [hx] at hlt; simp at hlt
  · simp only [Value.slice.injEq] at hv
    obtain ⟨rfl, _, rfl⟩ := hv
    refine ⟨g, rfl, ?_, by simp [World.frozen?, hg], hb, (Array.getElem?_eq_some_iff.1 hg).1⟩
    simp only [World.cell?, hg]
    rw [← ht, List.getElem?_take] at hj
    split at hj
    · simpa using hj
    · cases hj
theorem elemPair : Elem 48 90 (.agg #[.string ⟨#[]⟩, .string ⟨#[]⟩]) 2 32 := ⟨Tryz.underlying48, by kernel_rfl, by decide, by decide⟩
def blankP : Prm := ⟨⟨#[]⟩, ⟨#[]⟩⟩
theorem own_alloc {w : World} {base e size : Nat} {v : Value} {n : Nat} {xs : List Value} (h : w.ownsRow base e size v n xs) (o : Obj) : (w.alloc o).ownsRow base e size v n xs := h.alloc o
theorem own_drewN {w : World} {base e size : Nat} {v : Value} {n : Nat} {xs : List Value} (h : w.ownsRow base e size v n xs) (q : Nat) : (w.drewN q).ownsRow base e size v n xs := h
theorem put_grown {w1 W w6 : World} {bx base e n c c6 : Nat} {ao ao6 : Option Addr} {xs ys : List Value} (hown : w1.ownsRow base e 2 (.slice ao n c) n xs) (hsz : w1.heap.size ≤ W.heap.size) (hWb : ∀ k, k < w1.heap.size → W.heap[k]? = w1.heap[k]?) (hbx : bx < w1.heap.size)
    (hlt : ∀ g, (Value.slice ao n c).ownBlock = some g → g < bx) (hown6 : w6.ownsRow base e 2 (.slice ao6 (n + 1) c6) (n + 1) ys) (hg6 : W.grownBy w6 (Value.slice ao n c).ownBlock)
    (ho6 : (Value.slice ao6 (n + 1) c6).ownBlock = (Value.slice ao n c).ownBlock ∨ (Value.slice ao6 (n + 1) c6).ownBlock = some W.heap.size) : ∃ g6, ao6 = some ⟨g6, 0, none⟩ ∧ base ≤ g6 ∧ g6 ≠ bx ∧ w6.heap[bx]? = w1.heap[bx]? := by
  obtain ⟨g6, rfl⟩ : ∃ g6, ao6 = some ⟨g6, 0, none⟩ := by
    rcases hown6.2 with ⟨hv, h0⟩ | ⟨g, cap, cur, hv, _⟩
    · omega
    · simp only [Value.slice.injEq] at hv
      exact ⟨g, hv.1⟩
  refine ⟨g6, rfl, (hown6.lt g6 rfl).1, ?_, ?_⟩
  · rcases ho6 with h | h
    · have := hlt g6 (h.symm.trans rfl); omega
    · have : g6 = W.heap.size := by simpa [Value.ownBlock] using h
      omega
  · rw [hg6.block bx (by omega) (fun e => by have := hlt bx e.symm; omega)]
    exact hWb bx hbx
set_option maxRecDepth 100000 in
set_option maxHeartbeats 4000000 in
theorem ref_putP (base : Nat) (ao : Option Addr) (n c : Nat) (L : List Prm) (x : Prm) (w : World) (hown : w.ownsRow base 90 2 (.slice ao n c) n (pvs L)) (hn : n = L.length) (hb : base ≤ w.heap.size) (hl : n < 900000) :
    Calls Tryz.prog 57 #[.slice ao n c, .agg #[.string x.key, .string x.val]] w fun e w' => ∃ ao' m c', e = .returned (.slice ao' m c') ∧ m = (putP x L).length ∧ w'.ownsRow base 90 2 (.slice ao' m c') m (pvs (putP x L)) ∧ Below base w w' := by
  obtain ⟨xk, xv⟩ := x
  simp only []
  have hbox := heap_alloc_new w (.cells #[.string xk, .string xv] 90)
  have b0 := cells_of6 hbox 0 (.string xk) rfl
  have b1 := cells_of6 hbox 1 (.string xv) rfl
  have hB1 : Below base w (w.alloc (.cells #[.string xk, .string xv] 90)) := (Below.refl _ _).alloc hb _
  have e1 : (w.alloc (.cells #[.string xk, .string xv] 90)).heap.size = w.heap.size + 1 := by simp
  have hown1 := hown.alloc (.cells #[.string xk, .string xv] 90)
  have hlt := fun g (hg : (Value.slice ao n c).ownBlock = some g) => (hown.lt g hg).2
  go_enter Tryz.func57, Tryz.ntmps57
  go_wp2_with fail
  generalize w.alloc (.cells #[.string xk, .string xv] 90) = w1 at *
  have HO := Lib.hid (And.intro hown1 (And.intro hB1 (And.intro e1 (And.intro hlt (And.intro hbox (And.intro hb hn))))))
  have HXL : Hid ((pvs L).length = n * 2) := Lib.hid (by rw [pvs_length, hn])
  clear hown hown1 hB1 e1 hlt hbox hb hn
  go_loopw [5] (fun i wr => ∃ k q : Nat, k ≤ n ∧ i = .int .i64 k ∧ Hid (∀ j, j < k → ∀ z, L[j]? = some z → kOf z < kOf ⟨xk, xv⟩) ∧ wr = w1.drewN q)
    (fun i _ => n - (RowKit.intOf i).toNat)
  case atStart => exact ⟨0, 0, Nat.zero_le _, rfl, Lib.hid (fun j hj => by omega), rfl⟩
  case round =>
    obtain ⟨k, q, hk, rfl, hlow, rfl⟩ := hrel
    by_cases hless : ∃ y, L[k]? = some y ∧ kOf y < kOf ⟨xk, xv⟩
    · obtain ⟨y, hy, hlss⟩ := hless
      have h1 : k < n := by have := (List.getElem?_eq_some_iff.1 hy).1; have := HO.out.2.2.2.2.2.2; omega
      have h3 : decide ((k : Int) < (n : Int)) = true := by simp; omega
      have q1 := pvs_at hy 0 (by omega)
      rw [Nat.add_zero] at q1
      obtain ⟨g, rfl, k1, _⟩ := row_cell2 HO.out.1 HXL.out (q1.trans rfl)
      have hbl : Op.bytesLess y.key.toList xk.toList = true := by rw [bytesLess_eq]; simpa [kOf] using hlss
      have HX := Lib.hid (And.intro hy hlss)
      clear hy hlss q1
      go_wp2_with fail
      go_quiet (fail)
      go_wp2_with fail
      refine ⟨⟨k + 1, _, by omega, by simp, Lib.hid (fun j hj z hz => ?_), rfl⟩, by simp [RowKit.intOf]; omega⟩
      by_cases hjk : j < k
      · exact hlow.out j hjk z hz
      · obtain rfl : j = k := by omega
        rw [HX.out.1] at hz
        cases hz
        exact HX.out.2
    · by_cases heq : ∃ y, L[k]? = some y ∧ kOf y = kOf ⟨xk, xv⟩
      · obtain ⟨y, hy, he⟩ := heq
        have h1 : k < n := by have := (List.getElem?_eq_some_iff.1 hy).1; have := HO.out.2.2.2.2.2.2; omega
        have h3 : decide ((k : Int) < (n : Int)) = true := by simp; omega
        have h4 : (k : Int) < (n : Int) := by omega
        have q1 := pvs_at hy 0 (by omega)
        rw [Nat.add_zero] at q1
        have q2 := pvs_at hy 1 (by omega)
        obtain ⟨g, rfl, k1, f1, hbg, hgl⟩ := row_cell2 HO.out.1 HXL.out (q1.trans rfl)
        obtain ⟨_, e, k2, f2, _, _⟩ := row_cell2 HO.out.1 HXL.out (q2.trans rfl)
        cases e
        obtain ⟨yk, yv⟩ := y
        have he2 : yk.toList = xk.toList := he
        obtain rfl := text_inj' he2
        have hbl : Op.bytesLess yk.toList yk.toList = false := by rw [bytesLess_eq]; simp [List.lt_irrefl]
        have HX := Lib.hid (And.intro hy (And.intro hbg (put_here hlow.out hy he)))
        have hgb : g ≠ w.heap.size := by have := HO.out.2.2.2.1 g rfl; omega
        clear hy he he2 q1 q2 hless hbg
        go_wp2_with fail
        go_quiet (fail)
        go_wp2_with fail
        go_quiet (fail)
        go_wp2_with fail
        go_ret
        have hkl : k < L.length := (List.getElem?_eq_some_iff.1 HX.out.1).1
        refine ⟨some ⟨g, 0, none⟩, n, c, rfl, ?_, ?_, below_set (below_set (below_drewN HO.out.2.1 _) HX.out.2.1 _ _) HX.out.2.1 _ _⟩
        · rw [HX.out.2.2, List.length_set]; exact HO.out.2.2.2.2.2.2
        · rw [HX.out.2.2, pvs_set _ hkl]
          exact own_set (own_set (own_drewN HO.out.1 _) _ _) _ _
      · have HINS : Hid (putP ⟨xk, xv⟩ L = L.take k ++ ⟨xk, xv⟩ :: L.drop k) := Lib.hid (put_at (by have := HO.out.2.2.2.2.2.2; omega) hlow.out fun y hy => ⟨fun h => hless ⟨y, hy, h⟩, fun h => heq ⟨y, hy, h⟩⟩)
        have FL : Hid (n + 1 ≤ 1000000) := Lib.hid (by omega)
        by_cases h1 : k < n
        case' pos =>
          have h3 : decide ((k : Int) < (n : Int)) = true := by simp; omega
          obtain ⟨y, hy⟩ : ∃ y, L[k]? = some y := ⟨_, List.getElem?_eq_getElem (by have := HO.out.2.2.2.2.2.2; omega)⟩
          have q1 := pvs_at hy 0 (by omega)
          rw [Nat.add_zero] at q1
          obtain ⟨g, rfl, k1, _⟩ := row_cell2 HO.out.1 HXL.out (q1.trans rfl)
          have hbl : Op.bytesLess y.key.toList xk.toList = false := by rw [bytesLess_eq]; simpa [kOf] using fun h => hless ⟨y, hy, h⟩
          have hbe2 : ¬ y.key.toList = xk.toList := fun h => heq ⟨y, hy, h⟩
          have hbe : (y.key.toList == xk.toList) = false := by simpa using hbe2
          clear hy q1 hless heq
          go_wp2_with fail
          go_quiet (fail)
          go_wp2_with fail
          go_quiet (fail)
          clear k1 hbl hbe hbe2 h3 h1
        case' neg =>
          have h3 : decide ((k : Int) < (n : Int)) = false := by simp; omega
          clear hless heq
          go_wp2_with fail
          go_quiet (fail)
          go_wp2_with fail
          go_quiet (fail)
          clear h3 h1
        all_goals
          go_wp2_with (at_builtin; refine wpList_append_gen elemPair rfl (.tmp 42) (.tmp 44) rfl base _ n (pvs L) rfl (own_alloc (own_drewN HO.out.1 _) _) _ 1 (pv blankP) rfl (Cells.lit _ (pv blankP) 90 (0, 0) 2 1 rfl) (by intro u hu; simp only [pv, List.mem_cons, List.not_mem_nil, or_false] at hu; rcases hu with rfl | rfl <;> rfl) (n + 1) rfl FL (by decide) (by have := HO.out.2.1.size; have := HO.out.2.2.1; have := HO.out.2.2.2.2.2.1; simp; omega) ?_; intro ao6 c6 w6 hown6 hb6 hg6 ho6; have HPG := Lib.hid (And.intro (put_grown (bx := w.heap.size) HO.out.1 (by simp) (fun k hk => by simpa using Below.heap_alloc (w1.drewN _) _ k hk) (by have := HO.out.2.2.1; omega) HO.out.2.2.2.1 hown6 hg6 (by rcases ho6 with h | h; exact .inl h; exact .inr (by simpa using h))) (And.intro hown6 (((HO.out.2.1.trans (below_drewN (Below.refl _ _) _)).alloc (by have := HO.out.2.1.size; have := HO.out.2.2.1; have := HO.out.2.2.2.2.2.1; simp; omega) _).trans hb6))); clear hown6 hb6 hg6 ho6)
          obtain ⟨⟨g6, rfl, hbg, hgb, hbx6⟩, hown6, hb6⟩ := HPG.out
          rw [HO.out.2.2.2.2.1] at hbx6
          have HI : Hid (w6.ownsRow base 90 2 (.slice (some ⟨g6, 0, none⟩) (n + 1) c6) (n + 1) (pvs (movedP blankP L n)) ∧ w6.heap[w.heap.size]? = some (.cells #[.string xk, .string xv] 90 (0, 0)) ∧ Below base w w6) := Lib.hid ⟨by
            have e : movedP blankP L n = L ++ [blankP] := by have := HO.out.2.2.2.2.2.2; subst this; exact movedP_start L
            rw [e]
            have e2 : pvs (L ++ [blankP]) = pvs L ++ pv blankP := by simp [pvs]
            rw [e2]
            exact hown6, hbx6, hb6⟩
          have HG := Lib.hid (And.intro hbg hgb)
          clear HPG hbg hgb hbx6 hown6 hb6 b0 b1
          have u0 : IntKind.i64.wrap (((n + 1 : Nat) : Int) - 1) = (n : Int) := by rw [IntKind.wrap_i64]; omega
          have u0' : IntKind.i64.wrap ((n : Int) + 1 - 1) = (n : Int) := by rw [IntKind.wrap_i64]; omega
          have u0'' : IntKind.i64.wrap (n : Int) = (n : Int) := by rw [IntKind.wrap_i64]; omega
          go_wp2_with fail
          go_loopw [6] (fun i wr => ∃ p : Nat, k ≤ p ∧ p ≤ n ∧ i = .int .i64 p ∧ Hid (wr.ownsRow base 90 2 (.slice (some ⟨g6, 0, none⟩) (n + 1) c6) (n + 1) (pvs (movedP blankP L p)) ∧ wr.heap[w.heap.size]? = some (.cells #[.string xk, .string xv] 90 (0, 0)) ∧ Below base w wr))
            (fun i _ => (RowKit.intOf i).toNat)
          case atStart => exact ⟨n, hk, Nat.le_refl _, by simp, HI⟩
          case round =>
            obtain ⟨p, hkp, hpn, rfl, hrel⟩ := hrel
            clear HI u0 u0' u0''
            have hnL := HO.out.2.2.2.2.2.2
            have hml : (movedP blankP L p).length = n + 1 := by rw [movedP_length L (by omega), hnL]
            have hzl : (pvs (movedP blankP L p)).length = (n + 1) * 2 := by rw [pvs_length, hml]
            by_cases hlt : k < p
            · obtain ⟨p, rfl⟩ : ∃ p', p = p' + 1 := ⟨p - 1, by omega⟩
              have h3 : (k : Int) < ((p + 1 : Nat) : Int) := by omega
              have h3' : (k : Int) < (p : Int) + 1 := by omega
              obtain ⟨y, hy⟩ : ∃ y, L[p]? = some y := ⟨_, List.getElem?_eq_getElem (by omega)⟩
              obtain ⟨z, hz⟩ : ∃ z, (movedP blankP L (p + 1))[p + 1]? = some z := ⟨_, List.getElem?_eq_getElem (by omega)⟩
              have hyb : (movedP blankP L (p + 1))[p]? = some y := by rw [movedP_below (by omega) (by omega)]; exact hy
              have q1 := pvs_at hyb 0 (by omega)
              have q2 := pvs_at hyb 1 (by omega)
              have z1 := pvs_at hz 0 (by omega)
              have z2 := pvs_at hz 1 (by omega)
              rw [Nat.add_zero (p * 2)] at q1
              rw [Nat.add_zero ((p + 1) * 2)] at z1
              obtain ⟨_, e, k1, _⟩ := row_cell2 hrel.out.1 hzl (q1.trans rfl)
              cases e
              obtain ⟨_, e, k2, _⟩ := row_cell2 hrel.out.1 hzl (q2.trans rfl)
              cases e
              obtain ⟨_, e, m1, f1, _⟩ := row_cell2 hrel.out.1 hzl (z1.trans rfl)
              cases e
              obtain ⟨_, e, m2, f2, _⟩ := row_cell2 hrel.out.1 hzl (z2.trans rfl)
              cases e
              have u1 : IntKind.i64.wrap ((p : Int) + 1 - 1) = (p : Int) := by rw [IntKind.wrap_i64]; omega
              have u2 : IntKind.i64.wrap (p : Int) = (p : Int) := by rw [IntKind.wrap_i64]; omega
              have u3 : (0 : Int) ≤ (p : Int) + 1 := by omega
              have u4 : ((p : Int) + 1).toNat = p + 1 := by omega
              have u5 : (p : Int) + 1 < (n : Int) + 1 := by omega
              have u6 : (p : Int) < (n : Int) + 1 := by omega
              have u7 : p < n + 1 := by omega
              have u8 : p + 1 < n + 1 := by omega
              have HX := Lib.hid (And.intro hy hml)
              clear hy hyb q1 q2 z1 z2 hz hzl hml hnL
              go_wp2_with fail
              have hnL := HO.out.2.2.2.2.2.2
              refine ⟨⟨p, by omega, by omega, by first | rfl | simp, Lib.hid ⟨?_, ?_, below_set (below_set hrel.out.2.2 HG.out.1 _ _) HG.out.1 _ _⟩⟩, by simp [RowKit.intOf]⟩
              · have e := movedP_step (b := blankP) (show p + 1 ≤ L.length by omega) HX.out.1
                rw [← e, pvs_set _ (by rw [HX.out.2]; omega)]
                exact own_set (own_set hrel.out.1 _ _) _ _
              · rw [Below.heap_setCell _ _ _ _ (fun e => HG.out.2 e.symm), Below.heap_setCell _ _ _ _ (fun e => HG.out.2 e.symm)]
                exact hrel.out.2.1
            · obtain rfl : p = k := by omega
              have h3 : ¬ (p : Int) < (p : Int) := by omega
              have u6 : (p : Int) < (n : Int) + 1 := by omega
              have u7 : p < n + 1 := by omega
              have b0 := cells_of6 hrel.out.2.1 0 (.string xk) rfl
              have b1 := cells_of6 hrel.out.2.1 1 (.string xv) rfl
              obtain ⟨z, hz⟩ : ∃ z, (movedP blankP L p)[p]? = some z := ⟨_, List.getElem?_eq_getElem (by omega)⟩
              have z1 := pvs_at hz 0 (by omega)
              have z2 := pvs_at hz 1 (by omega)
              rw [Nat.add_zero (p * 2)] at z1
              obtain ⟨_, e, m1, f1, _⟩ := row_cell2 hrel.out.1 hzl (z1.trans rfl)
              cases e
              obtain ⟨_, e, m2, f2, _⟩ := row_cell2 hrel.out.1 hzl (z2.trans rfl)
              cases e
              have HX := Lib.hid (And.intro hml hnL)
              clear z1 z2 hz hzl hml hnL
              go_wp2_with fail
              go_ret
              have e := movedP_end (b := blankP) ⟨xk, xv⟩ (show p ≤ L.length by rw [← HX.out.2]; omega)
              refine ⟨some ⟨g6, 0, none⟩, n + 1, c6, rfl, ?_, ?_, below_set (below_set hrel.out.2.2 HG.out.1 _ _) HG.out.1 _ _⟩
              · rw [HINS.out, ← e, List.length_set, HX.out.1]
              · rw [HINS.out, ← e, pvs_set _ (by rw [HX.out.1]; omega)]
                exact own_set (own_set hrel.out.1 _ _) _ _
end Go.Proofs.YthcdkggkoanjpaaGreatDoor
