/- Lists of pairs that are read. Numbers and types by name. -/
import Derived.Test.YtkeahapgliljoaaOpr
namespace Go.Proofs.Ytkeahapgliljoaa
open Go.RowKit Go.Lib

/-- A pair: key, value. -/
structure Prm where
  key : ByteArray
  val : ByteArray
  deriving DecidableEq

def pv (o : Prm) : List Value := [.string o.key, .string o.val]
def pvs (L : List Prm) : List Value := L.flatMap pv
theorem pvs_length (L : List Prm) : (pvs L).length = L.length * 2 := by
  induction L with
  | nil => rfl
  | cons o L ih => simp only [pvs, List.flatMap_cons, List.length_append, List.length_cons] at *; rw [ih]; simp [pv]; omega
theorem pvs_at {L : List Prm} {k : Nat} {o : Prm} (h : L[k]? = some o) (j : Nat) (hj : j < 2) : (pvs L)[k * 2 + j]? = (pv o)[j]? := by
  induction L generalizing k with
  | nil => cases h
  | cons p L ih =>
    have e : pvs (p :: L) = pv p ++ pvs L := by simp [pvs]
    cases k with
    | zero =>
      simp only [List.getElem?_cons_zero, Option.some.injEq] at h
      subst h
      rw [e, Nat.zero_mul, Nat.zero_add, List.getElem?_append_left (by simp [pv]; omega)]
    | succ k =>
      rw [List.getElem?_cons_succ] at h
      rw [e, List.getElem?_append_right (by simp [pv]; omega), ← ih h]
      congr 1
      simp [pv]; omega

/-- A list of pairs can be read; their texts are no longer than texts can be. -/
def Prr (w : World) (v : Value) (n : Nat) (L : List Prm) : Prop := n = L.length ∧ n ≤ maxLen ∧ Cells w v 2 n (pvs L) ∧ ∀ o ∈ L, o.key.size ≤ maxLen ∧ o.val.size ≤ maxLen

theorem Prr.shape {w : World} {v : Value} {n : Nat} {L : List Prm} (h : Prr w v n L) : ∃ ao c, v = .slice ao n c := by
  obtain ⟨_, _, ⟨ao, c, rfl, _⟩, _⟩ := h
  exact ⟨ao, c, rfl⟩
theorem Prr.later {w w' : World} {v : Value} {n : Nat} {L : List Prm} (h : Prr w v n L) (hg : Grow w w') : Prr w' v n L := ⟨h.1, h.2.1, h.2.2.1.later hg, h.2.2.2⟩
theorem Prr.nil (w : World) : Prr w (.slice none 0 0) 0 [] := ⟨rfl, Nat.zero_le _, ⟨none, 0, rfl, rfl, Nat.le_refl _, fun _ => ⟨rfl, rfl⟩, fun a h => by cases h⟩, fun o h => by cases h⟩

theorem Prr.at {w : World} {ao : Option Addr} {n c : Nat} {L : List Prm} (h : Prr w (.slice ao n c) n L) {k : Nat} (hk : k < n) :
    ∃ a o, ao = some a ∧ L[k]? = some o ∧ w.cell? (a.add (k * 2)) = some (.string o.key) ∧ w.cell? ⟨(a.add (k * 2)).block, (a.add (k * 2)).off + 1, none⟩ = some (.string o.val) ∧ o.key.size ≤ maxLen ∧ o.val.size ≤ maxLen := by
  obtain ⟨h1, h2, ⟨ao', c', e, h0, hnc, hn, hc⟩, hs⟩ := h
  simp only [Value.slice.injEq] at e
  obtain ⟨rfl, _, rfl⟩ := e
  have hx : L[k]? = some (L[k]'(by omega)) := List.getElem?_eq_getElem (by omega)
  generalize L[k]'(by omega) = o at hx
  cases ao with
  | none => have := (hn rfl).1; omega
  | some a =>
    have hm := hs o (List.mem_of_getElem? hx)
    refine ⟨a, o, rfl, hx, ?_, ?_, hm.1, hm.2⟩
    · exact hc a rfl (k * 2) _ (by have := pvs_at hx 0 (by omega); rw [Nat.add_zero] at this; rw [this]; rfl)
    · have := hc a rfl _ _ (show (pvs L)[k * 2 + 1]? = some (.string o.val) by rw [pvs_at hx 1 (by omega)]; rfl)
      rw [← Addr.add_add] at this
      exact this

/-- Keys that rise. -/
def kOf (o : Prm) : List UInt8 := o.key.toList
def Rise (L : List Prm) : Prop := L.Pairwise fun a b => kOf a < kOf b
instance riseDec (L : List Prm) : Decidable (Rise L) := by unfold Rise; infer_instance

theorem rise_steps {L : List Prm} (h : ∀ j a b, L[j]? = some a → L[j + 1]? = some b → kOf a < kOf b) : Rise L := by
  unfold Rise
  induction L with
  | nil => exact List.Pairwise.nil
  | cons x L ih =>
    have hL := ih fun j a b h1 h2 => h (j + 1) a b (by simpa using h1) (by simpa using h2)
    refine List.Pairwise.cons (fun y hy => ?_) hL
    cases L with
    | nil => cases hy
    | cons z L =>
      have h0 := h 0 x z rfl rfl
      rcases List.mem_cons.1 hy with rfl | hy
      · exact h0
      · exact List.lt_trans h0 ((List.pairwise_cons.1 hL).1 y hy)
theorem rise_next {L : List Prm} (h : Rise L) {j : Nat} {a b : Prm} (ha : L[j]? = some a) (hb : L[j + 1]? = some b) : kOf a < kOf b := by
  obtain ⟨h1, e1⟩ := List.getElem?_eq_some_iff.1 ha
  obtain ⟨h2, e2⟩ := List.getElem?_eq_some_iff.1 hb
  have := List.pairwise_iff_getElem.1 h j (j + 1) h1 h2 (by omega)
  rw [e1, e2] at this
  exact this

/-- What Pairs tells. -/
def SameP (ps qs : List Prm) (w : World) (e : Ending) (w' : World) : Prop := ∃ k, e = .returned (.bool (decide (ps = qs))) ∧ w' = w.drewN k

theorem same_pairs (v1 v2 : Value) (n m : Nat) (ps qs : List Prm) (w : World) (h1 : Prr w v1 n ps) (h2 : Prr w v2 m qs) :
    Calls Try.prog 15 #[v1, v2] w (SameP ps qs w) := by
  obtain ⟨a1, c1, rfl⟩ := h1.shape
  obtain ⟨a2, c2, rfl⟩ := h2.shape
  have H1 := Lib.hid h1
  have H2 := Lib.hid h2
  have hm := h1.2.1
  unfold maxLen at hm
  clear h1 h2
  by_cases hne : n = m
  · subst hne
    go_enter Try.func15, Try.ntmps15
    go_wp2_with fail
    go_loopw [5] (fun i wr => ∃ k q : Nat, k ≤ n ∧ i = .int .i64 k ∧ wr = w.drewN q ∧ Hid (ps.take k = qs.take k))
      (fun i _ => n - (intOf i).toNat)
    case atStart => exact ⟨0, 0, Nat.zero_le _, rfl, rfl, Lib.hid rfl⟩
    case round =>
      obtain ⟨k, q, hk, rfl, hw, hs⟩ := hrel
      by_cases h1 : k < n
      · have h3 : (k : Int) < (n : Int) := by omega
        have R1 : Prr wr (.slice a1 n c1) n ps := by rw [hw]; exact H1.out
        have R2 : Prr wr (.slice a2 n c2) n qs := by rw [hw]; exact H2.out
        obtain ⟨x1, o1, rfl, e1, ca0, ca1, _, _⟩ := R1.at h1
        obtain ⟨x2, o2, rfl, e2, cb0, cb1, _, _⟩ := R2.at h1
        have HW := Lib.hid (And.intro hw (And.intro e1 e2))
        clear hw e1 e2 R1 R2
        obtain ⟨k1, v1⟩ := o1
        obtain ⟨k2, v2⟩ := o2
        simp only at ca0 ca1 cb0 cb1
        by_cases heq : k1.toList = k2.toList ∧ v1.toList = v2.toList
        · obtain ⟨hk2, hv2⟩ := heq
          obtain rfl := text_inj' hk2
          obtain rfl := text_inj' hv2
          have HN : Hid (ps.take (k + 1) = qs.take (k + 1)) := Lib.hid (by rw [take_next HW.out.2.1, take_next HW.out.2.2, hs.out])
          clear hk2 hv2
          go_wp2_with fail
          go_quiet (fail)
          go_wp2
          exact ⟨⟨k + 1, q + nq, by omega, by simp, by rw [HW.out.1, World.drewN_drewN], HN⟩, by simp [intOf]; omega⟩
        · have HN : Hid (ps ≠ qs) := Lib.hid (by
            rintro rfl
            have e := HW.out.2.1.symm.trans HW.out.2.2
            simp only [Option.some.injEq, Prm.mk.injEq] at e
            exact heq ⟨by rw [e.1], by rw [e.2]⟩)
          have hcase : (¬ k1.toList = k2.toList) ∨ (k1.toList = k2.toList ∧ ¬ v1.toList = v2.toList) := by
            by_cases x2 : k1.toList = k2.toList
            · exact .inr ⟨x2, fun x3 => heq ⟨x2, x3⟩⟩
            · exact .inl x2
          clear heq
          rcases hcase with x2 | ⟨x2, x3⟩
          · go_wp2_with fail
            go_quiet (fail)
            go_wp2
            go_ret
            exact ⟨q + nq, by rw [decide_eq_false HN.out]; rfl, by rw [HW.out.1, World.drewN_drewN]⟩
          · go_wp2_with fail
            go_quiet (fail)
            go_wp2
            go_ret
            exact ⟨q + nq, by rw [decide_eq_false HN.out]; rfl, by rw [HW.out.1, World.drewN_drewN]⟩
      · have h3 : ¬ (k : Int) < (n : Int) := by omega
        obtain rfl : k = n := by omega
        have HW := Lib.hid hw
        clear hw
        go_wp2_with fail
        go_ret
        have h5 := hs.out
        rw [List.take_of_length_le (by have := H1.out.1; omega), List.take_of_length_le (by have := H2.out.1; omega)] at h5
        exact ⟨q, by rw [decide_eq_true h5]; rfl, HW.out⟩
  · have h3 : ¬ (n : Int) = (m : Int) := by omega
    have h4 : ((n : Int) != (m : Int)) = true := by simpa using h3
    go_enter Try.func15, Try.ntmps15
    go_wp2_with fail
    go_ret
    refine ⟨0, ?_, rfl⟩
    rw [decide_eq_false]
    · rfl
    intro h; exact absurd (by have := H1.out.1; have := H2.out.1; rw [h] at *; omega) hne

end Go.Proofs.Ytkeahapgliljoaa
