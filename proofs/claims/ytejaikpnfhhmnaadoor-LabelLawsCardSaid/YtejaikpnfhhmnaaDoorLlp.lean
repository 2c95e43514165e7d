/- Laws of joins and meets, plainly; tables as functions. Numbers and types by name. -/
import Derived.Test.YtejaikpnfhhmnaaDoorLrw
namespace Go.Proofs.YtejaikpnfhhmnaaDoor
open Go.RowKit Go.Lib
set_option maxRecDepth 100000

theorem TabV.fn {w : World} {ao : Option Addr} {c n m : Nat} {g : Nat → Nat → Value} (h : TabV w (.slice ao n c) n m g) (h0 : 0 < n) (hm : 0 < m) :
    ∃ (a : Addr) (R : Nat → Addr) (D : Nat → Nat), ao = some a ∧ (∀ i, i < n → w.cell? (a.add i) = some (.slice (some (R i)) m (D i))) ∧ ∀ i k, i < n → k < m → w.cell? ((R i).add k) = some (g i k) := by
  obtain ⟨a, _, _, rfl, _, _⟩ := h.row h0
  have h1 : ∀ i, ∃ p : Addr × Nat, i < n → w.cell? (a.add i) = some (.slice (some p.1) m p.2) ∧ ∀ k, k < m → w.cell? (p.1.add k) = some (g i k) := fun i => by
    by_cases hi : i < n
    · obtain ⟨a', bo, d, e, h2, h3⟩ := h.row hi
      cases e
      obtain ⟨b, rfl, _⟩ := cells_at h3 hm
      refine ⟨(b, d), fun _ => ⟨h2, fun k hk => ?_⟩⟩
      obtain ⟨b', e, h4⟩ := cells_at h3 hk
      cases e
      exact h4
    · exact ⟨(a, 0), fun h => absurd h hi⟩
  exact ⟨a, fun i => (Classical.choose (h1 i)).1, fun i => (Classical.choose (h1 i)).2, rfl, fun i hi => (Classical.choose_spec (h1 i) hi).1, fun i k hi hk => (Classical.choose_spec (h1 i) hi).2 k hk⟩

/-- What holds of joins where it is a lattice. -/
structure JoinLaws (n : Nat) (f : Nat → Nat → Bool) (J : Nat → Nat → Nat) : Prop where
  lt : ∀ a b, a < n → b < n → J a b < n
  comm : ∀ a b, a < n → b < n → J a b = J b a
  assoc : ∀ a b c, a < n → b < n → c < n → J (J a b) c = J a (J b c)
  left : ∀ a b, a < n → b < n → f a (J a b) = true
  right : ∀ a b, a < n → b < n → f b (J a b) = true
  least : ∀ a b c, a < n → b < n → c < n → f a c = true → f b c = true → f (J a b) c = true
  iff1 : ∀ a b, a < n → b < n → f a b = true → J a b = b
  iff2 : ∀ a b, a < n → b < n → J a b = b → f a b = true
theorem join_laws {n : Nat} {f : Nat → Nat → Bool} (h : Latt n f) (hr : ∀ x, x < n → f x x = true) (ht : ∀ x y z, x < n → y < n → z < n → f x y = true → f y z = true → f x z = true) : JoinLaws n f (joinI n f) := by
  have lt := h.lt
  refine ⟨lt, fun a b ha hb => ?_, fun a b c ha hb hc => ?_, h.left, h.right, h.least, fun a b ha hb hf => ?_, fun a b ha hb e => ?_⟩
  · exact h.anti _ _ (lt _ _ ha hb) (lt _ _ hb ha) (h.least _ _ _ ha hb (lt _ _ hb ha) (h.right _ _ hb ha) (h.left _ _ hb ha)) (h.least _ _ _ hb ha (lt _ _ ha hb) (h.right _ _ ha hb) (h.left _ _ ha hb))
  · have l1 := lt _ _ ha hb
    have l2 := lt _ _ hb hc
    have l3 := lt _ _ l1 hc
    have l4 := lt _ _ ha l2
    refine h.anti _ _ l3 l4 ?_ ?_
    · exact h.least _ _ _ l1 hc l4 (h.least _ _ _ ha hb l4 (h.left _ _ ha l2) (ht _ _ _ hb l2 l4 (h.left _ _ hb hc) (h.right _ _ ha l2))) (ht _ _ _ hc l2 l4 (h.right _ _ hb hc) (h.right _ _ ha l2))
    · exact h.least _ _ _ ha l2 l3 (ht _ _ _ ha l1 l3 (h.left _ _ ha hb) (h.left _ _ l1 hc)) (h.least _ _ _ hb hc l3 (ht _ _ _ hb l1 l3 (h.right _ _ ha hb) (h.left _ _ l1 hc)) (h.right _ _ l1 hc))
  · exact h.anti _ _ (lt _ _ ha hb) hb (h.least _ _ _ ha hb hb hf (hr b hb)) (h.right _ _ ha hb)
  · have := h.left _ _ ha hb
    rwa [e] at this
/-- Both, and how each takes in the other. -/
theorem both_laws {n : Nat} {f : Nat → Nat → Bool} (hl : lattP n f = true) (hr : ∀ x, x < n → f x x = true) (ht : ∀ x y z, x < n → y < n → z < n → f x y = true → f y z = true → f x z = true) (h0 : 0 < n) :
    JoinLaws n f (joinI n f) ∧ JoinLaws n (flipB f) (joinI n (flipB f)) ∧ (∀ a b, a < n → b < n → joinI n f a (joinI n (flipB f) a b) = a ∧ joinI n (flipB f) a (joinI n f a b) = a) ∧
      (lowI n f < n ∧ ∀ x, x < n → f (lowI n f) x = true) ∧ (lowI n (flipB f) < n ∧ ∀ x, x < n → f x (lowI n (flipB f)) = true) := by
  obtain ⟨h1, h2, h3⟩ := lattP_iff.1 hl
  have L1 := latt_of h1 h2
  have L2 := latt_of (flip_anti h1) h3
  have ht2 : ∀ x y z, x < n → y < n → z < n → flipB f x y = true → flipB f y z = true → flipB f x z = true := fun x y z hx hy hz a b => ht z y x hz hy hx b a
  have j1 := join_laws L1 hr ht
  have j2 := join_laws L2 hr ht2
  refine ⟨j1, j2, fun a b ha hb => ⟨?_, ?_⟩, ?_, low_ok L1 ht h0⟩
  · have hm := j2.lt _ _ ha hb
    rw [j1.comm _ _ ha hm]
    exact j1.iff1 _ _ hm ha (j2.left _ _ ha hb)
  · have hm := j1.lt _ _ ha hb
    rw [j2.comm _ _ ha hm]
    exact j2.iff1 _ _ hm ha (j1.left _ _ ha hb)
  · exact low_ok (f := flipB f) L2 ht2 h0

end Go.Proofs.YtejaikpnfhhmnaaDoor
