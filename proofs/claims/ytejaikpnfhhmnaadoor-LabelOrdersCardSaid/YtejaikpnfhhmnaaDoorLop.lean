/- Unlike lists of pairs with one lattice: the plain facts for LabelOrders. Numbers and types by name. -/
import Derived.Test.YtejaikpnfhhmnaaDoorLrw
import Derived.Test.YtejaikpnfhhmnaaDoorObg
namespace Go.Proofs.YtejaikpnfhhmnaaDoor
open Go.RowKit Go.Lib
set_option maxRecDepth 100000

/-- Lists of which each pair of one is one of the other's, or made of two of its pairs, have the same names. -/
theorem names_same {l m : List Pr8} (h1 : ∀ p, p ∈ l → p ∈ m) (h2 : ∀ p, p ∈ m → p ∈ l ∨ ∃ a b, a ∈ l ∧ b ∈ l ∧ a.2 = b.1 ∧ p = (a.1, b.2)) : namesP m = namesP l := by
  refine rise_ext (namesP_rise m) (namesP_rise l) fun x => ?_
  rw [namesP_mem, namesP_mem]
  constructor
  · rintro ⟨p, hp, hx⟩
    rcases h2 p hp with h | ⟨a, b, ha, hb, _, rfl⟩
    · exact ⟨p, h, hx⟩
    · rcases hx with rfl | ⟨hne, rfl⟩
      · exact ⟨a, ha, .inl rfl⟩
      · exact ⟨b, hb, .inr ⟨hne, rfl⟩⟩
  · rintro ⟨p, hp, hx⟩
    exact ⟨p, h1 p hp, hx⟩

/-- And one closure. -/
theorem clos_same {n : Nat} {L : List (List UInt8)} {l m : List Pr8} {f g : Nat → Nat → Bool} (h1 : ∀ p, p ∈ l → p ∈ m)
    (h2 : ∀ p, p ∈ m → p ∈ l ∨ ∃ a b, a ∈ l ∧ b ∈ l ∧ a.2 ≠ [] ∧ a.2 = b.1 ∧ p = (a.1, b.2)) (hL : ∀ a, a ∈ l → a.2 ≠ [] → idxT L a.2 < n)
    (hf : Clos n (baseP L l) f) (hg : Clos n (baseP L m) g) : ∀ x y, x < n → y < n → f x y = g x y := by
  refine hf.one hg (fun x y hx hy hb => ?_) (fun x y hx hy hb => ?_)
  · obtain ⟨p, hp, q⟩ := baseP_iff.1 hb
    exact hg.base x y hx hy (baseP_iff.2 ⟨p, h1 p hp, q⟩)
  · obtain ⟨p, hp, hne, rfl, rfl⟩ := baseP_iff.1 hb
    rcases h2 p hp with h | ⟨a, b, ha, hb2, hna, e, rfl⟩
    · exact hf.base _ _ hx hy (baseP_iff.2 ⟨p, h, hne, rfl, rfl⟩)
    · have hz := hL a ha hna
      refine hf.trans _ _ _ hx hz hy (hf.base _ _ hx hz (baseP_iff.2 ⟨a, ha, hna, rfl, rfl⟩)) (hf.base _ _ hz hy (baseP_iff.2 ⟨b, hb2, hne, by rw [e], rfl⟩))

/-- What makes two lists alike. -/
structure Alike (l m : List Pr8) : Prop where
  part : ∀ p, p ∈ l → p ∈ m
  made : ∀ p, p ∈ m → p ∈ l ∨ ∃ a b, a ∈ l ∧ b ∈ l ∧ a.2 ≠ [] ∧ a.2 = b.1 ∧ p = (a.1, b.2)
theorem Alike.names {l m : List Pr8} (h : Alike l m) : namesP m = namesP l :=
  names_same h.part fun p hp => (h.made p hp).imp id fun ⟨a, b, ha, hb, _, e, q⟩ => ⟨a, b, ha, hb, e, q⟩
theorem Alike.clos {l m : List Pr8} (h : Alike l m) {f g : Nat → Nat → Bool} (hf : Clos (namesP l).length (baseP (namesP l) l) f) (hg : Clos (namesP l).length (baseP (namesP l) m) g) :
    ∀ x y, x < (namesP l).length → y < (namesP l).length → f x y = g x y :=
  clos_same h.part h.made (fun a ha hne => idxT_lt (namesP_mem.2 ⟨a, ha, .inr ⟨hne, rfl⟩⟩)) hf hg
theorem makeX_two {l m : List Pr8} (h : Alike l m) {x y : Int} (hx : MakeX l x) (hy : MakeX m y) : x = y := by
  unfold MakeX at hy
  rw [h.names] at hy
  rcases hx with ⟨h1, h2⟩ | ⟨h1, h2⟩ | ⟨h1, h2, f, hc, h3⟩ <;> rcases hy with ⟨k1, k2⟩ | ⟨k1, k2⟩ | ⟨k1, k2, g, kc, k3⟩ <;> try omega
  have e := lattP_congr (h.clos hc kc)
  rcases h3 with ⟨h3, rfl⟩ | ⟨h3, rfl⟩ <;> rcases k3 with ⟨k3, rfl⟩ | ⟨k3, rfl⟩
  · rfl
  · rw [e, k3] at h3; cases h3
  · rw [e, k3] at h3; cases h3
  · rfl
theorem made_two {lo lo' : Nat} {w w' : World} {l m : List Pr8} (ha : Alike l m) {v v' : Value} {x x' : Int} (h : MadeV lo w l v x) (h' : MadeV lo' w' m v' x') : x = x' ∧ ∃ L f J M p q, SixV w L f J M p q v ∧ SixV w' L f J M p q v' := by
  obtain rfl := makeX_two ha h.1 h'.1
  refine ⟨rfl, ?_⟩
  have hz := h'.2
  rw [ha.names] at hz
  rcases h.2 with ⟨h0, rfl⟩ | ⟨rfl, f, hc, hl, hv⟩
  · rcases hz with ⟨_, rfl⟩ | ⟨h1, _⟩
    · exact ⟨[], fun _ _ => false, fun _ _ => 0, fun _ _ => 0, 0, 0, six_zero _ _ _ _, six_zero _ _ _ _⟩
    · exact absurd h1 h0
  · rcases hz with ⟨h0, _⟩ | ⟨_, g, hc', _, hv'⟩
    · exact absurd rfl h0
    · have hn : (namesP l).length ≤ 1000 := by
        rcases h.1 with ⟨_, h2⟩ | ⟨_, h2⟩ | ⟨_, h2, _⟩
        · cases h2
        · cases h2
        · omega
      exact ⟨_, _, _, _, _, _, hv.six hn, (hv'.congr fun x y hx hy => (ha.clos hc hc' x y hx hy).symm).six hn⟩

end Go.Proofs.YtejaikpnfhhmnaaDoor
