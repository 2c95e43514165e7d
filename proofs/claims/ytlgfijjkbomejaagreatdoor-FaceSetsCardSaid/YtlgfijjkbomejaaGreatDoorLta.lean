/- Lattices, plainly: names of pairs, closures, least ones. -/
import Derived.Test.YtlgfijjkbomejaaGreatDoorBas
namespace Go.Proofs.YtlgfijjkbomejaaGreatDoor
set_option maxRecDepth 100000

/-- A text into a rising list, once. -/
def insT (s : List UInt8) : List (List UInt8) → List (List UInt8)
  | [] => [s]
  | a :: l => if a < s then a :: insT s l else if a = s then a :: l else s :: a :: l
abbrev RiseT (L : List (List UInt8)) : Prop := L.Pairwise (· < ·)
theorem lt_irr8 (a : List UInt8) : ¬ a < a := List.lt_irrefl a
theorem lt_tri8 {a b : List UInt8} (h : ¬ a < b) (hn : a ≠ b) : b < a := by
  rcases Decidable.em (b < a) with h2 | h2
  · exact h2
  · exact absurd (List.le_antisymm (List.not_lt.1 h2) (List.not_lt.1 h)) hn
theorem insT_mem {s x : List UInt8} : ∀ {L : List (List UInt8)}, x ∈ insT s L ↔ x = s ∨ x ∈ L
  | [] => by simp [insT]
  | a :: l => by
    unfold insT
    split
    · simp only [List.mem_cons, insT_mem]
      constructor
      · rintro (h | h | h) <;> simp [h]
      · rintro (h | h | h) <;> simp [h]
    · split
      · rename_i h; subst h; simp
      · simp
theorem insT_rise {s : List UInt8} : ∀ {L : List (List UInt8)}, RiseT L → RiseT (insT s L)
  | [], _ => by simp [insT]
  | a :: l, h => by
    rw [RiseT, List.pairwise_cons] at h
    unfold insT
    split
    · rename_i h1
      rw [RiseT, List.pairwise_cons]
      refine ⟨fun x hx => ?_, insT_rise h.2⟩
      rcases insT_mem.1 hx with rfl | hx
      · exact h1
      · exact h.1 x hx
    · split
      · rw [RiseT, List.pairwise_cons]; exact h
      · rename_i h1 h2
        have h3 := lt_tri8 h1 h2
        rw [RiseT, List.pairwise_cons, List.pairwise_cons]
        refine ⟨fun x hx => ?_, h⟩
        rcases List.mem_cons.1 hx with rfl | hx
        · exact h3
        · exact List.lt_trans h3 (h.1 x hx)
theorem insT_length (s : List UInt8) : ∀ L : List (List UInt8), L.length ≤ (insT s L).length ∧ (insT s L).length ≤ L.length + 1
  | [] => by simp [insT]
  | a :: l => by
    have := insT_length s l
    unfold insT
    split
    · simp only [List.length_cons]; omega
    · split <;> simp only [List.length_cons] <;> omega
theorem insT_at {s : List UInt8} : ∀ {L : List (List UInt8)} (k : Nat), (∀ t, t < k → ∃ x, L[t]? = some x ∧ x < s) → (∀ x, L[k]? = some x → ¬ x < s) → insT s L = if L[k]? = some s then L else L.take k ++ s :: L.drop k
  | [], k, h1, _ => by
    obtain rfl : k = 0 := by
      rcases Nat.eq_zero_or_pos k with h | h
      · exact h
      · obtain ⟨x, hx, _⟩ := h1 0 h
        simp at hx
    simp [insT]
  | a :: l, 0, _, h2 => by
    have h3 := h2 a rfl
    unfold insT
    rw [if_neg h3]
    by_cases h : a = s
    · subst h; simp
    · rw [if_neg h, if_neg (by simpa using h)]
      simp
  | a :: l, k + 1, h1, h2 => by
    obtain ⟨x, hx, hlt⟩ := h1 0 (Nat.succ_pos k)
    rw [List.getElem?_cons_zero, Option.some.injEq] at hx
    subst hx
    unfold insT
    rw [if_pos hlt, insT_at k (fun t ht => by have := h1 (t + 1) (by omega); rwa [List.getElem?_cons_succ] at this) (fun x hx => h2 x (by rwa [List.getElem?_cons_succ]))]
    rw [List.getElem?_cons_succ]
    by_cases h : l[k]? = some s
    · rw [if_pos h, if_pos h]
    · rw [if_neg h, if_neg h]
      simp

/-- The names of a list of pairs. -/
def addP (L : List (List UInt8)) (p : List UInt8 × List UInt8) : List (List UInt8) := if p.2 = [] then insT p.1 L else insT p.2 (insT p.1 L)
def namesP (l : List (List UInt8 × List UInt8)) : List (List UInt8) := l.foldl addP []
theorem addP_rise {L : List (List UInt8)} {p : List UInt8 × List UInt8} (h : RiseT L) : RiseT (addP L p) := by
  unfold addP
  split
  · exact insT_rise h
  · exact insT_rise (insT_rise h)
theorem addP_length (L : List (List UInt8)) (p : List UInt8 × List UInt8) : L.length ≤ (addP L p).length ∧ (addP L p).length ≤ L.length + 2 := by
  unfold addP
  have h1 := insT_length p.1 L
  have h2 := insT_length p.2 (insT p.1 L)
  split <;> omega
theorem addP_mem {L : List (List UInt8)} {p : List UInt8 × List UInt8} {x : List UInt8} : x ∈ addP L p ↔ x ∈ L ∨ x = p.1 ∨ (p.2 ≠ [] ∧ x = p.2) := by
  unfold addP
  split
  · rename_i h
    rw [insT_mem]
    simp [h, or_comm]
  · rename_i h
    rw [insT_mem, insT_mem]
    constructor
    · rintro (h1 | h1 | h1)
      · exact .inr (.inr ⟨h, h1⟩)
      · exact .inr (.inl h1)
      · exact .inl h1
    · rintro (h1 | h1 | ⟨_, h1⟩) <;> simp [h1]
theorem fold_rise : ∀ (l : List (List UInt8 × List UInt8)) {L : List (List UInt8)}, RiseT L → RiseT (l.foldl addP L)
  | [], _, h => h
  | _ :: l, _, h => fold_rise l (addP_rise h)
theorem fold_length : ∀ (l : List (List UInt8 × List UInt8)) (L : List (List UInt8)), L.length ≤ (l.foldl addP L).length
  | [], _ => Nat.le_refl _
  | p :: l, L => Nat.le_trans (addP_length L p).1 (fold_length l (addP L p))
theorem fold_mem : ∀ (l : List (List UInt8 × List UInt8)) (L : List (List UInt8)) (x : List UInt8), x ∈ l.foldl addP L ↔ x ∈ L ∨ ∃ p ∈ l, x = p.1 ∨ (p.2 ≠ [] ∧ x = p.2)
  | [], L, x => by simp
  | p :: l, L, x => by
    rw [List.foldl_cons, fold_mem l, addP_mem]
    simp only [List.mem_cons, exists_eq_or_imp, or_assoc]
theorem namesP_rise (l : List (List UInt8 × List UInt8)) : RiseT (namesP l) := fold_rise l List.Pairwise.nil
theorem namesP_mem {l : List (List UInt8 × List UInt8)} {x : List UInt8} : x ∈ namesP l ↔ ∃ p ∈ l, x = p.1 ∨ (p.2 ≠ [] ∧ x = p.2) := by
  unfold namesP
  rw [fold_mem]
  simp
theorem names_take {l : List (List UInt8 × List UInt8)} {k : Nat} {p : List UInt8 × List UInt8} (h : l[k]? = some p) : namesP (l.take (k + 1)) = addP (namesP (l.take k)) p := by
  unfold namesP
  rw [List.take_add_one, h, List.foldl_append]
  rfl
theorem names_le (l : List (List UInt8 × List UInt8)) (k : Nat) : (namesP (l.take k)).length ≤ (namesP l).length := by
  conv => rhs; rw [← List.take_append_drop k l]
  unfold namesP
  rw [List.foldl_append]
  exact fold_length _ _
/-- Rising lists of the same texts are one. -/
theorem rise_ext : ∀ {L M : List (List UInt8)}, RiseT L → RiseT M → (∀ x, x ∈ L ↔ x ∈ M) → L = M
  | [], [], _, _, _ => rfl
  | [], b :: M, _, _, h => by have := (h b).2 (by simp); simp at this
  | a :: L, [], _, _, h => by have := (h a).1 (by simp); simp at this
  | a :: L, b :: M, h1, h2, h => by
    rw [RiseT, List.pairwise_cons] at h1 h2
    have hab : a = b := by
      have ha := (h a).1 (by simp)
      have hb := (h b).2 (by simp)
      rcases List.mem_cons.1 ha with e | ha
      · exact e
      rcases List.mem_cons.1 hb with e | hb
      · exact e.symm
      exact absurd (List.lt_trans (h1.1 b hb) (h2.1 a ha)) (lt_irr8 a)
    subst hab
    rw [rise_ext h1.2 h2.2 fun x => ?_]
    constructor
    · intro hx
      rcases List.mem_cons.1 ((h x).1 (by simp [hx])) with e | hx2
      · subst e
        exact absurd (h1.1 x hx) (lt_irr8 x)
      · exact hx2
    · intro hx
      rcases List.mem_cons.1 ((h x).2 (by simp [hx])) with e | hx2
      · subst e
        exact absurd (h2.1 x hx) (lt_irr8 x)
      · exact hx2

/-- The place of a text in a list; how long the list is, where it is not there. -/
def idxT (L : List (List UInt8)) (s : List UInt8) : Nat := L.findIdx (fun x => decide (x = s))
theorem idxT_lt {L : List (List UInt8)} {s : List UInt8} (h : s ∈ L) : idxT L s < L.length := List.findIdx_lt_length_of_exists ⟨s, h, by simp⟩
theorem idxT_at {L : List (List UInt8)} {s : List UInt8} (h : s ∈ L) : L[idxT L s]? = some s := by
  have h1 := idxT_lt h
  have h2 : decide (L[idxT L s] = s) = true := List.findIdx_getElem (w := h1)
  rw [List.getElem?_eq_getElem h1]
  simpa using h2
theorem idxT_first {L : List (List UInt8)} {s : List UInt8} {k : Nat} (hk : L[k]? = some s) (hb : ∀ j, j < k → L[j]? ≠ some s) : idxT L s = k := by
  have hm : s ∈ L := List.mem_of_getElem? hk
  rcases Nat.lt_trichotomy (idxT L s) k with h | h | h
  · exact absurd (idxT_at hm) (hb _ h)
  · exact h
  · have := List.not_of_lt_findIdx (xs := L) (p := fun x => decide (x = s)) h
    have h2 := (List.getElem?_eq_some_iff.1 hk)
    obtain ⟨h3, h4⟩ := h2
    simp [h4] at this
theorem idxT_rise {L : List (List UInt8)} (h : RiseT L) {s : List UInt8} {k : Nat} (hk : L[k]? = some s) : idxT L s = k := by
  refine idxT_first hk fun j hj he => ?_
  obtain ⟨h1, h2⟩ := List.getElem?_eq_some_iff.1 he
  obtain ⟨h3, h4⟩ := List.getElem?_eq_some_iff.1 hk
  have := List.pairwise_iff_getElem.1 h j k h1 h3 hj
  rw [h2, h4] at this
  exact lt_irr8 s this

/-- What pairs say of names. -/
def baseP (L : List (List UInt8)) (l : List (List UInt8 × List UInt8)) (a b : Nat) : Bool := l.any fun p => decide (p.2 ≠ []) && (decide (idxT L p.1 = a) && decide (idxT L p.2 = b))
theorem baseP_iff {L : List (List UInt8)} {l : List (List UInt8 × List UInt8)} {a b : Nat} : baseP L l a b = true ↔ ∃ p ∈ l, p.2 ≠ [] ∧ idxT L p.1 = a ∧ idxT L p.2 = b := by
  unfold baseP
  simp [List.any_eq_true]
theorem base_take {L : List (List UInt8)} {l : List (List UInt8 × List UInt8)} {k : Nat} {p : List UInt8 × List UInt8} (h : l[k]? = some p) (a b : Nat) : baseP L (l.take (k + 1)) a b = (baseP L (l.take k) a b || (decide (p.2 ≠ []) && (decide (idxT L p.1 = a) && decide (idxT L p.2 = b)))) := by
  unfold baseP
  rw [List.take_add_one, h, List.any_append]
  simp

/-- f is the least that is reflexive, goes on, and has b, below n. -/
structure Clos (n : Nat) (b f : Nat → Nat → Bool) : Prop where
  refl : ∀ x, x < n → f x x = true
  trans : ∀ x y z, x < n → y < n → z < n → f x y = true → f y z = true → f x z = true
  base : ∀ x y, x < n → y < n → b x y = true → f x y = true
  least : ∀ T : Nat → Nat → Prop, (∀ x, x < n → T x x) → (∀ x y z, x < n → y < n → z < n → T x y → T y z → T x z) → (∀ x y, x < n → y < n → b x y = true → T x y) → ∀ x y, x < n → y < n → f x y = true → T x y
theorem Clos.sub {n : Nat} {b b' f f' : Nat → Nat → Bool} (h : Clos n b f) (h' : Clos n b' f') (hb : ∀ x y, x < n → y < n → b x y = true → f' x y = true) : ∀ x y, x < n → y < n → f x y = true → f' x y = true :=
  h.least (fun x y => f' x y = true) h'.refl h'.trans hb
theorem Clos.one {n : Nat} {b b' f f' : Nat → Nat → Bool} (h : Clos n b f) (h' : Clos n b' f') (h1 : ∀ x y, x < n → y < n → b x y = true → f' x y = true) (h2 : ∀ x y, x < n → y < n → b' x y = true → f x y = true) : ∀ x y, x < n → y < n → f x y = f' x y := by
  intro x y hx hy
  rw [Bool.eq_iff_iff]
  exact ⟨h.sub h' h1 x y hx hy, h'.sub h h2 x y hx hy⟩
theorem Clos.same {n : Nat} {b f f' : Nat → Nat → Bool} (h : Clos n b f) (h' : Clos n b f') : ∀ x y, x < n → y < n → f x y = f' x y := h.one h' h'.base h.base

/-- The first of a set that is at most all of it. -/
def leastP (n : Nat) (f : Nat → Nat → Bool) (c : Nat → Bool) : Option Nat := (List.range n).find? fun i => c i && (List.range n).all fun k => !c k || f i k
theorem leastP_some {n : Nat} {f : Nat → Nat → Bool} {c : Nat → Bool} {i : Nat} (h : leastP n f c = some i) : i < n ∧ c i = true ∧ ∀ k, k < n → c k = true → f i k = true := by
  unfold leastP at h
  have h1 := List.find?_some h
  have h2 := List.mem_of_find?_eq_some h
  simp only [Bool.and_eq_true, List.all_eq_true, List.mem_range, Bool.or_eq_true, Bool.not_eq_true'] at h1 h2
  refine ⟨h2, h1.1, fun k hk hc => ?_⟩
  rcases h1.2 k hk with h3 | h3
  · rw [hc] at h3; cases h3
  · exact h3
theorem leastP_none {n : Nat} {f : Nat → Nat → Bool} {c : Nat → Bool} (h : leastP n f c = none) {i : Nat} (hi : i < n) (hc : c i = true) : ∃ k, k < n ∧ c k = true ∧ f i k = false := by
  unfold leastP at h
  rw [List.find?_eq_none] at h
  have := h i (by simpa using hi)
  simp only [Bool.and_eq_true, List.all_eq_true, List.mem_range, Bool.or_eq_true, Bool.not_eq_true', hc, true_and] at this
  rcases Classical.em (∃ k, k < n ∧ c k = true ∧ f i k = false) with h2 | h2
  · exact h2
  · exfalso
    refine this fun k hk => ?_
    cases hck : c k
    · exact .inl rfl
    · right
      cases hf : f i k
      · exact absurd ⟨k, hk, hck, hf⟩ h2
      · rfl
/-- What is asked ahead of i all fails, and i is right. -/
theorem leastP_first {n : Nat} {f : Nat → Nat → Bool} {c : Nat → Bool} {i : Nat} (hi : i < n) (h1 : c i = true) (h2 : ∀ k, k < n → c k = true → f i k = true) (h3 : ∀ j, j < i → c j = false ∨ ∃ k, k < n ∧ c k = true ∧ f j k = false) : leastP n f c = some i := by
  unfold leastP
  rw [List.find?_range_eq_some]
  refine ⟨?_, ?_, ?_⟩
  · simp only [Bool.and_eq_true, List.all_eq_true, List.mem_range, Bool.or_eq_true, Bool.not_eq_true']
    refine ⟨h1, fun k hk => ?_⟩
    cases hck : c k
    · exact .inl rfl
    · exact .inr (h2 k hk hck)
  · simpa using hi
  · intro j hj
    rcases h3 j hj with h | ⟨k, hk, hc, hf⟩
    · simp [h]
    · simp only [Bool.not_eq_true', Bool.and_eq_false_iff, List.all_eq_false, List.mem_range]
      right
      exact ⟨k, hk, by simp [hc, hf]⟩
theorem leastP_nothing {n : Nat} {f : Nat → Nat → Bool} {c : Nat → Bool} (h3 : ∀ j, j < n → c j = false ∨ ∃ k, k < n ∧ c k = true ∧ f j k = false) : leastP n f c = none := by
  cases h : leastP n f c with
  | none => rfl
  | some i =>
    obtain ⟨h1, h2, h4⟩ := leastP_some h
    rcases h3 i h1 with h5 | ⟨k, hk, hc, hf⟩
    · rw [h2] at h5; cases h5
    · rw [h4 k hk hc] at hf; cases hf
theorem leastP_congr {n : Nat} {f g : Nat → Nat → Bool} {c d : Nat → Bool} (hf : ∀ x y, x < n → y < n → f x y = g x y) (hc : ∀ x, x < n → c x = d x) : leastP n f c = leastP n g d := by
  cases h : leastP n g d with
  | none =>
    refine leastP_nothing fun j hj => ?_
    cases hd : d j
    · exact .inl (by rw [hc j hj, hd])
    · obtain ⟨k, hk, h1, h2⟩ := leastP_none h hj hd
      exact .inr ⟨k, hk, by rw [hc k hk, h1], by rw [hf j k hj hk, h2]⟩
  | some i =>
    obtain ⟨h1, h2, h4⟩ := leastP_some h
    refine leastP_first h1 (by rw [hc i h1, h2]) (fun k hk hck => by rw [hf i k h1 hk]; exact h4 k hk (by rw [← hc k hk, hck])) fun j hj => ?_
    have hjn : j < n := by omega
    unfold leastP at h
    rw [List.find?_range_eq_some] at h
    have h5 := h.2.2 j hj
    simp only [Bool.not_eq_true', Bool.and_eq_false_iff, List.all_eq_false, List.mem_range] at h5
    rcases h5 with h5 | ⟨k, hk, h6⟩
    · exact .inl (by rw [hc j hjn, h5])
    · simp only [Bool.or_eq_true, Bool.not_eq_true', not_or, Bool.not_eq_false, Bool.not_eq_true] at h6
      exact .inr ⟨k, hk, by rw [hc k hk, h6.1], by rw [hf j k hjn hk, h6.2]⟩
/-- Where it goes both ways for one and the same alone, the one that is right is told. -/
theorem leastP_one {n : Nat} {f : Nat → Nat → Bool} {c : Nat → Bool} (ha : ∀ x y, x < n → y < n → f x y = true → f y x = true → x = y) {i : Nat} (hi : i < n) (h1 : c i = true) (h2 : ∀ k, k < n → c k = true → f i k = true) : leastP n f c = some i := by
  cases h : leastP n f c with
  | none =>
    obtain ⟨k, hk, hc, hf⟩ := leastP_none h hi h1
    rw [h2 k hk hc] at hf; cases hf
  | some j =>
    obtain ⟨h3, h4, h5⟩ := leastP_some h
    rw [ha i j hi h3 (h2 j h3 h4) (h5 i hi h1)]

def flipB (f : Nat → Nat → Bool) (a b : Nat) : Bool := f b a
/-- The least that both are at most; none: there is none. -/
def joinP (n : Nat) (f : Nat → Nat → Bool) (a b : Nat) : Option Nat := leastP n f fun k => f a k && f b k
def joinsP (n : Nat) (f : Nat → Nat → Bool) : Bool := (List.range n).all fun a => (List.range n).all fun b => (joinP n f a b).isSome
def circP (n : Nat) (f : Nat → Nat → Bool) : Bool := (List.range n).any fun a => (List.range n).any fun b => decide (a ≠ b) && (f a b && f b a)
def lattP (n : Nat) (f : Nat → Nat → Bool) : Bool := !circP n f && (joinsP n f && joinsP n (flipB f))
def joinI (n : Nat) (f : Nat → Nat → Bool) (a b : Nat) : Nat := (joinP n f a b).getD 0
def lowI (n : Nat) (f : Nat → Nat → Bool) : Nat := (leastP n f fun _ => true).getD 0
theorem joinsP_iff {n : Nat} {f : Nat → Nat → Bool} : joinsP n f = true ↔ ∀ a b, a < n → b < n → ∃ j, joinP n f a b = some j := by
  unfold joinsP
  simp only [List.all_eq_true, List.mem_range, Option.isSome_iff_exists]
  exact ⟨fun h a b ha hb => h a ha b hb, fun h a ha b hb => h a b ha hb⟩
theorem circP_iff {n : Nat} {f : Nat → Nat → Bool} : circP n f = false ↔ ∀ a b, a < n → b < n → f a b = true → f b a = true → a = b := by
  unfold circP
  simp only [List.any_eq_false, List.mem_range]
  constructor
  · intro h a b ha hb h1 h2
    rcases Decidable.em (a = b) with e | e
    · exact e
    · have := h a ha
      rw [Bool.not_eq_true, List.any_eq_false] at this
      have := this b (by simpa using hb)
      simp [e, h1, h2] at this
  · intro h a ha
    rw [Bool.not_eq_true, List.any_eq_false]
    intro b hb
    simp only [Bool.and_eq_true, decide_eq_true_eq, not_and]
    intro e h1 h2
    exact e (h a b ha (by simpa using hb) h1 h2)
theorem joinP_congr {n : Nat} {f g : Nat → Nat → Bool} (hf : ∀ x y, x < n → y < n → f x y = g x y) {a b : Nat} (ha : a < n) (hb : b < n) : joinP n f a b = joinP n g a b :=
  leastP_congr hf fun k hk => by rw [hf a k ha hk, hf b k hb hk]
theorem flip_congr {n : Nat} {f g : Nat → Nat → Bool} (hf : ∀ x y, x < n → y < n → f x y = g x y) : ∀ x y, x < n → y < n → flipB f x y = flipB g x y := fun x y hx hy => hf y x hy hx
theorem joinsP_congr {n : Nat} {f g : Nat → Nat → Bool} (hf : ∀ x y, x < n → y < n → f x y = g x y) : joinsP n f = joinsP n g := by
  rw [Bool.eq_iff_iff, joinsP_iff, joinsP_iff]
  constructor
  · intro h a b ha hb
    rw [← joinP_congr hf ha hb]; exact h a b ha hb
  · intro h a b ha hb
    rw [joinP_congr hf ha hb]; exact h a b ha hb
theorem circP_congr {n : Nat} {f g : Nat → Nat → Bool} (hf : ∀ x y, x < n → y < n → f x y = g x y) : circP n f = circP n g := by
  cases h : circP n g with
  | false =>
    rw [circP_iff] at h ⊢
    exact fun a b ha hb h1 h2 => h a b ha hb (by rw [← hf a b ha hb]; exact h1) (by rw [← hf b a hb ha]; exact h2)
  | true =>
    cases h2 : circP n f with
    | true => rfl
    | false =>
      rw [circP_iff] at h2
      have : circP n g = false := circP_iff.2 fun a b ha hb h3 h4 => h2 a b ha hb (by rw [hf a b ha hb]; exact h3) (by rw [hf b a hb ha]; exact h4)
      rw [this] at h; cases h
theorem lattP_congr {n : Nat} {f g : Nat → Nat → Bool} (hf : ∀ x y, x < n → y < n → f x y = g x y) : lattP n f = lattP n g := by
  unfold lattP
  rw [circP_congr hf, joinsP_congr hf, joinsP_congr (flip_congr hf)]
theorem joinI_congr {n : Nat} {f g : Nat → Nat → Bool} (hf : ∀ x y, x < n → y < n → f x y = g x y) {a b : Nat} (ha : a < n) (hb : b < n) : joinI n f a b = joinI n g a b := by
  unfold joinI
  rw [joinP_congr hf ha hb]
theorem lowI_congr {n : Nat} {f g : Nat → Nat → Bool} (hf : ∀ x y, x < n → y < n → f x y = g x y) : lowI n f = lowI n g := by
  unfold lowI
  rw [leastP_congr hf fun _ _ => rfl]

/-- A lattice: what its joins are. -/
structure Latt (n : Nat) (f : Nat → Nat → Bool) : Prop where
  anti : ∀ a b, a < n → b < n → f a b = true → f b a = true → a = b
  lt : ∀ a b, a < n → b < n → joinI n f a b < n
  left : ∀ a b, a < n → b < n → f a (joinI n f a b) = true
  right : ∀ a b, a < n → b < n → f b (joinI n f a b) = true
  least : ∀ a b c, a < n → b < n → c < n → f a c = true → f b c = true → f (joinI n f a b) c = true
theorem latt_of {n : Nat} {f : Nat → Nat → Bool} (h1 : circP n f = false) (h2 : joinsP n f = true) : Latt n f := by
  have h : ∀ a b, a < n → b < n → joinI n f a b < n ∧ (f a (joinI n f a b) && f b (joinI n f a b)) = true ∧ ∀ k, k < n → (f a k && f b k) = true → f (joinI n f a b) k = true := by
    intro a b ha hb
    obtain ⟨j, hj⟩ := joinsP_iff.1 h2 a b ha hb
    unfold joinI
    rw [hj]
    exact leastP_some hj
  refine ⟨circP_iff.1 h1, fun a b ha hb => (h a b ha hb).1, fun a b ha hb => ?_, fun a b ha hb => ?_, fun a b c ha hb hc h3 h4 => (h a b ha hb).2.2 c hc (by rw [h3, h4]; rfl)⟩
  · have := (h a b ha hb).2.1
    rw [Bool.and_eq_true] at this
    exact this.1
  · have := (h a b ha hb).2.1
    rw [Bool.and_eq_true] at this
    exact this.2
theorem lattP_iff {n : Nat} {f : Nat → Nat → Bool} : lattP n f = true ↔ circP n f = false ∧ joinsP n f = true ∧ joinsP n (flipB f) = true := by
  unfold lattP
  simp
theorem flip_anti {n : Nat} {f : Nat → Nat → Bool} (h : circP n f = false) : circP n (flipB f) = false := by
  rw [circP_iff] at h ⊢
  exact fun a b ha hb h1 h2 => h a b ha hb h2 h1
/-- Joins of all in a row: the one that all are at most. -/
def foldJ (n : Nat) (f : Nat → Nat → Bool) : Nat → Nat
  | 0 => 0
  | k + 1 => joinI n f (foldJ n f k) k
theorem foldJ_ok {n : Nat} {f : Nat → Nat → Bool} (h : Latt n f) (ht : ∀ x y z, x < n → y < n → z < n → f x y = true → f y z = true → f x z = true) (hn : 0 < n) : ∀ k, k ≤ n → foldJ n f k < n ∧ ∀ x, x < k → f x (foldJ n f k) = true
  | 0, _ => ⟨hn, fun x hx => by omega⟩
  | k + 1, hk => by
    obtain ⟨h1, h2⟩ := foldJ_ok h ht hn k (by omega)
    have h3 := h.lt (foldJ n f k) k h1 (by omega)
    refine ⟨h3, fun x hx => ?_⟩
    rcases Nat.lt_or_ge x k with h4 | h4
    · exact ht x _ _ (by omega) h1 h3 (h2 x h4) (h.left _ _ h1 (by omega))
    · obtain rfl : x = k := by omega
      exact h.right _ _ h1 (by omega)
theorem foldJ_high {n : Nat} {f : Nat → Nat → Bool} (h : Latt n f) (ht : ∀ x y z, x < n → y < n → z < n → f x y = true → f y z = true → f x z = true) (hn : 0 < n) : foldJ n f n = lowI n (flipB f) := by
  obtain ⟨h1, h2⟩ := foldJ_ok h ht hn n (Nat.le_refl _)
  unfold lowI
  rw [leastP_one (f := flipB f) (c := fun _ => true) (fun x y hx hy a b => h.anti x y hx hy b a) h1 rfl fun k hk _ => h2 k hk]
  rfl
theorem low_ok {n : Nat} {f : Nat → Nat → Bool} (h : Latt n f) (ht : ∀ x y z, x < n → y < n → z < n → f x y = true → f y z = true → f x z = true) (hn : 0 < n) : lowI n (flipB f) < n ∧ ∀ x, x < n → f x (lowI n (flipB f)) = true := by
  rw [← foldJ_high h ht hn]
  exact foldJ_ok h ht hn n (Nat.le_refl _)

end Go.Proofs.YtlgfijjkbomejaaGreatDoor
