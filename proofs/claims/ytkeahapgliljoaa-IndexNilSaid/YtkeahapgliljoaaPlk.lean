/- Lists of pairs by what stands at their keys: plain facts. Numbers and types by name. -/
import Derived.Test.YtkeahapgliljoaaPap
namespace Go.Proofs.Ytkeahapgliljoaa
open Go.RowKit Go.Lib Go.Sort

/-- What stands at a key, if something does. -/
def look (L : List Prm) (k : ByteArray) : Option ByteArray := (L.find? (fun o => decide (o.key = k))).map Prm.val

theorem findP_look (L : List Prm) (k : ByteArray) : findP L k = match look L k with | none => (⟨#[]⟩, false) | some v => (v, true) := by
  unfold findP look
  cases L.find? (fun o => decide (o.key = k)) <;> rfl
theorem look_cons (o : Prm) (L : List Prm) (k : ByteArray) : look (o :: L) k = if o.key = k then some o.val else look L k := by
  unfold look
  rw [List.find?_cons]
  by_cases h : o.key = k
  · simp [h]
  · simp [h]
theorem look_mem {L : List Prm} {k v : ByteArray} (h : look L k = some v) : ∃ z ∈ L, z.key = k ∧ z.val = v := by
  induction L with
  | nil => cases h
  | cons o L ih =>
    rw [look_cons] at h
    by_cases hk : o.key = k
    · rw [if_pos hk] at h
      exact ⟨o, by simp, hk, Option.some.inj h⟩
    · rw [if_neg hk] at h
      obtain ⟨z, hz, e⟩ := ih h
      exact ⟨z, by simp [hz], e⟩
theorem look_none {L : List Prm} {k : ByteArray} (h : ∀ z ∈ L, z.key ≠ k) : look L k = none := by
  induction L with
  | nil => rfl
  | cons o L ih =>
    rw [look_cons, if_neg (h o (by simp))]
    exact ih fun z hz => h z (by simp [hz])

theorem key_of {a b : Prm} (h : kOf a = kOf b) : a.key = b.key := text_inj' h
theorem kOf_irrefl (a : Prm) : ¬ kOf a < kOf a := List.lt_irrefl _
theorem kOf_asymm {a b : Prm} (h : kOf a < kOf b) : ¬ kOf b < kOf a := fun h2 => List.lt_irrefl _ (List.lt_trans h h2)
theorem kOf_total {a b : Prm} (h1 : ¬ kOf a < kOf b) (h2 : kOf a ≠ kOf b) : kOf b < kOf a := by
  rcases Std.le_iff_lt_or_eq.1 (List.not_lt.1 h1) with h | h
  · exact h
  · exact absurd h.symm h2

theorem look_put (x : Prm) (L : List Prm) (k : ByteArray) : look (putP x L) k = if x.key = k then some x.val else look L k := by
  induction L with
  | nil => rw [putP, look_cons]
  | cons y l ih =>
    unfold putP
    by_cases h1 : kOf y < kOf x
    · rw [if_pos h1, look_cons, look_cons, ih]
      by_cases hy : y.key = k
      · have hx : x.key ≠ k := fun hx => by
          have : kOf y = kOf x := by unfold kOf; rw [hy, hx]
          rw [this] at h1
          exact List.lt_irrefl _ h1
        simp [hy, hx]
      · by_cases hx : x.key = k
        · simp [hy, hx]
        · simp [hy, hx]
    · rw [if_neg h1]
      by_cases h2 : kOf y = kOf x
      · rw [if_pos h2, look_cons, look_cons]
        have hk := key_of h2
        by_cases hx : x.key = k
        · rw [if_pos hx, if_pos hx]
        · rw [if_neg hx, if_neg hx, if_neg (by rw [hk]; exact hx)]
      · rw [if_neg h2, look_cons]
theorem look_filter (a : ByteArray) (L : List Prm) (k : ByteArray) : look (L.filter fun y => !decide (y.key = a)) k = if a = k then none else look L k := by
  induction L with
  | nil => simp [look]
  | cons y l ih =>
    by_cases h : y.key = a
    · rw [List.filter_cons_of_neg (by simp [h]), ih, look_cons]
      by_cases hk : a = k
      · rw [if_pos hk, if_pos hk]
      · rw [if_neg hk, if_neg hk, if_neg (by rw [h]; exact hk)]
    · rw [List.filter_cons_of_pos (by simp [h]), look_cons, look_cons, ih]
      by_cases hy : y.key = k
      · rw [if_pos hy, if_neg (fun e => h (hy.trans e.symm)), if_pos hy]
      · rw [if_neg hy, if_neg hy]

/-- What ops make of what stood at a key. -/
def opAt (k : ByteArray) (d : Option ByteArray) (o : Opm) : Option ByteArray := if o.key = k then (if o.del = true then none else some o.val) else d
def lastO (O : List Opm) (k : ByteArray) (d : Option ByteArray) : Option ByteArray := O.foldl (opAt k) d

theorem look_step (l : List Prm) (o : Opm) (k : ByteArray) : look (stepP l o) k = opAt k (look l k) o := by
  unfold stepP opAt
  by_cases hd : o.del = true
  · rw [if_pos hd, if_pos hd, look_filter]
  · rw [if_neg hd, if_neg hd, look_put]
theorem look_steps (O : List Opm) (l : List Prm) (k : ByteArray) : look (O.foldl stepP l) k = lastO O k (look l k) := by
  induction O generalizing l with
  | nil => rfl
  | cons o O ih =>
    rw [List.foldl_cons, ih, look_step]
    rfl
theorem lastO_append (A B : List Opm) (k : ByteArray) (d : Option ByteArray) : lastO (A ++ B) k d = lastO B k (lastO A k d) := by unfold lastO; rw [List.foldl_append]
theorem lastO_next {O : List Opm} {i : Nat} {o : Opm} (h : O[i]? = some o) (k : ByteArray) (d : Option ByteArray) : lastO (O.take (i + 1)) k d = opAt k (lastO (O.take i) k d) o := by
  rw [take_next h, lastO_append]; rfl
theorem lastO_none {O : List Opm} {k : ByteArray} (h : ∀ o ∈ O, o.key ≠ k) (d : Option ByteArray) : lastO O k d = d := by
  induction O generalizing d with
  | nil => rfl
  | cons o O ih =>
    show lastO O k (opAt k d o) = d
    rw [ih (fun p hp => h p (by simp [hp]))]
    unfold opAt
    rw [if_neg (h o (by simp))]
theorem lastO_some {O : List Opm} {k : ByteArray} (h : ∃ o ∈ O, o.key = k) (d d' : Option ByteArray) : lastO O k d = lastO O k d' := by
  induction O generalizing d d' with
  | nil => obtain ⟨o, ho, _⟩ := h; cases ho
  | cons o O ih =>
    show lastO O k (opAt k d o) = lastO O k (opAt k d' o)
    by_cases hk : o.key = k
    · unfold opAt; rw [if_pos hk, if_pos hk]
    · obtain ⟨p, hp, e⟩ := h
      rcases List.mem_cons.1 hp with rfl | hp
      · exact absurd e hk
      · exact ih ⟨p, hp, e⟩ _ _
theorem lastO_again (O : List Opm) (k : ByteArray) (d : Option ByteArray) : lastO O k (lastO O k d) = lastO O k d := by
  by_cases h : ∃ o ∈ O, o.key = k
  · exact lastO_some h _ _
  · rw [lastO_none (fun o ho e => h ⟨o, ho, e⟩)]
theorem lastO_turn {A B : List Opm} (h : ∀ a ∈ A, ∀ b ∈ B, a.key ≠ b.key) (k : ByteArray) (d : Option ByteArray) : lastO B k (lastO A k d) = lastO A k (lastO B k d) := by
  by_cases hA : ∃ o ∈ A, o.key = k
  · obtain ⟨a, ha, e⟩ := hA
    have hB : ∀ o ∈ B, o.key ≠ k := fun o ho e2 => h a ha o ho (e.trans e2.symm)
    rw [lastO_none hB, lastO_none hB]
  · have hA2 : ∀ o ∈ A, o.key ≠ k := fun o ho e => hA ⟨o, ho, e⟩
    rw [lastO_none hA2, lastO_none hA2]

/-- Keys that rise stay so. -/
theorem mem_put {x y : Prm} {L : List Prm} (h : y ∈ putP x L) : y = x ∨ y ∈ L := by
  induction L with
  | nil => left; simpa [putP] using h
  | cons z l ih =>
    unfold putP at h
    split at h
    · rcases List.mem_cons.1 h with rfl | h
      · right; simp
      · rcases ih h with h | h
        · exact .inl h
        · right; simp [h]
    · split at h
      · rcases List.mem_cons.1 h with h | h
        · exact .inl h
        · right; simp [h]
      · rcases List.mem_cons.1 h with h | h
        · exact .inl h
        · exact .inr h
theorem rise_put (x : Prm) {L : List Prm} (h : Rise L) : Rise (putP x L) := by
  induction L with
  | nil => simp [putP, Rise]
  | cons y l ih =>
    have hy := (List.pairwise_cons.1 h).1
    have hl : Rise l := (List.pairwise_cons.1 h).2
    unfold putP
    by_cases h1 : kOf y < kOf x
    · rw [if_pos h1]
      refine List.Pairwise.cons (fun z hz => ?_) (ih hl)
      rcases mem_put hz with rfl | hz
      · exact h1
      · exact hy z hz
    · rw [if_neg h1]
      by_cases h2 : kOf y = kOf x
      · rw [if_pos h2]
        exact List.Pairwise.cons (fun z hz => by rw [← h2]; exact hy z hz) hl
      · rw [if_neg h2]
        have hxy := kOf_total h1 h2
        refine List.Pairwise.cons (fun z hz => ?_) h
        rcases List.mem_cons.1 hz with rfl | hz
        · exact hxy
        · exact List.lt_trans hxy (hy z hz)
theorem rise_step {l : List Prm} (h : Rise l) (o : Opm) : Rise (stepP l o) := by
  unfold stepP
  split
  · exact List.Pairwise.filter _ h
  · exact rise_put _ h
theorem rise_ops {l : List Prm} (h : Rise l) (O : List Opm) : Rise (O.foldl stepP l) := by
  induction O generalizing l with
  | nil => exact h
  | cons o O ih => exact ih (rise_step h o)
theorem rise_base (L : List Prm) : Rise (baseP L) := by
  have : ∀ (L l : List Prm), Rise l → Rise (L.foldl (fun l x => putP x l) l) := by
    intro L
    induction L with
    | nil => intro l h; exact h
    | cons x L ih => intro l h; exact ih _ (rise_put x h)
  exact this L [] List.Pairwise.nil
theorem rise_apply (L : List Prm) (O : List Opm) : Rise (applyP L O) := rise_ops (rise_base L) O

theorem put_last {x : Prm} {l : List Prm} (h : ∀ y ∈ l, kOf y < kOf x) : putP x l = l ++ [x] := by
  induction l with
  | nil => rfl
  | cons y l ih =>
    unfold putP
    rw [if_pos (h y (by simp)), ih (fun z hz => h z (by simp [hz]))]
    rfl
theorem base_rise {L : List Prm} (h : Rise L) : baseP L = L := by
  have : ∀ (L M : List Prm), Rise (M ++ L) → L.foldl (fun l x => putP x l) M = M ++ L := by
    intro L
    induction L with
    | nil => intro M _; simp
    | cons x L ih =>
      intro M h
      have h1 : ∀ y ∈ M, kOf y < kOf x := fun y hy => (List.pairwise_append.1 h).2.2 y hy x (by simp)
      rw [List.foldl_cons, put_last h1, ih _ (by rw [List.append_assoc]; exact h), List.append_assoc]
      rfl
  exact this L [] (by simpa using h)

/-- A list that rises is told by what stands at the keys. -/
theorem ext_rise {L M : List Prm} (hL : Rise L) (hM : Rise M) (h : ∀ k, look L k = look M k) : L = M := by
  induction L generalizing M with
  | nil =>
    cases M with
    | nil => rfl
    | cons b M =>
      have := h b.key
      rw [look_cons, if_pos rfl] at this
      cases this
  | cons a L ih =>
    cases M with
    | nil =>
      have := h a.key
      rw [look_cons, if_pos rfl] at this
      cases this
    | cons b M =>
      have ha := (List.pairwise_cons.1 hL).1
      have hb := (List.pairwise_cons.1 hM).1
      have hab : a = b := by
        have h1 := h a.key
        have h2 := h b.key
        rw [look_cons, if_pos rfl, look_cons] at h1
        by_cases e : b.key = a.key
        · rw [if_pos e] at h1
          obtain ⟨ak, av⟩ := a
          obtain ⟨bk, bv'⟩ := b
          simp only [Option.some.injEq] at h1 e
          rw [h1, e]
        · exfalso
          rw [if_neg e] at h1
          rw [look_cons, if_neg (fun e2 => e e2.symm), look_cons, if_pos rfl] at h2
          obtain ⟨z, hz, ez, _⟩ := look_mem h1.symm
          obtain ⟨y, hy, ey, _⟩ := look_mem h2
          have k1 : kOf b < kOf a := by have := hb z hz; unfold kOf at *; rw [ez] at this; exact this
          have k2 : kOf a < kOf b := by have := ha y hy; unfold kOf at *; rw [ey] at this; exact this
          exact kOf_asymm k1 k2
      subst hab
      rw [ih (M := M) (List.pairwise_cons.1 hL).2 (List.pairwise_cons.1 hM).2 (fun k => ?_)]
      by_cases e : a.key = k
      · have n1 : ∀ z ∈ L, z.key ≠ k := fun z hz e2 => by
          have := ha z hz
          unfold kOf at this
          rw [e2, e] at this
          exact List.lt_irrefl _ this
        have n2 : ∀ z ∈ M, z.key ≠ k := fun z hz e2 => by
          have := hb z hz
          unfold kOf at this
          rw [e2, e] at this
          exact List.lt_irrefl _ this
        rw [look_none n1, look_none n2]
      · have := h k
        rw [look_cons, look_cons, if_neg e, if_neg e] at this
        exact this

theorem look_apply (L : List Prm) (O : List Opm) (k : ByteArray) : look (applyP L O) k = lastO O k (look (baseP L) k) := look_steps O _ k
theorem applyP_two (L : List Prm) (A B : List Opm) : applyP (applyP L A) B = applyP L (A ++ B) := by
  have h := base_rise (rise_apply L A)
  unfold applyP at *
  rw [h, List.foldl_append]
theorem applyP_again (L : List Prm) (O : List Opm) : applyP (applyP L O) O = applyP L O := by
  refine ext_rise (rise_apply _ _) (rise_apply _ _) fun k => ?_
  rw [look_apply, base_rise (rise_apply L O), look_apply, lastO_again]
theorem applyP_turn {A B : List Opm} (h : ∀ a ∈ A, ∀ b ∈ B, a.key ≠ b.key) (L : List Prm) : applyP (applyP L A) B = applyP (applyP L B) A := by
  refine ext_rise (rise_apply _ _) (rise_apply _ _) fun k => ?_
  rw [look_apply, look_apply, base_rise (rise_apply L A), base_rise (rise_apply L B), look_apply, look_apply, lastO_turn h]

/-- How much they hold. -/
def bulkQ (L : List Prm) : Nat := (L.map fun o => 1 + o.key.size + o.val.size).sum
theorem bulkQ_cons (o : Prm) (L : List Prm) : bulkQ (o :: L) = 1 + o.key.size + o.val.size + bulkQ L := by simp [bulkQ]
theorem bulkQ_put (x : Prm) (L : List Prm) : bulkQ (putP x L) ≤ 1 + x.key.size + x.val.size + bulkQ L := by
  induction L with
  | nil => simp [putP, bulkQ]
  | cons y l ih =>
    unfold putP
    split
    · rw [bulkQ_cons, bulkQ_cons]; omega
    · split
      · rw [bulkQ_cons, bulkQ_cons]; omega
      · rw [bulkQ_cons, bulkQ_cons]; omega
theorem bulkQ_base (L : List Prm) : bulkQ (baseP L) ≤ bulkQ L := by
  have : ∀ (L l : List Prm), bulkQ (L.foldl (fun l x => putP x l) l) ≤ bulkQ l + bulkQ L := by
    intro L
    induction L with
    | nil => intro l; simp [bulkQ]
    | cons x L ih =>
      intro l
      have h1 := ih (putP x l)
      have h2 := bulkQ_put x l
      rw [List.foldl_cons, bulkQ_cons]
      omega
  have := this L []
  have e : bulkQ [] = 0 := rfl
  unfold baseP
  omega
theorem mem_base {y : Prm} {L : List Prm} (h : y ∈ baseP L) : y ∈ L := by
  have : ∀ (L l : List Prm), y ∈ L.foldl (fun l x => putP x l) l → y ∈ l ∨ y ∈ L := by
    intro L
    induction L with
    | nil => intro l h; exact .inl h
    | cons x L ih =>
      intro l h
      rcases ih _ h with h | h
      · rcases mem_put h with rfl | h
        · right; simp
        · exact .inl h
      · right; simp [h]
  rcases this L [] h with h | h
  · cases h
  · exact h
theorem base_length (L : List Prm) : (baseP L).length ≤ L.length := by have := baseP_length L L.length; rwa [List.take_length] at this
theorem apply_length (L : List Prm) (O : List Opm) : (applyP L O).length ≤ L.length + O.length := by have := applyP_length L O O.length; rwa [List.take_length] at this

end Go.Proofs.Ytkeahapgliljoaa
