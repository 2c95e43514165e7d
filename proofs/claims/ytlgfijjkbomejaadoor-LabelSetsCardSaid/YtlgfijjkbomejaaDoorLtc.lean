/- Own tables: rows that are pushed, put, read. Numbers and types by name. -/
import Derived.Test.YtlgfijjkbomejaaDoorLtb
namespace Go.Proofs.YtlgfijjkbomejaaDoor
open Go.RowKit Go.Lib
set_option maxRecDepth 100000

/-- An own table: an outer row of rows, all in blocks of their own. -/
structure TabO (w : World) (base : Nat) (eo ei : TypeId) (v : Value) (n : Nat) (vs : List Value) (X : List (List Value)) : Prop where
  outer : w.ownsRow base eo 1 v n vs
  len : X.length = n
  row : ∀ (i : Nat) (vi : Value) (xi : List Value), vs[i]? = some vi → X[i]? = some xi → w.ownsRow base ei 1 vi xi.length xi
  sep : ∀ (i j : Nat) (vi vj : Value) (b : Nat), i < j → vs[i]? = some vi → vs[j]? = some vj → vi.ownBlock = some b → vj.ownBlock ≠ some b
theorem TabO.vlen {w : World} {base : Nat} {eo ei : TypeId} {v : Value} {n : Nat} {vs : List Value} {X : List (List Value)} (h : TabO w base eo ei v n vs X) : vs.length = n := by
  have := h.outer.1
  simpa using this
theorem TabO.nil (w : World) (base : Nat) (eo ei : TypeId) : TabO w base eo ei (.slice none 0 0) 0 [] [] :=
  ⟨World.ownsRow_nil _ _ _ _, rfl, fun i vi xi h => by simp at h, fun i j vi vj b _ h => by simp at h⟩
theorem own_later {w w' : World} {base e size : Nat} {v : Value} {n : Nat} {xs : List Value} (h : w.ownsRow base e size v n xs) (hg : Grow w w') : w'.ownsRow base e size v n xs := own_chg (F := []) h (Chg.of_below hg) (by simp)
theorem TabO.later {w w' : World} {base : Nat} {eo ei : TypeId} {v : Value} {n : Nat} {vs : List Value} {X : List (List Value)} (h : TabO w base eo ei v n vs X) (hg : Grow w w') : TabO w' base eo ei v n vs X :=
  ⟨own_later h.outer hg, h.len, fun i vi xi h1 h2 => own_later (h.row i vi xi h1 h2) hg, h.sep⟩
/-- What is pushed: a row that is newer than all, or has no block. -/
theorem TabO.push {w w6 : World} {base : Nat} {eo ei : TypeId} (he : eo ≠ ei) {v v6 vr : Value} {n : Nat} {vs : List Value} {X : List (List Value)} {xr : List Value} (h : TabO w base eo ei v n vs X)
    (hr : w.ownsRow base ei 1 vr xr.length xr) (hnew : ∀ (i : Nat) (vi : Value) (b : Nat), vs[i]? = some vi → vi.ownBlock = some b → vr.ownBlock ≠ some b)
    (h6 : w6.ownsRow base eo 1 v6 (n + 1) (vs ++ [vr])) (hg6 : w.grownBy w6 v.ownBlock) : TabO w6 base eo ei v6 (n + 1) (vs ++ [vr]) (X ++ [xr]) := by
  have hc : Chg (rowF v) w w6 := Chg.of_grown hg6 fun k hk => rowF_mem.2 hk
  have hvl := h.vlen
  have hap : ∀ (vi : Value) (xi : List Value), w.ownsRow base ei 1 vi xi.length xi → ∀ k, vi.ownBlock = some k → k ∉ rowF v := fun vi xi hi k hk hm => owns_apart hi h.outer (fun e => he e.symm) k hk (rowF_mem.1 hm)
  refine ⟨h6, by simp [h.len], fun i vi xi h1 h2 => ?_, fun i j vi vj b hij h1 h2 hb => ?_⟩
  · rcases Nat.lt_trichotomy i n with hi | hi | hi
    · rw [List.getElem?_append_left (by omega)] at h1
      rw [List.getElem?_append_left (by rw [h.len]; exact hi)] at h2
      have h3 := h.row i vi xi h1 h2
      exact own_chg h3 hc (hap vi xi h3)
    · subst hi
      rw [List.getElem?_append_right (by omega), hvl, Nat.sub_self] at h1
      rw [List.getElem?_append_right (by rw [h.len]; exact Nat.le_refl _), h.len, Nat.sub_self] at h2
      simp only [List.getElem?_cons_zero, Option.some.injEq] at h1 h2
      subst h1 h2
      exact own_chg hr hc (hap _ _ hr)
    · rw [List.getElem?_eq_none (by simp [hvl]; omega)] at h1
      cases h1
  · have hj : j ≤ n := by
      have := (List.getElem?_eq_some_iff.1 h2).1
      simp [hvl] at this
      omega
    rw [List.getElem?_append_left (by omega)] at h1
    rcases Nat.lt_or_ge j n with hj2 | hj2
    · rw [List.getElem?_append_left (by omega)] at h2
      exact h.sep i j vi vj b hij h1 h2 hb
    · rw [List.getElem?_append_right (by omega), hvl, show j - n = 0 by omega] at h2
      simp only [List.getElem?_cons_zero, Option.some.injEq] at h2
      subst h2
      exact hnew i vi b h1 hb
/-- A row's block is older than the memory's end. -/
theorem TabO.lt {w : World} {base : Nat} {eo ei : TypeId} {v : Value} {n : Nat} {vs : List Value} {X : List (List Value)} (h : TabO w base eo ei v n vs X) {i : Nat} {vi : Value} {b : Nat} (h1 : vs[i]? = some vi) (hb : vi.ownBlock = some b) : base ≤ b ∧ b < w.heap.size := by
  have hi : i < X.length := by
    have := (List.getElem?_eq_some_iff.1 h1).1
    rw [h.len, ← h.vlen]
    exact this
  exact (h.row i vi _ h1 (List.getElem?_eq_getElem hi)).lt b hb
theorem TabO.tab {w : World} {base : Nat} {eo ei : TypeId} {v : Value} {n m : Nat} {vs : List Value} {g : Nat → Nat → Value} (h : TabO w base eo ei v n vs ((List.range n).map fun i => (List.range m).map (g i))) : TabV w v n m g := by
  refine ⟨vs, Cells.own h.outer (by decide), fun i vi hi => ?_⟩
  have hl : i < n := by
    have := (List.getElem?_eq_some_iff.1 hi).1
    rw [h.vlen] at this
    exact this
  have := h.row i vi ((List.range m).map (g i)) hi (by rw [List.getElem?_map, List.getElem?_range hl]; rfl)
  have h2 := Cells.own this (by decide)
  simpa using h2
theorem TabO.tabL {w : World} {base : Nat} {eo ei : TypeId} {v : Value} {n m : Nat} {vs : List Value} {g : Nat → Nat → Value} (h : TabO w base eo ei v n vs ((List.range n).map fun i => (List.range m).map (g i))) : TabL base w v n m g := by
  refine ⟨vs, Cells.own h.outer (by decide), own_low h.outer, fun i vi hi => ?_⟩
  have hl : i < n := by
    have := (List.getElem?_eq_some_iff.1 hi).1
    rw [h.vlen] at this
    exact this
  have := h.row i vi ((List.range m).map (g i)) hi (by rw [List.getElem?_map, List.getElem?_range hl]; rfl)
  have h2 := Cells.own this (by decide)
  exact ⟨by simpa using h2, own_low this⟩
/-- An own table of orders, row by row. -/
theorem TabO.mat {w : World} {base : Nat} {v : Value} {n : Nat} {vs : List Value} {f : Nat → Nat → Bool} (h : TabO w base 38 4 v n vs ((List.range n).map fun i => rowB n (f i))) (hn : 0 < n) :
    ∃ O C R cp, v = .slice (some ⟨O, 0, none⟩) n C ∧ Mat w base O C n R cp f := by
  have hvl := h.vlen
  have hX : ∀ i, i < n → ((List.range n).map fun i => rowB n (f i))[i]? = some (rowB n (f i)) := fun i hi => by rw [List.getElem?_map, List.getElem?_range hi]; rfl
  have hrow : ∀ (i : Nat) (vi : Value), i < n → vs[i]? = some vi → w.ownsRow base 4 1 vi n (rowB n (f i)) := fun i vi hi h1 => by
    have := h.row i vi _ h1 (hX i hi)
    rw [rowB_length] at this
    exact this
  have hsl : ∀ i, i < n → ∃ r c, vs[i]? = some (.slice (some ⟨r, 0, none⟩) n c) := fun i hi => by
    have h1 : vs[i]? = some (vs[i]'(by omega)) := List.getElem?_eq_getElem (by omega)
    have h2 := hrow i _ hi h1
    rcases h2.2 with ⟨_, h0⟩ | ⟨r, c, _, e, _⟩
    · omega
    · exact ⟨r, c, by rw [h1, e]⟩
  have hO : ∃ O C, v = .slice (some ⟨O, 0, none⟩) n C ∧ n ≤ C ∧ ∀ (j : Nat) (u : Value), vs[j]? = some u → w.cell? ⟨O, j, none⟩ = some u := by
    rcases h.outer.2 with ⟨_, h0⟩ | ⟨O, C, cur, e, _, hg, hc, _, _, ht⟩
    · omega
    · refine ⟨O, C, e, hc, fun j u hj => ?_⟩
      have h1 := h.outer
      rw [e] at h1
      exact (own_cell h1 hj).1
  obtain ⟨O, C, e, hnC, hcell⟩ := hO
  refine ⟨O, C, fun i => (if hi : i < n then (Classical.choose (hsl i hi)) else 0), fun i => (if hi : i < n then (Classical.choose (Classical.choose_spec (hsl i hi))) else 0), e, hnC, fun i hi => ?_, fun i hi => ?_, fun i j hi hj hij => ?_, fun i hi => ?_⟩
  · simp only [dif_pos hi]
    exact hcell i _ (Classical.choose_spec (Classical.choose_spec (hsl i hi)))
  · simp only [dif_pos hi]
    exact hrow i _ hi (Classical.choose_spec (Classical.choose_spec (hsl i hi)))
  · simp only [dif_pos hi, dif_pos hj] at hij
    have h1 := Classical.choose_spec (Classical.choose_spec (hsl i hi))
    have h2 := Classical.choose_spec (Classical.choose_spec (hsl j hj))
    rcases Nat.lt_trichotomy i j with h3 | h3 | h3
    · exact absurd (by simp only [Value.ownBlock]; rw [hij]) (h.sep i j _ _ _ h3 h1 h2 rfl)
    · exact h3
    · exact absurd (by simp only [Value.ownBlock]; rw [hij]) (h.sep j i _ _ _ h3 h2 h1 rfl)
  · simp only [dif_pos hi]
    have h1 := Classical.choose_spec (Classical.choose_spec (hsl i hi))
    have h2 := hrow i _ hi h1
    intro e2
    have h3 := h.outer
    rw [e] at h3
    exact owns_apart h2 h3 (by decide) _ rfl (by simp only [Value.ownBlock]; rw [e2])

/-- A row that was appended to is put back. -/
theorem TabO.put {w w8 : World} {base O C : Nat} {eo ei : TypeId} (he : eo ≠ ei) {vi v8 : Value} {n i : Nat} {vs : List Value} {X : List (List Value)} {xi x8 : List Value} (h : TabO w base eo ei (.slice (some ⟨O, 0, none⟩) n C) n vs X)
    (h1 : vs[i]? = some vi) (h2 : X[i]? = some xi) (h8 : w8.ownsRow base ei 1 v8 x8.length x8) (hg8 : w.grownBy w8 vi.ownBlock) (ho8 : v8.ownBlock = vi.ownBlock ∨ v8.ownBlock = some w.heap.size) :
    TabO (w8.setCell ⟨O, i, none⟩ v8) base eo ei (.slice (some ⟨O, 0, none⟩) n C) n (vs.set i v8) (X.set i x8) := by
  have hc : Chg (rowF vi) w w8 := Chg.of_grown hg8 fun k hk => rowF_mem.2 hk
  have hri := h.row i vi xi h1 h2
  have hout8 : w8.ownsRow base eo 1 (.slice (some ⟨O, 0, none⟩) n C) n vs := own_chg h.outer hc fun k hk hm => owns_apart hri h.outer (fun e => he e.symm) k (rowF_mem.1 hm) hk
  have hcO : Chg [O] w8 (w8.setCell ⟨O, i, none⟩ v8) := (Chg.refl _ w8).set (.inl (by simp)) _ _
  have hneO : ∀ (vj : Value) (xj : List Value), w8.ownsRow base ei 1 vj xj.length xj → ∀ k, vj.ownBlock = some k → k ∉ [O] := fun vj xj hj k hk hm => by
    simp only [List.mem_singleton] at hm
    subst hm
    exact owns_apart hj hout8 (fun e => he e.symm) k hk rfl
  have hil : i < vs.length := (List.getElem?_eq_some_iff.1 h1).1
  refine ⟨own_setV hout8 i v8, by rw [List.length_set]; exact h.len, fun j vj xj h3 h4 => ?_, fun j k vj vk b hjk h3 h4 hb => ?_⟩
  · by_cases e : i = j
    · subst e
      rw [List.getElem?_set_self hil] at h3
      rw [List.getElem?_set_self (by rw [h.len, ← h.vlen]; exact hil)] at h4
      cases h3; cases h4
      exact own_chg h8 hcO (hneO _ _ h8)
    · rw [List.getElem?_set_ne e] at h3 h4
      have h5 := h.row j vj xj h3 h4
      have h6 := own_chg h5 hc fun k hk hm => by
        have hm2 := rowF_mem.1 hm
        rcases Nat.lt_trichotomy i j with h7 | h7 | h7
        · exact h.sep i j vi vj k h7 h1 h3 hm2 hk
        · exact e h7
        · exact h.sep j i vj vi k h7 h3 h1 hk hm2
      exact own_chg h6 hcO (hneO _ _ h6)
  · by_cases e1 : i = j
    · subst e1
      rw [List.getElem?_set_self hil] at h3
      rw [List.getElem?_set_ne (by omega)] at h4
      cases h3
      rcases ho8 with h9 | h9
      · exact h.sep i k vi vk b hjk h1 h4 (by rw [← h9]; exact hb)
      · intro h10
        have := (h.lt h4 h10).2
        rw [h9] at hb
        cases hb
        omega
    · rw [List.getElem?_set_ne e1] at h3
      by_cases e2 : i = k
      · subst e2
        rw [List.getElem?_set_self hil] at h4
        cases h4
        rcases ho8 with h9 | h9
        · rw [h9]
          exact h.sep j i vj vi b hjk h3 h1 hb
        · intro h10
          have := (h.lt h3 hb).2
          rw [h9] at h10
          cases h10
          omega
      · rw [List.getElem?_set_ne e2] at h4
        exact h.sep j k vj vk b hjk h3 h4 hb
theorem TabO.seen {w w8 : World} {base O C : Nat} {eo ei : TypeId} (he : eo ≠ ei) {vi : Value} {n i : Nat} {vs : List Value} {X : List (List Value)} {xi : List Value} (h : TabO w base eo ei (.slice (some ⟨O, 0, none⟩) n C) n vs X)
    (h1 : vs[i]? = some vi) (h2 : X[i]? = some xi) (hg8 : w.grownBy w8 vi.ownBlock) : w8.cell? ⟨O, i, none⟩ = some vi ∧ w8.frozen? ⟨O, i, none⟩ = false := by
  have hc : Chg (rowF vi) w w8 := Chg.of_grown hg8 fun k hk => rowF_mem.2 hk
  have hri := h.row i vi xi h1 h2
  have hout8 : w8.ownsRow base eo 1 (.slice (some ⟨O, 0, none⟩) n C) n vs := own_chg h.outer hc fun k hk hm => owns_apart hri h.outer (fun e => he e.symm) k (rowF_mem.1 hm) hk
  exact own_cell hout8 h1
/-- A new table of rows that have nothing. -/
theorem TabO.blank {w : World} {base : Nat} {eo ei : TypeId} {v : Value} {n : Nat} (h : w.ownsRow base eo 1 v n (List.replicate n (.slice none 0 0))) : TabO w base eo ei v n (List.replicate n (.slice none 0 0)) (List.replicate n []) := by
  refine ⟨h, by simp, fun i vi xi h1 h2 => ?_, fun i j vi vj b _ h1 h2 hb => ?_⟩
  · have e1 := List.eq_of_mem_replicate (List.mem_of_getElem? h1)
    have e2 := List.eq_of_mem_replicate (List.mem_of_getElem? h2)
    subst e1 e2
    exact World.ownsRow_nil _ _ _ _
  · have e1 := List.eq_of_mem_replicate (List.mem_of_getElem? h1)
    subst e1
    cases hb
/-- Rows as far as (b, a): those ahead of b whole, b's as far as a. -/
def partR (n b a : Nat) (g : Nat → Nat → Value) : List (List Value) := (List.range n).map fun i => if i < b then (List.range n).map (g i) else if i = b then (List.range a).map (g i) else []
theorem partR_at {n b a i : Nat} {g : Nat → Nat → Value} (hi : i < n) : (partR n b a g)[i]? = some (if i < b then (List.range n).map (g i) else if i = b then (List.range a).map (g i) else []) := by
  unfold partR
  rw [List.getElem?_map, List.getElem?_range hi]
  rfl
theorem partR_here {n b a : Nat} {g : Nat → Nat → Value} (hb : b < n) : (partR n b a g)[b]? = some ((List.range a).map (g b)) := by
  rw [partR_at hb, if_neg (by omega), if_pos rfl]
theorem partR_start (n : Nat) (g : Nat → Nat → Value) : List.replicate n [] = partR n 0 0 g := by
  apply List.ext_getElem?
  intro i
  by_cases hi : i < n
  · rw [partR_at hi]
    simp [hi]
  · rw [List.getElem?_eq_none (by simp; omega), List.getElem?_eq_none (by simp [partR]; omega)]
theorem rows_snoc' {α : Type} (k : Nat) (g : Nat → α) : (List.range (k + 1)).map g = (List.range k).map g ++ [g k] := by rw [List.range_succ, List.map_append]; rfl
theorem partR_set {n b a : Nat} {g : Nat → Nat → Value} (_hb : b < n) : (partR n b a g).set b ((List.range a).map (g b) ++ [g b a]) = partR n b (a + 1) g := by
  apply List.ext_getElem?
  intro i
  by_cases hi : i < n
  · by_cases e : b = i
    · subst e
      rw [List.getElem?_set_self (by simp [partR]; exact hi), partR_here hi, rows_snoc']
    · rw [List.getElem?_set_ne e, partR_at hi, partR_at hi]
      congr 1
      split
      · rfl
      · rw [if_neg (by omega), if_neg (by omega)]
  · rw [List.getElem?_eq_none (by simp [partR]; omega), List.getElem?_eq_none (by simp [partR]; omega)]
theorem partR_next (n b : Nat) (g : Nat → Nat → Value) : partR n b n g = partR n (b + 1) 0 g := by
  unfold partR
  refine List.map_congr_left fun i _ => ?_
  by_cases h1 : i < b
  · rw [if_pos h1, if_pos (by omega)]
  · rw [if_neg h1]
    by_cases h2 : i = b
    · rw [if_pos h2, if_pos (by omega)]
    · rw [if_neg h2, if_neg (by omega)]
      split <;> simp
theorem partR_end (n : Nat) (g : Nat → Nat → Value) : partR n n 0 g = (List.range n).map fun i => (List.range n).map (g i) := by
  unfold partR
  refine List.map_congr_left fun i hi => ?_
  rw [if_pos (by simpa using hi)]

/-- The rows of a function, one more. -/
theorem rows_snoc {α : Type} (k : Nat) (g : Nat → α) : (List.range (k + 1)).map g = (List.range k).map g ++ [g k] := by rw [List.range_succ, List.map_append]; rfl

end Go.Proofs.YtlgfijjkbomejaaDoor
