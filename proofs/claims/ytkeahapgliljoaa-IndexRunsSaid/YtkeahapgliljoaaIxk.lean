/- What is asked of the code's index: contracts over a predicate of its own. Numbers and types by name. -/
import Derived.Test.YtkeahapgliljoaaPlk
import Derived.Test.YtkeahapgliljoaaPrf
import Derived.Test.YtkeahapgliljoaaBeg
import Derived.Test.YtkeahapgliljoaaAdb
namespace Go.Proofs.Ytkeahapgliljoaa
open Go.RowKit Go.Lib

def delP (L : List Prm) (k : ByteArray) : List Prm := L.filter fun y => !decide (y.key = k)
structure Fine (L : List Prm) : Prop where
  rise : Rise L
  len : L.length ≤ 1000
  small : ∀ o ∈ L, o.key.size ≤ 200 ∧ o.val.size ≤ 200
def INext (C : World → Nat → List Prm → List Nat → Prop) (w w' : World) (x : Nat) (L' : List Prm) (F : List Nat) : Prop :=
  ∃ F', C w' x L' F' ∧ (∀ k ∈ F', k ∈ F ∨ w.heap.size ≤ k) ∧ Turn F w w'
def theIx (x : Nat) : Value := .pointer (some ⟨x, 0, none⟩)

structure IxK (C : World → Nat → List Prm → List Nat → Prop) : Prop where
  lt : ∀ {w x L F}, C w x L F → ∀ k ∈ F, k < w.heap.size
  keep : ∀ {w w' x L F G}, C w x L F → Turn G w w' → (∀ k ∈ F, k ∉ G) → C w' x L F
  new : ∀ (n : Int) (w : World), Calls Try.prog 8 #[.int .i64 n] w fun e w' => ∃ x F, e = .returned (theIx x) ∧ C w' x [] F ∧ (∀ k ∈ F, w.heap.size ≤ k) ∧ Turn [] w w'
  put : ∀ {w x L F}, C w x L F → Fine L → ∀ (k v : ByteArray), k.size ≤ 200 → v.size ≤ 200 → Calls Try.prog 10 #[theIx x, .string k, .string v] w fun e w' => e = .returned (.tuple #[]) ∧ INext C w w' x (putP ⟨k, v⟩ L) F
  get : ∀ {w x L F}, C w x L F → Fine L → ∀ (k : ByteArray), k.size ≤ 200 → Calls Try.prog 12 #[theIx x, .string k] w fun e w' => e = .returned (.tuple #[.string (findP L k).1, .bool (findP L k).2]) ∧ Turn [] w w'
  del : ∀ {w x L F}, C w x L F → Fine L → ∀ (k : ByteArray), k.size ≤ 200 → Calls Try.prog 13 #[theIx x, .string k] w fun e w' => e = .returned (.bool (findP L k).2) ∧ INext C w w' x (delP L k) F
  len : ∀ {w x L F}, C w x L F → Fine L → Calls Try.prog 14 #[theIx x] w fun e w' => e = .returned (.int .i64 (L.length : Int)) ∧ Turn [] w w'
  all : ∀ {w x L F}, C w x L F → Fine L → Calls Try.prog 16 #[theIx x] w fun e w' => ∃ ao q c, e = .returned (.slice ao q c) ∧ Prr w' (.slice ao q c) q L ∧ Turn [] w w'

theorem tb9 {w w' : World} (h : Grow w w') : Turn [] w w' := ⟨h.os, h.tape, h.output, h.size, fun k hk _ => h.block k hk⟩
theorem tg9 {w w' : World} (t : Turn [] w w') : Grow w w' := t.below (Nat.le_refl _) (by simp)
theorem Prr.turn {w w' : World} {v : Value} {n : Nat} {L : List Prm} {F : List Nat} (h : Prr w v n L) (t : Turn F w w') (hF : ∀ a, v.ownBlock = some a → a ∉ F) : Prr w' v n L := by
  obtain ⟨h1, h2, ⟨ao, c, e, g0, g1, g2, g3⟩, h4⟩ := h
  refine ⟨h1, h2, ⟨ao, c, e, g0, g1, g2, fun a ha j u hj => ?_⟩, h4⟩
  have hc := g3 a ha j u hj
  have hlt := World.block_lt_of_cell? w _ hc
  rw [add_block] at hlt
  rw [World.cell?_of_block (w := w) (w' := w') (by rw [add_block]; exact t.block _ hlt (hF _ (by rw [e, ha]; rfl)))]
  exact hc

theorem mem_putP {x z : Prm} : ∀ {L : List Prm}, z ∈ putP x L → z = x ∨ z ∈ L
  | [], h => .inl (List.mem_singleton.1 h)
  | y :: l, h => by
    unfold putP at h
    split at h
    · rcases List.mem_cons.1 h with rfl | h
      · exact .inr (by simp)
      · exact (mem_putP h).imp id (List.mem_cons_of_mem _)
    · split at h
      · rcases List.mem_cons.1 h with rfl | h
        · exact .inl rfl
        · exact .inr (List.mem_cons_of_mem _ h)
      · rcases List.mem_cons.1 h with rfl | h
        · exact .inl rfl
        · exact .inr h
theorem Fine.nil : Fine [] := ⟨List.Pairwise.nil, by simp, fun o h => by cases h⟩
theorem Fine.put {L : List Prm} (h : Fine L) (hl : L.length < 1000) {k v : ByteArray} (hk : k.size ≤ 200) (hv : v.size ≤ 200) : Fine (putP ⟨k, v⟩ L) :=
  ⟨rise_put _ h.rise, by have := putP_length ⟨k, v⟩ L; omega, fun o ho => by
    rcases mem_putP ho with rfl | ho
    · exact ⟨hk, hv⟩
    · exact h.small o ho⟩
theorem Fine.del {L : List Prm} (h : Fine L) (k : ByteArray) : Fine (delP L k) :=
  ⟨List.Pairwise.filter _ h.rise, Nat.le_trans (List.length_filter_le _ _) h.len, fun o ho => h.small o (List.mem_filter.1 ho).1⟩
theorem apply_put {L : List Prm} (h : Rise L) (k v : ByteArray) : applyP L [⟨false, k, v⟩] = putP ⟨k, v⟩ L := by
  unfold applyP
  rw [base_rise h]
  rfl
theorem apply_del {L : List Prm} (h : Rise L) (k v : ByteArray) : applyP L [⟨true, k, v⟩] = delP L k := by
  unfold applyP
  rw [base_rise h]
  rfl

end Go.Proofs.Ytkeahapgliljoaa
