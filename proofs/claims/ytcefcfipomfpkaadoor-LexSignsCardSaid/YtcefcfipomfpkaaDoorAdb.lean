/- The block of a place in a row. Numbers and types by name. -/
import Derived.Test.YtcefcfipomfpkaaDoorMov
namespace Go.Proofs.YtcefcfipomfpkaaDoor
open Go.RowKit Go.Lib

theorem add_block (a : Addr) (j : Nat) : (a.add j).block = a.block := by unfold Addr.add; split <;> rfl
theorem grow_cell {w w' : World} (hg : Grow w w') {p : Addr} {v : Value} (h : w.cell? p = some v) : w'.cell? p = some v := (World.cell?_of_block (hg.block _ (World.block_lt_of_cell? w _ h))).trans h
theorem reads_low {w : World} {v : Value} {xs : List Value} (h : Reads w v xs) (hne : xs ≠ []) : ∀ a n c, v = .slice (some a) n c → a.block < w.heap.size := by
  intro a n c e
  obtain ⟨ao, c', e', _, _, hc⟩ := h
  rw [e] at e'
  cases e'
  cases xs with
  | nil => exact absurd rfl hne
  | cons x xs =>
    have := World.block_lt_of_cell? w _ (hc a rfl 0 x rfl)
    rwa [add_block] at this

end Go.Proofs.YtcefcfipomfpkaaDoor
