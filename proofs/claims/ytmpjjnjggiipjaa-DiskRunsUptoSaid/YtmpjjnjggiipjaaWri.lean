/- 'slices.Sort' at an own row; 'fails', 'write'. Numbers and types by name. -/
import Derived.Test.YtmpjjnjggiipjaaNam
namespace Go.Proofs.Ytmpjjnjggiipjaa
open Go.RowKit Go.Maps Go.Sort

def leI (x y : Int) : Bool := decide (x ≤ y)

theorem sort_int (base : Nat) (ao : Option Addr) (c : Nat) (zs : List Int) (w : World) (hown : w.ownsRow base 3 1 (.slice ao zs.length c) zs.length (iv zs)) (hz : zs.length < 4611686018427387904) :
    Calls Try.prog 41 #[.slice ao zs.length c] w fun e w' => e = .returned (.tuple #[]) ∧ w'.ownsRow base 3 1 (.slice ao zs.length c) zs.length (iv (zs.mergeSort leI)) ∧ Turn (Value.slice ao zs.length c).ownBlock.toList w w' := by
  rcases hown.2 with ⟨h, h0⟩ | ⟨g, cap, cur, h, hb, hg, h1, h2, h3, h4⟩
  · obtain rfl : zs = [] := List.eq_nil_of_length_eq_zero h0
    simp only [Value.slice.injEq] at h
    obtain ⟨rfl, _, rfl⟩ := h
    refine (Try.slices_Sort_int_none none 0 w).mono ?_
    rintro e w' ⟨rfl, hw⟩
    subst hw
    exact ⟨rfl, by simpa [iv] using World.ownsRow_nil _ _ _ _, Turn.refl _ _⟩
  · simp only [Value.slice.injEq] at h
    obtain ⟨rfl, _, rfl⟩ := h
    have hh : Holds (Value.int .i64) w g 0 zs.toArray := by
      intro j hj
      have hj' : j < zs.length := by simpa using hj
      refine ⟨?_, by simp [World.frozen?, hg]⟩
      have e1 : (cur.toList.take zs.length)[j]? = (iv zs)[j]? := by rw [← h4]; simp
      rw [List.getElem?_take_of_lt hj'] at e1
      simp only [World.cell?, hg, Nat.zero_add]
      simp only [Option.isSome_none, Bool.false_eq_true, if_false]
      rw [← Array.getElem?_toList, e1]
      simp [iv, hj']
    refine (Try.slices_Sort_int g 0 c zs w hh (lt_of hg) hz).mono ?_
    rintro e w' ⟨rfl, n, os, rfl⟩
    refine ⟨rfl, ⟨by simp [iv], .inr ⟨g, c, putCells (Value.int .i64) 0 (zs.mergeSort leI).toArray cur, rfl, hb, ?_, h1, h2, by simp [putCells, h3], ?_⟩⟩, ?_⟩
    · have hgl := lt_of hg
      rw [heap_grow_old _ _ (by simpa using hgl)]
      simp [putRow, mapBlock, Sort.ahead, Array.getElem?_modify, hg, onCells]
      rfl
    · have hl : (zs.mergeSort leI).length = zs.length := by simp
      apply List.ext_getElem?
      intro j
      by_cases hj : j < zs.length
      · have hjc : j < cur.size := by omega
        rw [List.getElem?_take_of_lt (by omega), Array.getElem?_toList]
        simp [putCells, iv, hj, hjc]
      · rw [List.getElem?_take_eq_none (by omega), List.getElem?_eq_none (by simp [iv]; omega)]
    · refine ⟨rfl, rfl, rfl, by simp, fun k hk hne => ?_⟩
      rw [heap_grow_old _ _ (by simpa using hk)]
      have : g ≠ k := fun e => hne (by simp [Value.ownBlock, e])
      simp [putRow, mapBlock, Sort.ahead, Array.getElem?_modify, this]

theorem own_ints {w : World} {base : Nat} {ao : Option Addr} {c : Nat} {zs : List Int} (h : w.ownsRow base 3 1 (.slice ao zs.length c) zs.length (iv zs)) :
    (zs = [] ∧ ao = none) ∨ ∃ g, ao = some ⟨g, 0, none⟩ ∧ ∀ j, j < zs.length → w.cell? ⟨g, 0 + j, none⟩ = some (.int .i64 (zs.getD j 0)) := by
  rcases h.2 with ⟨h, h0⟩ | ⟨g, cap, cur, h, hb, hg, h1, h2, h3, h4⟩
  · simp only [Value.slice.injEq] at h
    exact .inl ⟨List.eq_nil_of_length_eq_zero h0, h.1⟩
  · simp only [Value.slice.injEq] at h
    obtain ⟨rfl, _, rfl⟩ := h
    refine .inr ⟨g, rfl, fun j hj => ?_⟩
    have e1 : (cur.toList.take zs.length)[j]? = (iv zs)[j]? := by rw [← h4]; simp
    rw [List.getElem?_take_of_lt hj] at e1
    simp only [World.cell?, hg, Nat.zero_add]
    simp only [Option.isSome_none, Bool.false_eq_true, if_false]
    rw [← Array.getElem?_toList, e1]
    simp [iv, hj]

theorem fails_any (b : Nat) (s : DS) (base : Nat) (ao : Option Addr) (c : Nat) (zs : List Int) (w : World) (hd : DiskC w b s) (hfl : s.fl = .slice ao zs.length c) (hown : w.ownsRow base 3 1 (.slice ao zs.length c) zs.length (iv zs)) (hs : zs.Pairwise (· ≤ ·)) (hz : zs.length < 4611686018427387904) :
    Calls Try.prog 51 #[.pointer (some ⟨b, 0, none⟩)] w fun e w' => e = .returned (.bool (zs.contains s.ca)) ∧ ∃ n, w' = w.drewN n := by
  have c1 := hd.c1
  have c7 := hd.c7
  rw [hfl] at c1
  have hcon : ∀ W : World, (∀ a, W.cell? a = w.cell? a) → Calls Try.prog 56 #[.slice ao zs.length c, .int .i64 s.ca] W fun e w' => e = .returned (.tuple #[.int .i64 (zs.countP (· < s.ca) : Nat), .bool (zs.contains s.ca)]) ∧ ∃ n, w' = W.drewN n := by
    intro W hW
    rcases own_ints hown with ⟨rfl, rfl⟩ | ⟨g, rfl, hc⟩
    · refine (Try.slices_BinarySearch_int_empty none c s.ca W).mono ?_
      rintro e w' ⟨rfl, rfl⟩
      exact ⟨rfl, 0, rfl⟩
    · refine (Try.slices_BinarySearch_int g 0 zs.length c zs s.ca W (Nat.le_refl _) hz (fun j hj => by rw [hW]; exact hc j hj) (by simpa using hs)).mono ?_
      rintro e w' ⟨rfl, n, rfl⟩
      exact ⟨by simp, n, rfl⟩
  clear hd hfl hown hs hz
  generalize zs.contains s.ca = r at *
  generalize zs.countP (· < s.ca) = k at *
  generalize zs.length = len at *
  go_enter Try.func51, Try.ntmps51
  go_wp2
  go_quiet ((go_at_call 56; exact Calls.quiet_of (hcon _ (fun _ => rfl))))
  go_wp2
  go_ret
  exact ⟨rfl, _, rfl⟩

end Go.Proofs.Ytmpjjnjggiipjaa
