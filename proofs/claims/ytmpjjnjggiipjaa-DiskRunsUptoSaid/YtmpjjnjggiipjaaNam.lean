/- 'names': the sorted names of a disk's files; 'shorten'. Numbers and types by name. -/
import Derived.Test.YtmpjjnjggiipjaaBeg
import Derived.Test.YtmpjjnjggiipjaaKeys
import Derived.BigRegion
import Derived.RegionTactic
import Derived.ChangeAlike
namespace Go.Proofs.Ytmpjjnjggiipjaa
open Go.RowKit Go.Maps Go.Sort

theorem grown_of_below {w w' : World} (h : Below w.heap.size w w') : w.grownBy w' none := ⟨h.os, h.tape, h.output, h.size, fun k hk _ => h.block k hk⟩
theorem below_of_grown {w w' : World} (h : w.grownBy w' none) : Below w.heap.size w w' := ⟨h.os, h.tape, h.output, h.size, fun k hk => h.block k hk (by simp)⟩

set_option maxHeartbeats 1000000 in
theorem names_some {H : Type} (b m nn : Nat) (s : DS) (D0 : DataW H) (R : Value → Option (DataW H × List MemPlace)) (w : World) (hd : DiskC w b s) (hs : s.fs = .map (some m)) (hown : w.ownsMap Try.prog 9 R m nn D0)
    (hmax : Maps.size D0 ≤ maxLen) (hbytes : Maps.size D0 * 16 ≤ 140737488355328) :
    Calls Try.prog 37 #[.pointer (some ⟨b, 0, none⟩)] w fun e w' => ∃ (v : Value) (ss : List (List UInt8)), e = .returned v ∧ ss.Perm (strKeys D0) ∧
      w'.ownsRow w.heap.size 9 1 v ss.length ((ss.mergeSort (fun x y => decide (x ≤ y))).map encStr) ∧ (v = .slice none 0 0 ↔ ss = []) ∧ w.grownBy w' none := by
  have c5 := cells_of hd 5 (.map (some m)) (by simp [DS.cells, hs])
  have H1 : Hid (Maps.size D0 ≤ maxLen) := Lib.hid hmax
  have H2 : Hid (Maps.size D0 * 16 ≤ 140737488355328) := Lib.hid hbytes
  clear hmax hbytes hs hd
  go_enter Try.func37, Try.ntmps37
  go_wp2_with (first
    | (go_at_call 53; refine (callsIn_wide.1 (Try.maps_Keys_53 _ _)).mono ?_; rintro e w' ⟨rfl, rfl⟩)
    | (go_at_call 52; refine (callsIn_wide.1 (Try.slices_Sorted_keys_52_53 m nn D0 R w hown H1.out H2.out)).mono ?_; rintro e w' ⟨v, ss, rfl, hS, hrow, hnil, hb⟩))
  go_ret
  exact ⟨v, ss, rfl, hS, owns_base hrow (by simp), hnil, grown_of_below (((Below.refl _ w).alloc (Nat.le_refl _) _).trans (hb.mono (by simp)))⟩

set_option maxHeartbeats 1000000 in
theorem names_none (b : Nat) (s : DS) (w : World) (hd : DiskC w b s) (hs : s.fs = .map none) :
    Calls Try.prog 37 #[.pointer (some ⟨b, 0, none⟩)] w fun e w' => e = .returned (.slice none 0 0) ∧ w.grownBy w' none := by
  have c5 := cells_of hd 5 (.map none) (by simp [DS.cells, hs])
  clear hs hd
  go_enter Try.func37, Try.ntmps37
  go_wp2_with (first
    | (go_at_call 53; refine (callsIn_wide.1 (Try.maps_Keys_53 _ _)).mono ?_; rintro e w' ⟨rfl, rfl⟩)
    | (go_at_call 52; refine (callsIn_wide.1 (Try.slices_Sorted_keys_nil_52_53 w)).mono ?_; rintro e w' ⟨v, ss, rfl, hS, hrow, hnil, hb⟩))
  go_ret
  exact ⟨by rw [hnil.2 hS]; rfl, grown_of_below (((Below.refl _ w).alloc (Nat.le_refl _) _).trans (hb.mono (by simp)))⟩

/-- A file's two cells. -/
def FileC (w : World) (f : Nat) (v : Value) (sy : Int) : Prop := w.heap[f]? = some (.cells #[v, .int .i64 sy] 66 (0, 0))

theorem FileC.c0 {w : World} {f : Nat} {v : Value} {sy : Int} (h : FileC w f v sy) : w.cell? ⟨f, 0, none⟩ = some v := cells_of h 0 _ rfl
theorem FileC.c1 {w : World} {f : Nat} {v : Value} {sy : Int} (h : FileC w f v sy) : w.cell? ⟨f, 1, none⟩ = some (.int .i64 sy) := cells_of h 1 _ rfl
theorem FileC.free {w : World} {f : Nat} {v : Value} {sy : Int} (h : FileC w f v sy) (j : Nat) : w.frozen? ⟨f, j, none⟩ = false := free_of h j
theorem FileC.lt {w : World} {f : Nat} {v : Value} {sy : Int} (h : FileC w f v sy) : f < w.heap.size := lt_of h
theorem FileC.turn {F : List Nat} {w w' : World} {f : Nat} {v : Value} {sy : Int} (h : FileC w f v sy) (t : Turn F w w') (hb : f ∉ F) : FileC w' f v sy := t.heap h hb
theorem FileC.setNe {w : World} {f : Nat} {v : Value} {sy : Int} (h : FileC w f v sy) {c : Nat} (hc : f ≠ c) (j : Nat) (x : Value) : FileC (w.setCell ⟨c, j, none⟩ x) f v sy := heap_set_ne h hc j x
theorem FileC.set0 {w : World} {f : Nat} {v : Value} {sy : Int} (h : FileC w f v sy) (x : Value) : FileC (w.setCell ⟨f, 0, none⟩ x) f x sy := by
  have := heap_set h 0 x
  simpa [FileC] using this
theorem FileC.set1 {w : World} {f : Nat} {v : Value} {sy : Int} (h : FileC w f v sy) (x : Int) : FileC (w.setCell ⟨f, 1, none⟩ (.int .i64 x)) f v x := by
  have := heap_set h 1 (.int .i64 x)
  simpa [FileC] using this

theorem shorten_any (b f : Nat) (s : DS) (ao : Option Addr) (len cap : Nat) (sy : Int) (n : Nat) (w : World) (hd : DiskC w b s) (hf : FileC w f (.slice ao len cap) sy) (hn : n ≤ len) (hc : len ≤ cap) (_hm : cap ≤ 9223372036854775807) (hne : b ≠ f)
    (hs0 : (len : Int) - n ≤ s.sz) (hs1 : s.sz ≤ 9223372036854775807) :
    Calls Try.prog 38 #[.pointer (some ⟨b, 0, none⟩), .pointer (some ⟨f, 0, none⟩), .int .i64 n] w fun e w' => e = .returned (.tuple #[]) ∧
      DiskC w' b { s with sz := s.sz - (len - n) } ∧ FileC w' f (.slice ao n cap) (min sy n) ∧ Turn [b, f] w w' := by
  have d6 := hd.c6
  have e6 := hd.free 6
  have f0 := cells_of hf 0 (.slice ao len cap) rfl
  have f1 := cells_of hf 1 (.int .i64 sy) rfl
  have g0 := free_of hf 0
  have g1 := free_of hf 1
  have hne' : ¬ b = f := hne
  have hne2 : ¬ f = b := fun h => hne h.symm
  go_enter Try.func38, Try.ntmps38
  go_wp2
  go_region
  all_goals go_wp2
  all_goals go_end0
  have k1 : DiskC (w.setCell ⟨b, 6, none⟩ (.int .i64 (s.sz - (len - n)))) b { s with sz := s.sz - (len - n) } := hd.set6 _
  have k2 : FileC (w.setCell ⟨b, 6, none⟩ (.int .i64 (s.sz - (len - n)))) f (.slice ao len cap) sy := hf.setNe hne2 _ _
  exact ⟨rfl, (k1.setNe hne 0 _).setNe hne 1 _, (k2.set0 _).set1 _, ((((Turn.refl _ _).set (.inl (by simp)) _ _).set (.inl (by simp)) _ _).set (.inl (by simp)) _ _).drew⟩

end Go.Proofs.Ytmpjjnjggiipjaa
