/- What a tied card's condition gives: the table of powers lies as the program's text lays it; and a world in which it does. Numbers and types by name. -/
import Derived.Test.YthacjeeafnblmaaGreatDoorWaw
import Derived.Test.YthacjeeafnblmaaGreatDoorDig
import Derived.Test.YthacjeeafnblmaaGreatDoorFls
import Derived.Test.YthacjeeafnblmaaGreatDoorRows
import Derived.Test.YthacjeeafnblmaaGreatDoorCen
import Derived.ProofKit
import Derived.LaidMore
import Derived.Stop.LaidErr
/- Lists of lists of ops that a law appends to. Numbers and types by name. -/
namespace Go.Proofs.YthacjeeafnblmaaGreatDoor
open Go.RowKit Go.Lib

/-- A row of a law's own, new since base, of lists of ops that came in. -/
def Wl (w0 w : World) (base : Nat) (v : Value) (n : Nat) (LL : List (List Opm)) : Prop :=
  n = LL.length ∧ ∃ vs : List Value, w.ownsRow base 49 1 v n vs ∧ OpVals w0 vs LL
theorem Wl.nil (w0 w : World) (base : Nat) : Wl w0 w base (.slice none 0 0) 0 [] := ⟨rfl, [], World.ownsRow_nil _ _ _ _, rfl, fun j p h => by cases h⟩
theorem Wl.obs {w0 w : World} {base : Nat} {v : Value} {n : Nat} {LL : List (List Opm)} (h : Wl w0 w base v n LL) (hg : Grow w0 w) (hn : n ≤ maxLen) : Obs w v n LL := by
  obtain ⟨h1, vs, h2, h3⟩ := h
  have hl : vs.length = n := by have := h2.1; omega
  exact ⟨h1, hn, vs, Reads.own (by rw [hl]; exact h2), hl, h3.later hg⟩
theorem Wl.shape {w0 w : World} {base : Nat} {v : Value} {n : Nat} {LL : List (List Opm)} (h : Wl w0 w base v n LL) : ∃ ao c, v = .slice ao n c := by
  obtain ⟨_, vs, h2, _⟩ := h
  exact owns_shape h2
theorem Wl.turn {w0 w w' : World} {base : Nat} {v : Value} {n : Nat} {LL : List (List Opm)} {H : List Nat} (h : Wl w0 w base v n LL) (t : Turn H w w') (hH : ∀ g, v.ownBlock = some g → g ∉ H) : Wl w0 w' base v n LL := by
  obtain ⟨h1, vs, h2, h3⟩ := h
  exact ⟨h1, vs, owns_turn h2 t hH, h3⟩
theorem OpVals.snoc {w : World} {vs : List Value} {LL : List (List Opm)} (h : OpVals w vs LL) {a : Option Addr} {k c : Nat} {L : List Opm} (hO : Opr w (.slice a k c) k L) : OpVals w (vs ++ [.slice a k c]) (LL ++ [L]) := by
  refine ⟨by rw [List.length_append, List.length_append, h.1]; rfl, fun i M hi => ?_⟩
  by_cases hlt : i < LL.length
  · rw [List.getElem?_append_left hlt] at hi
    rw [List.getElem?_append_left (by rw [h.1]; exact hlt)]
    exact h.2 i M hi
  · have hi2 := (List.getElem?_eq_some_iff.1 hi).1
    rw [List.length_append, List.length_singleton] at hi2
    obtain rfl : i = LL.length := by omega
    rw [List.getElem?_append_right (Nat.le_refl _), Nat.sub_self] at hi
    obtain rfl : L = M := by simpa using hi
    have hk := hO.1
    subst hk
    refine ⟨a, c, ?_, hO⟩
    rw [List.getElem?_append_right (by rw [h.1]; omega), h.1, Nat.sub_self]
    rfl
theorem Wl.snoc {w0 w' : World} {base : Nat} {v' : Value} {n : Nat} {LL : List (List Opm)} {vs : List Value} (h1 : n = LL.length) (h3 : OpVals w0 vs LL) {a : Option Addr} {k c : Nat} {L : List Opm} (hO : Opr w0 (.slice a k c) k L) (hown : w'.ownsRow base 49 1 v' (n + 1) (vs ++ [.slice a k c])) : Wl w0 w' base v' (n + 1) (LL ++ [L]) :=
  ⟨by rw [List.length_append, h1]; rfl, _, hown, h3.snoc hO⟩

/-- A step that touches only what stays, and makes new blocks. -/
theorem Sol.grown {X Y : Nat → Prop} {w w' : World} {base b q : Nat} {M : MD} {n : Nat} {s : Bool} {H : List Nat} (h : Sol X w base b q M n s) (t : Turn H w w') (hH : ∀ k ∈ H, X k) (hY : ∀ k, Y k → X k ∨ w.heap.size ≤ k ∧ k < w'.heap.size) : Sol Y w' base b q M n s := by
  obtain ⟨h1, h0, F, h2, h3⟩ := h
  have hq := h2.lt
  refine ⟨fun k hk => ?_, fun hy => ?_, F, h2.keep t (fun hm => h0 (hH q hm)) (fun k hk hm => h3 k hk (hH k hm)), fun k hk hy => ?_⟩
  · rcases hY k hk with h | h
    · exact Nat.lt_of_lt_of_le (h1 k h) t.size
    · exact h.2
  · rcases hY q hy with h | h
    · exact h0 h
    · omega
  · rcases hY k hy with h | h
    · exact h3 k hk h
    · have := (h2.1.lt k hk).2; omega
theorem owns_stays {X : Nat → Prop} {w w' : World} {base e size : Nat} {v : Value} {n : Nat} {xs : List Value} (h : w.ownsRow base e size v n xs) (hs : Stays X w w') (hX : ∀ g, v.ownBlock = some g → X g) : w'.ownsRow base e size v n xs := by
  obtain ⟨h1, h2 | ⟨g, cap, cur, e1, hb, hg, hr⟩⟩ := h
  · exact ⟨h1, .inl h2⟩
  · refine ⟨h1, .inr ⟨g, cap, cur, e1, hb, ?_, hr⟩⟩
    rw [hs.2 g (hX g (by rw [e1]; rfl))]
    exact hg
theorem Wl.stays {X : Nat → Prop} {w0 w w' : World} {base : Nat} {v : Value} {n : Nat} {LL : List (List Opm)} (h : Wl w0 w base v n LL) (hs : Stays X w w') (hX : ∀ g, v.ownBlock = some g → X g) : Wl w0 w' base v n LL := by
  obtain ⟨h1, vs, h2, h3⟩ := h
  exact ⟨h1, vs, owns_stays h2 hs hX, h3⟩
theorem Wl.lt {w0 w : World} {base : Nat} {v : Value} {n : Nat} {LL : List (List Opm)} (h : Wl w0 w base v n LL) : ∀ g, v.ownBlock = some g → base ≤ g ∧ g < w.heap.size := by
  obtain ⟨h1, vs, h2, h3⟩ := h
  exact fun g hg => h2.lt g hg
theorem Wl.one {w0 w' : World} {base : Nat} {v' : Value} {a : Option Addr} {k c : Nat} {L : List Opm} (hO : Opr w0 (.slice a k c) k L) (hown : w'.ownsRow base 49 1 v' 1 ([] ++ [.slice a k c])) : Wl w0 w' base v' 1 [L] :=
  Wl.snoc (LL := []) (vs := []) rfl ⟨rfl, fun j p h => by cases h⟩ hO hown
theorem Wl.two {w0 w' : World} {base : Nat} {v' : Value} {a a2 : Option Addr} {k c k2 c2 : Nat} {L L2 : List Opm} (hO : Opr w0 (.slice a k c) k L) (hO2 : Opr w0 (.slice a2 k2 c2) k2 L2) (hown : w'.ownsRow base 49 1 v' 2 (([] ++ [.slice a k c]) ++ [.slice a2 k2 c2])) : Wl w0 w' base v' 2 [L, L2] := by
  have h0 : OpVals w0 [] [] := ⟨rfl, fun j p h => by cases h⟩
  exact Wl.snoc (LL := [L]) (vs := [] ++ [.slice a k c]) rfl (h0.snoc hO) hO2 hown
/-- The row's block. -/
def rowOf (v : Value) (k : Nat) : Prop := v.ownBlock = some k
theorem row_turn {w w' : World} {v : Value} (hg : w.grownBy w' v.ownBlock) : Turn v.ownBlock.toList w w' := Turn.of_grown hg fun k hk => by simp [hk]

theorem room_mid : Room 26000 200 := ⟨by decide, by decide⟩
theorem stays_two {N : Nat} {a b c : World} (h : Below N a b) (hs : Stays (· < N) b c) : Below N a c := Below.trans h hs.below

theorem right_at (v : Value) (n : Nat) (L : List Opm) (w : World) (hr : Opr w v n L) :
    Calls Tryz.prog 24 #[v] w fun e w' => e = .returned (.bool (okOps L)) ∧ w = w' := (right_ref v n L w hr).mono fun _ _ h => ⟨h.1, h.2.symm⟩
theorem size_at (b q : Nat) (n : Nat) (s : Bool) (w : World) (h : CO w b q n s) :
    Calls Tryz.prog 22 #[.pointer (some ⟨q, 0, none⟩)] w fun e w' => e = .returned (.int .i64 (n : Int)) ∧ w = w' := (wal_size b q n s w h).mono fun _ _ h => ⟨h.1, h.2.symm⟩
theorem sick_at (b q : Nat) (n : Nat) (s : Bool) (w : World) (h : CO w b q n s) :
    Calls Tryz.prog 19 #[.pointer (some ⟨q, 0, none⟩)] w fun e w' => e = .returned (.bool s) ∧ w = w' := (wal_sick b q n s w h).mono fun _ _ h => ⟨h.1, h.2.symm⟩

/-- A commit on a calm disk, whatever room it has, behind whole batches. -/
theorem Calm.tries {M : MD} {LL : List (List Opm)} {s : Nat} (h : Calm M (EB LL) s) {L : List Opm} (hok : okOps L = true) {f : Bool} (hf : f = decide (((EB LL).length : Int) + (frms (recs L)).length ≤ M.cap)) :
    ∃ s', (commitP M (EB LL).length false L).e = (if f = true then 0 else 5) ∧ (commitP M (EB LL).length false L).n = (EB (if f = true then LL ++ [L] else LL)).length ∧ (commitP M (EB LL).length false L).s = false ∧
      Calm (commitP M (EB LL).length false L).M (EB (if f = true then LL ++ [L] else LL)) s' ∧ (commitP M (EB LL).length false L).M.cap = M.cap := by
  cases f with
  | true =>
    have hc : ((EB LL).length : Int) + (frms (recs L)).length ≤ M.cap := by simpa using hf.symm
    obtain ⟨d1, d2, d3, d4, d5⟩ := h.commits (L := L) hok (by omega) (EB LL).length
    refine ⟨(EB LL ++ frms (recs L)).length, d1, ?_, d3, ?_, d5⟩
    · rw [d2, if_pos rfl, EB_snoc, List.length_append]
    · rw [if_pos rfl, EB_snoc]; exact d4
  | false =>
    have hc : ¬ ((EB LL).length : Int) + (frms (recs L)).length ≤ M.cap := by simpa using hf.symm
    obtain ⟨d1, d2, d3, d4, d5⟩ := h.refuses (L := L) hok (by omega)
    exact ⟨min s (EB LL).length, d1, d2, d3, d4, d5⟩

theorem reads_low {w : World} {v : Value} {xs : List Value} (h : Reads w v xs) (hne : xs ≠ []) : ∀ a n c, v = .slice (some a) n c → a.block < w.heap.size := by
  intro a n c e
  obtain ⟨ao, c', e', _, _, hc⟩ := h
  rw [e] at e'
  cases e'
  cases xs with
  | nil => exact absurd rfl hne
  | cons x xs =>
    have := World.block_lt_of_cell? w _ (hc a rfl 0 x rfl)
    rwa [add_block] at this

end Go.Proofs.YthacjeeafnblmaaGreatDoor

namespace Go.Proofs.YthacjeeafnblmaaGreatDoor
open Go.ChangeShapes Go.WideShapes Go.ChangeAt Go.RowKit

/-- The three tables, as each row lists them. -/
def laid3 : List (String × DataW Unit) := [("math/bits.deBruijn32tab", Rows.laid_math_bits_deBruijn32tab), ("math/bits.deBruijn64tab", Rows.laid_math_bits_deBruijn64tab), ("internal/strconv.uint64pow10", Rows.laid_internal_strconv_uint64pow10)]

theorem tab_of_laid {W : World} (h : laidMetH Tryz.prog laid3 W) : Tab W := by
  rw [MakeChecks.laidMetH_plain _ _ _ (by kernel_rfl)] at h
  have h3 : laidMet Tryz.prog [("internal/strconv.uint64pow10", Lib.tabData .u64 Lib.pow10Tab)] W := h.tail.tail
  exact Lib.tabIs_of_head (show Tryz.prog.globalNamed "internal/strconv.uint64pow10" = some 0 by kernel_rfl) (show (Tryz.prog.globals[0]?).map (·.type) = some 180 by kernel_rfl) Tryz.underlying180 Tryz.underlying123 (by kernel_rfl) (by kernel_rfl) h3

theorem door_met (os : Os) (args : Array Value) : laidMetH Tryz.prog laid3 ((World.doorLaid Tryz.prog 24 os).forCall (fun _ _ => 0) ⟨#[], args, []⟩).memory :=
  laidMetH_of_parts3 (fuel := 8) (laidMet_of_run' 8 (by kernel_rfl) (by kernel_rfl)) (by kernel_rfl) (by kernel_rfl)

end Go.Proofs.YthacjeeafnblmaaGreatDoor
