/- What a tied card's condition gives (stage 15): the table of powers lies as the program's text lays it; a world in which all five do; lists of texts that came in. Numbers and types by name. -/
import Derived.Test.YtlgfijjkbomejaaGreatDoorRows
import Derived.Test.YtlgfijjkbomejaaGreatDoorCen
import Derived.Test.YtlgfijjkbomejaaGreatDoorCel
import Derived.Test.YtlgfijjkbomejaaGreatDoorFcb
import Derived.Test.YtlgfijjkbomejaaGreatDoorTxt
import Derived.Deep.Strs
import Derived.ProofKit
import Derived.LaidMore
import Derived.Stop.LaidErr
namespace Go.Proofs.YtlgfijjkbomejaaGreatDoor
open Go.ChangeShapes Go.WideShapes Go.ChangeAt Go.RowKit

/-- The five, as each row lists them. -/
def laid3 : List (String × DataW Unit) := [("math/bits.deBruijn32tab", Rows.laid_math_bits_deBruijn32tab), ("math/bits.deBruijn64tab", Rows.laid_math_bits_deBruijn64tab), ("internal/strconv.uint64pow10", Rows.laid_internal_strconv_uint64pow10), ("strconv.ErrRange", Rows.laid_strconv_ErrRange), ("strconv.ErrSyntax", Rows.laid_strconv_ErrSyntax)]

theorem tab_of_laid {W : World} (h : laidMetH Tryz.prog laid3 W) : Tab W := by
  rw [MakeChecks.laidMetH_plain _ _ _ (by kernel_rfl)] at h
  have h3 : laidMet Tryz.prog [("internal/strconv.uint64pow10", Lib.tabData .u64 Lib.pow10Tab), ("strconv.ErrRange", Rows.laid_strconv_ErrRange), ("strconv.ErrSyntax", Rows.laid_strconv_ErrSyntax)] W := h.tail.tail
  exact Lib.tabIs_of_head (show Tryz.prog.globalNamed "internal/strconv.uint64pow10" = some 0 by kernel_rfl) (show (Tryz.prog.globals[0]?).map (·.type) = some 231 by kernel_rfl) Tryz.underlying231 Tryz.underlying152 (by kernel_rfl) (by kernel_rfl) h3

theorem door_met (os : Os) (args : Array Value) : laidMetH Tryz.prog laid3 ((World.doorLaid Tryz.prog 67 os).forCall (fun _ _ => 0) ⟨#[], args, []⟩).memory :=
  laidMetH_of_parts3 (fuel := 8) (laidMet_of_run' 8 (by kernel_rfl) (by kernel_rfl)) (by kernel_rfl) (by kernel_rfl)

open Go.ChangeShapes Go.WideShapes Go.ChangeAt Go.RowKit Go.Lib Go.Deep
theorem cellsStringV : Tryz.prog.cellsOf 9 = 1 := by kernel_rfl
theorem open_texts {H : Type} {enc : TypeId × Value → H} {W : World} {base : Nat} {spare : Nat → Bool} {held : Bool} {fuel : Nat} {a0 : Option Addr} {len cap : Nat} {x : DataW H × List MemPlace}
    (h : DataW.trod enc Tryz.prog W base spare held fuel 36 [.slice a0 len cap] = some x) : ∃ L : List ByteArray, Texts W (.slice a0 len cap) len L := by
  rcases open_strs Tryz.underlying36 Tryz.underlying9 cellsStringV h with ⟨hcs, _⟩ | ⟨a, len', cap', m, Sx, hcs, _, hl, hm, hmm, _, hcell⟩
  · simp only [List.cons.injEq, Value.slice.injEq, and_true] at hcs
    obtain ⟨rfl, rfl, rfl⟩ := hcs
    exact ⟨[], rfl, Reads.nil W, Nat.zero_le _, fun s hs => by cases hs⟩
  · simp only [List.cons.injEq, Value.slice.injEq, and_true] at hcs
    obtain ⟨rfl, rfl, rfl⟩ := hcs
    have hlm : len ≤ m := by rw [hmm]; split <;> omega
    refine ⟨(List.range len).map Sx, by simp, ⟨some a, cap, by simp [sv], by simp [sv]; omega, (fun e => by cases e), fun a' ha j u hj => ?_⟩, Nat.le_trans hl hm, fun s hs => ?_⟩
    · cases ha
      have hj1 : j < len := by
        have := (List.getElem?_eq_some_iff.1 hj).1
        simpa [sv] using this
      rw [(hcell j (by omega)).1]
      have e : (sv ((List.range len).map Sx))[j]? = some (.string (Sx j)) := by simp [sv, hj1]
      rw [e] at hj
      exact hj
    · simp only [List.mem_map, List.mem_range] at hs
      obtain ⟨i, hi, rfl⟩ := hs
      exact (hcell i (by omega)).2
/-- Texts that were opened, as lists of bytes. -/
theorem Texts.strv {W : World} {v : Value} {n : Nat} {L : List ByteArray} (h : Texts W v n L) (hn : n ≤ 1000000) : StrV W v n (L.map (·.data.toList)) := by
  obtain ⟨h1, ⟨ao, cap, e, h2, h3, h4⟩, _⟩ := h
  have hs : sx (L.map (·.data.toList)) = sv L := by
    unfold sx sv
    rw [List.map_map]
    congr 1
  have hl : (sv L).length = L.length := by simp [sv]
  refine ⟨by simpa using h1, hn, ao, cap, by rw [e, hl, h1], by rw [hs, hl]; omega, by omega, fun e0 => ?_, fun a ha j u hj => h4 a ha j u (by rw [← hs]; exact hj)⟩
  obtain ⟨q1, q2⟩ := h3 e0
  have : (sv L).length = 0 := by rw [q1]; rfl
  exact ⟨by omega, q2⟩

end Go.Proofs.YtlgfijjkbomejaaGreatDoor
