/- What a tied card's condition gives (stage 12): the table of signs lies as the program's text lays it; and a world in which all six do. Numbers and types by name. -/
import Derived.Test.YtlofkmoeilikkaaDoorQpt
import Derived.Test.YtlofkmoeilikkaaDoorRows
import Derived.Test.YtlofkmoeilikkaaDoorSgn
import Derived.ProofKit
import Derived.LaidMore
import Derived.Stop.LaidErr
/- The document's example in stage 12's laws: labels a < b < c. Numbers and types by name. -/
namespace Go.Proofs.YtlofkmoeilikkaaDoor
open Go.RowKit Go.Lib
set_option maxRecDepth 100000

def labEx : List UInt8 := [108, 97, 98, 101, 108, 115, 32, 97, 32, 60, 32, 98, 32, 60, 32, 99, 59]
theorem lab_ex : labelsP labEx = ([⟨[97], [98], 11⟩, ⟨[98], [99], 15⟩], 0, 0) := by decide +kernel

theorem awake_par (K : ParseK) (w : World) (ht : SgW w) : Calls Tryd.prog 9 #[] w fun e w' => e = .returned (.bool true) ∧ Below w.heap.size w w' := by
  have P := K.lab labEx w ht
  clear ht
  rw [lab_ex] at P
  change Calls _ _ #[.string ⟨#[108, 97, 98, 101, 108, 115, 32, 97, 32, 60, 32, 98, 32, 60, 32, 99, 59]⟩] _ _ at P
  go_enter Tryd.func9, Tryd.ntmps9
  go_wp2_with fail
  refine P.mono ?_
  rintro e w1 ⟨ao, m, c, rfl, hT, hb⟩
  have H := Lib.hid hb
  obtain rfl : m = 2 := hT.1
  obtain ⟨_, _, _, cs, ⟨ao', cap, e, _, _, hz, hat⟩, c1, d1, rfl, _, rfl, c2, d2, rfl, _, rfl, rfl⟩ := hT
  cases e
  obtain ⟨a, rfl⟩ : ∃ a, ao = some a := by
    cases ao with
    | none => exact absurd (hz rfl).1 (by simp)
    | some a => exact ⟨a, rfl⟩
  have d1 : w1.cell? ⟨a.block, a.off + 3, none⟩ = some (.string ⟨#[98]⟩) := hat a rfl 3 _ rfl
  have d2 : w1.cell? ⟨a.block, a.off + 3 + 1, none⟩ = some (.string ⟨#[99]⟩) := hat a rfl 4 _ rfl
  clear hb hz hat P
  go_wp2_with (go_at_call 12; refine (lnum_at _ _).mono ?_; rintro e w' ⟨rfl, rfl⟩)
  go_ret
  exact ⟨rfl, H.out⟩

end Go.Proofs.YtlofkmoeilikkaaDoor

/- ParseBad, walked over what is asked of the code's parser. Numbers and types by name. -/
namespace Go.Proofs.YtlofkmoeilikkaaDoor
open Go.RowKit Go.Lib
set_option maxRecDepth 100000

def badT : List (List UInt8) := [[], [109, 111, 100, 117, 108, 101], [109, 111, 100, 117, 108, 101, 32, 109], [109, 111, 100, 117, 108, 101, 32, 109, 59, 32, 105, 109, 112, 111, 114, 116], [109, 111, 100, 117, 108, 101, 32, 109, 59, 32, 118, 97, 114, 32, 120, 32, 61, 32, 49, 59], [109, 111, 100, 117, 108, 101, 32, 109, 59, 32, 118, 97, 114, 32, 120, 32, 58, 32, 97, 59], [109, 111, 100, 117, 108, 101, 32, 109, 59, 32, 112, 114, 111, 99, 32, 112, 40, 41, 32, 117, 115, 101, 115, 32, 123, 125, 32, 123, 125], [109, 111, 100, 117, 108, 101, 32, 109, 59, 32, 112, 114, 111, 99, 32, 112, 40, 41, 32, 112, 99, 32, 97, 32, 123, 125], [109, 111, 100, 117, 108, 101, 32, 109, 59, 32, 112, 114, 111, 99, 32, 112, 40, 41, 32, 112, 99, 32, 97, 32, 117, 115, 101, 115, 32, 123, 125, 32, 123], [109, 111, 100, 117, 108, 101, 32, 109, 59, 32, 112, 114, 111, 99, 32, 112, 40, 41, 32, 112, 99, 32, 97, 32, 117, 115, 101, 115, 32, 123, 125, 32, 123, 32, 120, 32, 125], [109, 111, 100, 117, 108, 101, 32, 109, 59, 32, 112, 114, 111, 99, 32, 112, 40, 41, 32, 112, 99, 32, 97, 32, 117, 115, 101, 115, 32, 123, 125, 32, 123, 32, 120, 32, 61, 32, 59, 32, 125], [109, 111, 100, 117, 108, 101, 32, 109, 59, 32, 112, 114, 111, 99, 32, 112, 40, 41, 32, 112, 99, 32, 97, 32, 117, 115, 101, 115, 32, 123, 125, 32, 123, 32, 105, 102, 32, 120, 32, 125], [109, 111, 100, 117, 108, 101, 32, 109, 59, 32, 112, 114, 111, 99, 32, 112, 40, 41, 32, 112, 99, 32, 97, 32, 117, 115, 101, 115, 32, 123, 125, 32, 123, 32, 101, 108, 115, 101, 32, 123, 32, 125, 32, 125], [109, 111, 100, 117, 108, 101, 32, 109, 59, 32, 120], [108, 97, 98, 101, 108, 115, 32, 97, 59], [109, 111, 100, 117, 108, 101, 32, 109, 59, 32, 112, 114, 111, 99, 32, 112, 40, 41, 32, 112, 99, 32, 97, 32, 117, 115, 101, 115, 32, 123, 125, 32, 123, 32, 120, 32, 61, 32, 49, 32, 60, 32, 50, 32, 60, 32, 51, 59, 32, 125], [109, 111, 100, 117, 108, 101, 32, 109, 59, 32, 112, 114, 111, 99, 32, 112, 40, 120, 41, 32, 112, 99, 32, 97, 32, 117, 115, 101, 115, 32, 123, 125, 32, 123, 32, 125], [109, 111, 100, 117, 108, 101, 32, 109, 59, 32, 105, 109, 112, 111, 114, 116, 32, 97, 59, 32, 118, 97, 114, 32, 120, 32, 58, 32, 108, 32, 61, 32, 49, 59, 32, 105, 109, 112, 111, 114, 116, 32, 98, 59]]
def badW : List Nat := [0, 6, 8, 16, 16, 19, 19, 24, 33, 36, 38, 39, 34, 10, 0, 44, 18, 35]
/-- Each of them is refused there. -/
theorem bad_all : ∀ k : Fin 18, (parseP (badT.getD k [])).2.1 = 11 ∧ (parseP (badT.getD k [])).2.2 = badW.getD k 0 ∧ (parseP (badT.getD k [])).1.name = [] := by decide +kernel
def badA : Array Value := #[.string ⟨#[]⟩, .string ⟨#[109, 111, 100, 117, 108, 101]⟩, .string ⟨#[109, 111, 100, 117, 108, 101, 32, 109]⟩, .string ⟨#[109, 111, 100, 117, 108, 101, 32, 109, 59, 32, 105, 109, 112, 111, 114, 116]⟩, .string ⟨#[109, 111, 100, 117, 108, 101, 32, 109, 59, 32, 118, 97, 114, 32, 120, 32, 61, 32, 49, 59]⟩, .string ⟨#[109, 111, 100, 117, 108, 101, 32, 109, 59, 32, 118, 97, 114, 32, 120, 32, 58, 32, 97, 59]⟩, .string ⟨#[109, 111, 100, 117, 108, 101, 32, 109, 59, 32, 112, 114, 111, 99, 32, 112, 40, 41, 32, 117, 115, 101, 115, 32, 123, 125, 32, 123, 125]⟩, .string ⟨#[109, 111, 100, 117, 108, 101, 32, 109, 59, 32, 112, 114, 111, 99, 32, 112, 40, 41, 32, 112, 99, 32, 97, 32, 123, 125]⟩, .string ⟨#[109, 111, 100, 117, 108, 101, 32, 109, 59, 32, 112, 114, 111, 99, 32, 112, 40, 41, 32, 112, 99, 32, 97, 32, 117, 115, 101, 115, 32, 123, 125, 32, 123]⟩, .string ⟨#[109, 111, 100, 117, 108, 101, 32, 109, 59, 32, 112, 114, 111, 99, 32, 112, 40, 41, 32, 112, 99, 32, 97, 32, 117, 115, 101, 115, 32, 123, 125, 32, 123, 32, 120, 32, 125]⟩, .string ⟨#[109, 111, 100, 117, 108, 101, 32, 109, 59, 32, 112, 114, 111, 99, 32, 112, 40, 41, 32, 112, 99, 32, 97, 32, 117, 115, 101, 115, 32, 123, 125, 32, 123, 32, 120, 32, 61, 32, 59, 32, 125]⟩, .string ⟨#[109, 111, 100, 117, 108, 101, 32, 109, 59, 32, 112, 114, 111, 99, 32, 112, 40, 41, 32, 112, 99, 32, 97, 32, 117, 115, 101, 115, 32, 123, 125, 32, 123, 32, 105, 102, 32, 120, 32, 125]⟩, .string ⟨#[109, 111, 100, 117, 108, 101, 32, 109, 59, 32, 112, 114, 111, 99, 32, 112, 40, 41, 32, 112, 99, 32, 97, 32, 117, 115, 101, 115, 32, 123, 125, 32, 123, 32, 101, 108, 115, 101, 32, 123, 32, 125, 32, 125]⟩, .string ⟨#[109, 111, 100, 117, 108, 101, 32, 109, 59, 32, 120]⟩, .string ⟨#[108, 97, 98, 101, 108, 115, 32, 97, 59]⟩, .string ⟨#[109, 111, 100, 117, 108, 101, 32, 109, 59, 32, 112, 114, 111, 99, 32, 112, 40, 41, 32, 112, 99, 32, 97, 32, 117, 115, 101, 115, 32, 123, 125, 32, 123, 32, 120, 32, 61, 32, 49, 32, 60, 32, 50, 32, 60, 32, 51, 59, 32, 125]⟩, .string ⟨#[109, 111, 100, 117, 108, 101, 32, 109, 59, 32, 112, 114, 111, 99, 32, 112, 40, 120, 41, 32, 112, 99, 32, 97, 32, 117, 115, 101, 115, 32, 123, 125, 32, 123, 32, 125]⟩, .string ⟨#[109, 111, 100, 117, 108, 101, 32, 109, 59, 32, 105, 109, 112, 111, 114, 116, 32, 97, 59, 32, 118, 97, 114, 32, 120, 32, 58, 32, 108, 32, 61, 32, 49, 59, 32, 105, 109, 112, 111, 114, 116, 32, 98, 59]⟩]
def badI : Array Value := #[.int .i64 0, .int .i64 6, .int .i64 8, .int .i64 16, .int .i64 16, .int .i64 19, .int .i64 19, .int .i64 24, .int .i64 33, .int .i64 36, .int .i64 38, .int .i64 39, .int .i64 34, .int .i64 10, .int .i64 0, .int .i64 44, .int .i64 18, .int .i64 35]
theorem badA_at (k : Nat) (hk : k < 18) : badA[k]? = some (.string (tx (badT.getD k []))) := by
  have e : badA.toList = badT.map fun t => .string (tx t) := rfl
  rw [← Array.getElem?_toList, e, List.getElem?_map, List.getD_eq_getElem?_getD]
  have : k < badT.length := hk
  rw [List.getElem?_eq_getElem this]
  rfl
theorem badI_at (k : Nat) (hk : k < 18) : badI[k]? = some (.int .i64 ((badW.getD k 0 : Nat) : Int)) := by
  have e : badI.toList = badW.map fun t => .int .i64 (t : Int) := rfl
  rw [← Array.getElem?_toList, e, List.getElem?_map, List.getD_eq_getElem?_getD]
  have : k < badW.length := hk
  rw [List.getElem?_eq_getElem this]
  rfl

set_option maxHeartbeats 8000000 in
theorem bad_walk (K : ParseK) (n : UInt8) (w : World) (ht : SgW w) : Calls Tryd.prog 7 #[.int .u8 (n.toNat : Int)] w fun e w' => e = .returned (.bool true) ∧ Below w.heap.size w w' := by
  obtain ⟨k, hk⟩ : ∃ k, n.toNat % 18 = k := ⟨_, rfl⟩
  have hk18 : k < 18 := by omega
  obtain ⟨b1, b2, b3⟩ := bad_all ⟨k, hk18⟩
  simp only at b1 b2 b3
  obtain ⟨w1, hw1⟩ : ∃ w1, w.alloc (.cells badA 9) = w1 := ⟨_, rfl⟩
  obtain ⟨w2, hw2⟩ : ∃ w2, w1.alloc (.cells badI 3) = w2 := ⟨_, rfl⟩
  have g0 : w1.cell? ⟨w.heap.size, k, none⟩ = some (.string (tx (badT.getD k []))) := by
    rw [← hw1]
    exact cellsN (heap_alloc_new _ _) k _ (badA_at k hk18)
  have g1 : w2.cell? ⟨w.heap.size, k, none⟩ = some (.string (tx (badT.getD k []))) := by
    rw [← hw2, World.cell?_of_block (heap_alloc_old _ _ (World.block_lt_of_cell? w1 _ g0))]
    exact g0
  have g2 : w2.cell? ⟨w1.heap.size, k, none⟩ = some (.int .i64 ((badW.getD k 0 : Nat) : Int)) := by
    rw [← hw2]
    exact cellsN (heap_alloc_new _ _) k _ (badI_at k hk18)
  have hb2 : Below w.heap.size w w2 := by
    rw [← hw2, ← hw1]
    exact ((Below.refl _ w).alloc (Nat.le_refl _) _).alloc (by simp) _
  have P := K.mod (badT.getD k []) w2 (ht.later hb2)
  generalize badT.getD k [] = T at *
  generalize badW.getD k 0 = q at *
  have HK := Lib.hid (And.intro K (And.intro ht (And.intro hb2 (And.intro b1 (And.intro b2 b3)))))
  have hz : ((n.toNat : Int)) % 18 = (k : Int) := by omega
  have hk3 : (k : Int) < 18 := by omega
  have hn : n.toNat < 256 := n.toNat_lt
  unfold badA at hw1
  unfold badI at hw2
  clear K ht hb2 b1 b2 b3 g0 hk
  go_enter Tryd.func7, Tryd.ntmps7
  go_wp2_with fail
  refine P.mono ?_
  obtain ⟨R, hR⟩ : ∃ R, parseP T = R := ⟨_, rfl⟩
  rw [hR]
  have HK2 := HK.out
  rw [hR] at HK2
  obtain ⟨hK, hT, hb2, b1, b2, b3⟩ := HK2
  obtain ⟨m, x, y⟩ := R
  simp only at b1 b2 b3
  subst b1
  subst b2
  obtain ⟨nm, mp, mi, mv, mq⟩ := m
  simp only at b3
  subst b3
  rintro e w3 ⟨vI, vV, vP, rfl, hv, hb3⟩
  obtain ⟨⟨aI, nI, cI, rfl⟩, ⟨aV, nV, cV, rfl⟩, ⟨aP, nP, cP, rfl⟩⟩ := modV_shapes hv
  have hb4 := hb3.alloc hb3.size (.cells #[.string (tx []), .int .i64 (mp : Int), .slice aI nI cI, .slice aV nV cV, .slice aP nP cP] 27)
  have H3 := Lib.hid (And.intro hK (And.intro hT (hb2.trans (hb4.mono hb2.size))))
  have g3 : (w3.alloc (.cells #[.string (tx []), .int .i64 (mp : Int), .slice aI nI cI, .slice aV nV cV, .slice aP nP cP] 27)).cell? ⟨w1.heap.size, k, none⟩ = some (.int .i64 (y : Int)) := by
    rw [World.cell?_of_block (hb4.block _ (World.block_lt_of_cell? w2 _ g2))]
    exact g2
  have g4 : (w3.alloc (.cells #[.string (tx []), .int .i64 (mp : Int), .slice aI nI cI, .slice aV nV cV, .slice aP nP cP] 27)).cell? ⟨w3.heap.size, 0, none⟩ = some (.string (tx [])) := cellsN (heap_alloc_new _ _) 0 _ rfl
  clear hK hT hb2 hv hb3 hb4 HK P hR g1 g2 hw1 hw2
  obtain ⟨w4, hw4⟩ : ∃ w4, w3.alloc (.cells #[.string (tx []), .int .i64 (mp : Int), .slice aI nI cI, .slice aV nV cV, .slice aP nP cP] 27) = w4 := ⟨_, rfl⟩
  rw [hw4] at H3 g3 g4
  have t0 : (tx []).toList = [] := tx_list []
  go_wp2_with (first | (go_at_call 12; refine (lnum_at _ _).mono ?_; rintro e w' ⟨rfl, rfl⟩) | (go_at_call 9; refine (awake_par H3.out.1 _ (H3.out.2.1.later H3.out.2.2)).mono ?_; rintro e w' ⟨rfl, hb9⟩; have H9 := Lib.hid (H3.out.2.2.trans (hb9.mono H3.out.2.2.size)); clear hb9))
  go_ret
  exact ⟨rfl, H9.out⟩

theorem bad_int (K : ParseK) (z : Int) (x : 0 ≤ z ∧ z ≤ 255) (w : World) (ht : SgW w) : Calls Tryd.prog 7 #[.int .u8 z] w fun e w' => e = .returned (.bool true) ∧ Below w.heap.size w w' := by
  have h := bad_walk K (UInt8.ofNat z.toNat) w ht
  have e : (((UInt8.ofNat z.toNat).toNat : Nat) : Int) = z := by
    have : (UInt8.ofNat z.toNat).toNat = z.toNat % 256 := by simp
    omega
  rw [e] at h
  exact h

end Go.Proofs.YtlofkmoeilikkaaDoor

namespace Go.Proofs.YtlofkmoeilikkaaDoor
open Go.ChangeShapes Go.WideShapes Go.ChangeAt Go.RowKit

/-- The six, as each row lists them. -/
def laid3 : List (String × DataW Unit) := [("math/bits.deBruijn32tab", Rows.laid_math_bits_deBruijn32tab), ("math/bits.deBruijn64tab", Rows.laid_math_bits_deBruijn64tab), ("internal/strconv.uint64pow10", Rows.laid_internal_strconv_uint64pow10), ("strconv.ErrRange", Rows.laid_strconv_ErrRange), ("strconv.ErrSyntax", Rows.laid_strconv_ErrSyntax), ("aquifer/lex.signs", Rows.laid_aquifer_lex_signs)]

theorem tab_of_laid {W : World} (h : laidMetH Tryd.prog laid3 W) : SgW W := by
  rw [MakeChecks.laidMetH_plain _ _ _ (by kernel_rfl)] at h
  have h3 : laidMet Tryd.prog [("aquifer/lex.signs", txData signs19)] W := h.tail.tail.tail.tail.tail
  exact sgW_of_head (show Tryd.prog.globalNamed "aquifer/lex.signs" = some 0 by kernel_rfl) (show (Tryd.prog.globals[0]?).map (·.type) = some 95 by kernel_rfl) Tryd.underlying95 Tryd.underlying9 (by kernel_rfl) (by kernel_rfl) h3

theorem door_met (os : Os) (args : Array Value) : laidMetH Tryd.prog laid3 ((World.doorLaid Tryd.prog 67 os).forCall (fun _ _ => 0) ⟨#[], args, []⟩).memory :=
  laidMetH_of_parts3 (fuel := 8) (laidMet_of_run' 8 (by kernel_rfl) (by kernel_rfl)) (by kernel_rfl) (by kernel_rfl)

end Go.Proofs.YtlofkmoeilikkaaDoor
