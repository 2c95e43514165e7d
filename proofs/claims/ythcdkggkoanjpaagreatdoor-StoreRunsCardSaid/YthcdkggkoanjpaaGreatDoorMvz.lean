/- Regions that draw their order and hold calls: one walk; less is kept of a world till one call is made than behind it. Numbers and types by name. -/
import Derived.Test.YthcdkggkoanjpaaGreatDoorSxf
import Derived.ProofKit
import Derived.Deep.Slices
import Derived.Test.YthcdkggkoanjpaaGreatDoorRows
import Derived.Test.YthcdkggkoanjpaaGreatDoorCuf
import Derived.LaidMore
import Derived.Stop.LaidErr
import Derived.Test.YthcdkggkoanjpaaGreatDoorMov
import Derived.BigRegion
import Derived.RegionTactic
import Derived.ChangeAlike
import Derived.Maps.OwnSet
import Derived.Sort.KeysCollected
import Derived.WalkSpells
import Derived.StillTactics
import Derived.StillTailTactics
import Derived.Test.YthcdkggkoanjpaaGreatDoorRop
import Derived.Test.YthcdkggkoanjpaaGreatDoorSm
import Derived.Test.YthcdkggkoanjpaaGreatDoorCop
import Derived.Test.YthcdkggkoanjpaaGreatDoorPuw
namespace Go.Proofs.YthcdkggkoanjpaaGreatDoor
open Go.RowKit Go.Lib
set_option maxRecDepth 100000
theorem st_kept : StK CSt ISt where
  lt := CSt_lt
  keep := CSt_keep
  parts := CSt_parts
  ilt := ISt_lt
  ikeep := ISt_keep
  iall := fun h hs => (ISt_all h (by have := hs.1; omega)).mono fun _ _ ⟨ao, q, c, he, hp, _, t⟩ => ⟨ao, q, c, he, hp, t⟩
  iall2 := fun h hs => ISt_all h (by have := hs.1; omega)
  opens := by
    intro w base b M F most h ht K J j hf
    exact CSt_open most h ht hf
  commit := by
    intro w base b x M n s L most F h ht K J j X hf vo m ho hm
    exact CSt_commit h ht hf vo m ho hm
  check := by
    intro w base b x M n s L most F h hs K J j hw hj hR hK
    exact CSt_check h hs hw hj hR hK
  sick := CSt_sick
  get := fun h hs k hk => CSt_get h hs k hk
end Go.Proofs.YthcdkggkoanjpaaGreatDoor
namespace Go.Proofs.YthcdkggkoanjpaaGreatDoor
open Go.ChangeShapes Go.WideShapes Go.ChangeAt Go.RowKit
def laid3 : List (String × DataW Unit) := [("math/bits.deBruijn32tab", Rows.laid_math_bits_deBruijn32tab), ("math/bits.deBruijn64tab", Rows.laid_math_bits_deBruijn64tab), ("internal/strconv.uint64pow10", Rows.laid_internal_strconv_uint64pow10)]
theorem tab_of_laid {W : World} (h : laidMetH Tryz.prog laid3 W) : Tab W := by
  rw [MakeChecks.laidMetH_plain _ _ _ (by kernel_rfl)] at h
  have h3 : laidMet Tryz.prog [("internal/strconv.uint64pow10", Lib.tabData .u64 Lib.pow10Tab)] W := h.tail.tail
  exact Lib.tabIs_of_head (show Tryz.prog.globalNamed "internal/strconv.uint64pow10" = some 1 by kernel_rfl) (show (Tryz.prog.globals[1]?).map (·.type) = some 248 by kernel_rfl) Tryz.underlying248 Tryz.underlying198 (by kernel_rfl) (by kernel_rfl) h3
theorem door_met (os : Os) (args : Array Value) : laidMetH Tryz.prog laid3 ((World.doorLaid Tryz.prog 24 os).forCall (fun _ _ => 0) ⟨#[], args, []⟩).memory :=
  laidMetH_of_parts3 (fuel := 8) (laidMet_of_run' 8 (by kernel_rfl) (by kernel_rfl)) (by kernel_rfl) (by kernel_rfl)
end Go.Proofs.YthcdkggkoanjpaaGreatDoor
namespace Go.Proofs.YthcdkggkoanjpaaGreatDoor
open Go.ChangeShapes Go.WideShapes Go.ChangeAt Go.RowKit Go.Deep
theorem cells5 : Tryz.prog.cellsOf 31 = 5 := by kernel_rfl
theorem cellsI : Tryz.prog.cellsOf 3 = 1 := by kernel_rfl
theorem cellsL : Tryz.prog.cellsOf 29 = 1 := by kernel_rfl
theorem cellsT : Tryz.prog.cellsOf 4 = 1 := by kernel_rfl
theorem open_intsU {H : Type} {enc : TypeId × Value → H} {W : World} {base : Nat} {spare : Nat → Bool} {held : Bool} {fuel : Nat} {c : Value} {x : DataW H × List MemPlace}
    (h : DataW.trod enc Tryz.prog W base spare held fuel 29 [c] = some x) : ∃ (ao : Option Addr) (cp : Nat) (A : List Int), c = .slice ao A.length cp ∧ Reads W (.slice ao A.length cp) (iv A) ∧ A.length ≤ maxLen := by
  rcases open_ints Tryz.underlying29 Tryz.underlying3 cellsI h with ⟨hcs, _⟩ | ⟨a, len, cap, zs, hcs, _, hl, hm, hz, hx, hcell, hwz⟩
  · simp only [List.cons.injEq, and_true] at hcs
    exact ⟨none, 0, [], hcs, Reads.nil W, Nat.zero_le _⟩
  · simp only [List.cons.injEq, and_true] at hcs
    have hzl : len ≤ zs.length := by rw [hz]; split <;> omega
    have hAl : (zs.take len).length = len := by simp; omega
    refine ⟨some a, cap, zs.take len, by rw [hAl]; exact hcs, ?_, by rw [hAl]; exact Nat.le_trans hl hm⟩
    refine ⟨some a, cap, by simp [iv], by simp [iv]; omega, (fun e => by cases e), fun a' ha j u hj => ?_⟩
    cases ha
    have hj1 : j < len := by
      have := (List.getElem?_eq_some_iff.1 hj).1
      simp [iv] at this
      omega
    have hjz : j < zs.length := by omega
    rw [hcell j hjz]
    have e : (iv (zs.take len))[j]? = some (.int .i64 zs[j]) := by
      simp [iv, List.getElem?_take, hj1, List.getElem?_eq_getElem hjz]
    rw [e] at hj
    cases hj
    simp [List.getElem?_eq_getElem hjz]
structure PV where
  cap : Int
  aF : Option Addr
  cF : Nat
  zs : List Int
  cr : Int
  dn : Bool
  aK : Option Addr
  cK : Nat
  ks : List Int
structure PlanOk (w : World) (p : PV) : Prop where
  cap : p.cap ≤ 9223372036854775807
  rF : Reads w (.slice p.aF p.zs.length p.cF) (iv p.zs)
  rK : Reads w (.slice p.aK p.ks.length p.cK) (iv p.ks)
  lF : p.zs.length ≤ maxLen
  lK : p.ks.length ≤ maxLen
theorem open_plan {H : Type} {enc : TypeId × Value → H} {W : World} {base : Nat} {spare : Nat → Bool} {held : Bool} {fuel : Nat} {c0 c1 c2 c3 c4 : Value} {x : DataW H × List MemPlace}
    (h : DataW.trod enc Tryz.prog W base spare held fuel 31 [c0, c1, c2, c3, c4] = some x) :
    ∃ p : PV, c0 = .int .i64 p.cap ∧ c1 = .slice p.aF p.zs.length p.cF ∧ c2 = .int .i64 p.cr ∧ c3 = .bool p.dn ∧ c4 = .slice p.aK p.ks.length p.cK ∧ PlanOk W p := by
  obtain ⟨ys, n2, _, _, _, hyl, hg⟩ := DataW.trod_struct Tryz.underlying31 h
  have g0 := hg 0 _ rfl
  have g1 := hg 1 _ rfl
  have g2 := hg 2 _ rfl
  have g3 := hg 3 _ rfl
  have g4 := hg 4 _ rfl
  rw [show ys[0]? = some (ys[0]'(by rw [hyl]; decide)) from List.getElem?_eq_getElem _] at g0
  rw [show ys[1]? = some (ys[1]'(by rw [hyl]; decide)) from List.getElem?_eq_getElem _] at g1
  rw [show ys[2]? = some (ys[2]'(by rw [hyl]; decide)) from List.getElem?_eq_getElem _] at g2
  rw [show ys[3]? = some (ys[3]'(by rw [hyl]; decide)) from List.getElem?_eq_getElem _] at g3
  rw [show ys[4]? = some (ys[4]'(by rw [hyl]; decide)) from List.getElem?_eq_getElem _] at g4
  change DataW.trod enc Tryz.prog W base spare held n2 3 (List.take (Tryz.prog.cellsOf 3) (List.drop 0 [c0, c1, c2, c3, c4])) = _ at g0
  change DataW.trod enc Tryz.prog W base spare held n2 29 (List.take (Tryz.prog.cellsOf 29) (List.drop 1 [c0, c1, c2, c3, c4])) = _ at g1
  change DataW.trod enc Tryz.prog W base spare held n2 3 (List.take (Tryz.prog.cellsOf 3) (List.drop 2 [c0, c1, c2, c3, c4])) = _ at g2
  change DataW.trod enc Tryz.prog W base spare held n2 4 (List.take (Tryz.prog.cellsOf 4) (List.drop 3 [c0, c1, c2, c3, c4])) = _ at g3
  change DataW.trod enc Tryz.prog W base spare held n2 29 (List.take (Tryz.prog.cellsOf 29) (List.drop 4 [c0, c1, c2, c3, c4])) = _ at g4
  rw [cellsI] at g0 g2
  rw [cellsL] at g1 g4
  rw [cellsT] at g3
  change DataW.trod enc Tryz.prog W base spare held n2 3 [c0] = _ at g0
  change DataW.trod enc Tryz.prog W base spare held n2 29 [c1] = _ at g1
  change DataW.trod enc Tryz.prog W base spare held n2 3 [c2] = _ at g2
  change DataW.trod enc Tryz.prog W base spare held n2 4 [c3] = _ at g3
  change DataW.trod enc Tryz.prog W base spare held n2 29 [c4] = _ at g4
  obtain ⟨cap, e0, _, w0⟩ := DataW.trod_int Tryz.underlying3 g0
  obtain ⟨aF, cF, zs, e1, r1, l1⟩ := open_intsU g1
  obtain ⟨cr, e2, _, _⟩ := DataW.trod_int Tryz.underlying3 g2
  obtain ⟨dn, e3, _⟩ := DataW.trod_bool Tryz.underlying4 g3
  obtain ⟨aK, cK, ks, e4, r4, l4⟩ := open_intsU g4
  simp only [List.cons.injEq, and_true] at e0 e2 e3
  refine ⟨⟨cap, aF, cF, zs, cr, dn, aK, cK, ks⟩, e0, e1, e2, e3, e4, ?_, r1, r4, l1, l4⟩
  have := w0
  simp [Lit.wf, IntKind.min, IntKind.max, IntKind.signed, IntKind.bits] at this
  exact this.2
end Go.Proofs.YthcdkggkoanjpaaGreatDoor
namespace Go.Proofs.YthcdkggkoanjpaaGreatDoor
open Go.RowKit Go.Lib
set_option maxRecDepth 100000
structure PlanAt (w : World) (a : Addr) (i : Nat) (p : PV) : Prop where
  c0 : w.cell? (a.add (i * 5)) = some (.int .i64 p.cap)
  c1 : w.cell? (a.add (i * 5 + 1)) = some (.slice p.aF p.zs.length p.cF)
  c2 : w.cell? (a.add (i * 5 + 2)) = some (.int .i64 p.cr)
  c3 : w.cell? (a.add (i * 5 + 3)) = some (.bool p.dn)
  c4 : w.cell? (a.add (i * 5 + 4)) = some (.slice p.aK p.ks.length p.cK)
  ok : PlanOk w p
structure Plans (w : World) (ao : Option Addr) (a : Addr) (n : Nat) (P : Nat → PV) : Prop where
  addr : ao = some a ∨ ao = none ∧ n = 0
  len : n ≤ maxLen
  at' : ∀ i, i < n → PlanAt w a i (P i)
theorem add_fld5 (a : Addr) (m j : Nat) (hj : 0 < j) : a.add (m + j) = ⟨(a.add m).block, (a.add m).off + j, none⟩ := by
  unfold Addr.add
  rw [if_neg (by omega)]
  by_cases hm : m = 0
  · simp [hm]
  · simp [hm]; omega
theorem drewN_two (w : World) (a b : Nat) : (w.drewN a).drewN b = w.drewN (a + b) := by
  unfold World.drewN
  simp only [Nat.add_assoc]
theorem reads_cell7 {w : World} {ao : Option Addr} {n c k : Nat} {xs : List Value} {u : Value} (h : Reads w (.slice ao n c) xs) (hu : xs[k]? = some u) : ∃ a, ao = some a ∧ w.cell? (a.add k) = some u := by
  obtain ⟨ao', c', e, _, hn, hc⟩ := h
  cases e
  cases ao with
  | none => rw [(hn rfl).1] at hu; cases hu
  | some a => exact ⟨a, rfl, hc a rfl k u hu⟩
theorem drew_turn (w : World) (k : Nat) : Turn [] w (w.drewN k) := (Turn.refl [] w).drewN k
theorem meas7 {a k : Nat} (h : k < a) : a - (RowKit.intOf (.int .i64 ((k : Int) + 1))).toNat < a - (RowKit.intOf (.int .i64 (k : Int))).toNat := by simp [RowKit.intOf]; omega
theorem PlanAt.cells {w : World} {a : Addr} {i : Nat} {p : PV} (h : PlanAt w a i p) : ∀ w', Grow w w' →
    w'.cell? (a.add (i * 5)) = some (.int .i64 p.cap) ∧ w'.cell? ⟨(a.add (i * 5)).block, (a.add (i * 5)).off + 1, none⟩ = some (.slice p.aF p.zs.length p.cF) ∧ w'.cell? ⟨(a.add (i * 5)).block, (a.add (i * 5)).off + 2, none⟩ = some (.int .i64 p.cr) ∧
      w'.cell? ⟨(a.add (i * 5)).block, (a.add (i * 5)).off + 3, none⟩ = some (.bool p.dn) ∧ w'.cell? ⟨(a.add (i * 5)).block, (a.add (i * 5)).off + 4, none⟩ = some (.slice p.aK p.ks.length p.cK) := fun w' hg => by
  have h1 := h.c1
  have h2 := h.c2
  have h3 := h.c3
  have h4 := h.c4
  rw [add_fld5 _ _ _ (by omega)] at h1 h2 h3 h4
  exact ⟨grow_cell hg h.c0, grow_cell hg h1, grow_cell hg h2, grow_cell hg h3, grow_cell hg h4⟩
theorem ref_new_below (cap cr : Int) (dn : Bool) (aF : Option Addr) (cF : Nat) (zs : List Int) (aK : Option Addr) (cK : Nat) (ks : List Int) (w w' : World) (hF : Reads w (.slice aF zs.length cF) (iv zs)) (hK : Reads w (.slice aK ks.length cK) (iv ks)) (hg : Grow w w') :
    Calls Tryz.prog 14 #[.agg #[.int .i64 cap, .slice aF zs.length cF, .int .i64 cr, .bool dn, .slice aK ks.length cK]] w' fun e w'' => ∃ r F G, e = .returned (theRef r) ∧ RD w'' r (MD.new cap cr dn zs ks) F G ∧ (∀ q ∈ F, w'.heap.size ≤ q) ∧ (∀ q ∈ G, q < w.heap.size) ∧ Turn [] w' w'' := by
  have blk : ∀ (ao : Option Addr) (c : Nat) (xs : List Int), Reads w (.slice ao xs.length c) (iv xs) → ∃ Q : List Nat, (xs ≠ [] → ∀ a n c', Value.slice ao xs.length c = .slice (some a) n c' → a.block ∈ Q) ∧ ∀ q ∈ Q, q < w.heap.size := by
    intro ao c xs hr
    cases xs with
    | nil => exact ⟨[], fun h => absurd rfl h, by simp⟩
    | cons x xs =>
      obtain ⟨a, rfl, hc⟩ := reads_cell7 (k := 0) hr rfl
      refine ⟨[a.block], fun _ a' n c' e => by cases e; simp, fun q hq => ?_⟩
      rw [List.mem_singleton.1 hq]
      have := World.block_lt_of_cell? w _ hc
      rwa [add_block] at this
  obtain ⟨Q1, p1, q1⟩ := blk aF cF zs hF
  obtain ⟨Q2, p2, q2⟩ := blk aK cK ks hK
  refine (ref_new cap cr dn _ _ zs ks w' (hF.later hg) (hK.later hg) (Q1 ++ Q2) (fun hz a n c e => List.mem_append.2 (.inl (p1 hz a n c e))) (fun hz a n c e => List.mem_append.2 (.inr (p2 hz a n c e))) (fun q hq => ?_)).mono ?_
  · rcases List.mem_append.1 hq with h | h
    · exact Nat.lt_of_lt_of_le (q1 q h) hg.size
    · exact Nat.lt_of_lt_of_le (q2 q h) hg.size
  · rintro e w'' ⟨r, F, rfl, hD, hF', t⟩
    exact ⟨r, F, Q1 ++ Q2, rfl, hD, hF', fun q hq => (List.mem_append.1 hq).elim (q1 q) (q2 q), t⟩
end Go.Proofs.YthcdkggkoanjpaaGreatDoor
namespace Go.Proofs.YthcdkggkoanjpaaGreatDoor
open Go.RowKit Go.Lib
set_option maxRecDepth 100000
def LightW (n1 n2 : Nat) (LL : List (List Opm)) (P : Nat → PV) : Prop :=
  n1 ≤ 40 ∧ n2 ≤ 40 ∧ (∀ (i : Nat) (L : List Opm), LL[i]? = some L → bulkO L ≤ 5000 ∧ L.length ≤ 60) ∧ ∀ i, i < n2 → (P i).zs.length ≤ 200 ∧ (P i).ks.length ≤ 50
def HeavyW (n1 n2 : Nat) (LL : List (List Opm)) (P : Nat → PV) (w : World) (e : Ending) (w' : World) : Prop := ∃ g k, e = .returned (.bool g) ∧ w' = w.drewN k ∧ (g = false → LightW n1 n2 LL P)
set_option maxHeartbeats 4000000 in
theorem heavy_wal (v1 : Value) (n1 : Nat) (LL : List (List Opm)) (ao : Option Addr) (a2 : Addr) (n2 c2 : Nat) (P : Nat → PV) (w : World) (h1 : Obs w v1 n1 LL) (h2 : Plans w ao a2 n2 P) :
    Calls Tryz.prog 11 #[v1, .slice ao n2 c2] w (HeavyW n1 n2 LL P w) := by
  obtain ⟨a1, c1, rfl⟩ := h1.shape
  have H1 := Lib.hid h1
  have H2 := Lib.hid h2
  have hm1 : n1 ≤ 9223372036854775807 := by have := h1.2.1; unfold maxLen at this; omega
  have hm2 : n2 ≤ 9223372036854775807 := by have := h2.len; unfold maxLen at this; omega
  have HM := Lib.hid (And.intro hm1 hm2)
  clear h1 h2
  go_enter Tryz.func11, Tryz.ntmps11
  by_cases x1 : 40 < n1
  · have y1 : (40 : Int) < (n1 : Int) := by omega
    go_wp2_with fail
    go_ret
    exact ⟨true, 0, rfl, rfl, fun h => by cases h⟩
  have y1 : ¬ (40 : Int) < (n1 : Int) := by omega
  by_cases x2 : 40 < n2
  · have y2 : (40 : Int) < (n2 : Int) := by omega
    go_wp2_with fail
    go_ret
    exact ⟨true, 0, rfl, rfl, fun h => by cases h⟩
  have y2 : ¬ (40 : Int) < (n2 : Int) := by omega
  have HN := Lib.hid (And.intro x1 x2)
  clear x1 x2
  go_wp2_with fail
  go_loopw [5] (fun i wr => ∃ k q : Nat, k ≤ n1 ∧ i = .int .i64 k ∧ wr = w.drewN q ∧ Hid (∀ (j : Nat) (L : List Opm), j < k → LL[j]? = some L → bulkO L ≤ 5000 ∧ L.length ≤ 60)) (fun i _ => n1 - (RowKit.intOf i).toNat)
  case atStart => exact ⟨0, 0, Nat.zero_le _, rfl, rfl, Lib.hid fun j L hj => absurd hj (Nat.not_lt_zero _)⟩
  case round =>
    obtain ⟨k, q, hk, rfl, rfl, hall⟩ := hrel
    by_cases h1 : k < n1
    · have h3 : (k : Int) < (n1 : Int) := by omega
      obtain ⟨a, L, ap, cp, rfl, hL, hc, hOp⟩ := H1.out.at h1
      obtain ⟨lL, hlL⟩ : ∃ lL, lL = L.length := ⟨_, rfl⟩
      rw [← hlL] at hc hOp
      have hc' : (w.drewN q).cell? (a.add k) = some (.slice ap lL cp) := hc
      have HX := Lib.hid (And.intro hL (And.intro hlL hOp))
      clear hc hL hlL hOp
      have G := great_ops _ lL L (w.drewN q) (HX.out.2.2.later (below_drewN (Below.refl _ w) q))
      go_wp2_with fail
      refine G.mono ?_
      rintro e wg ⟨g, q2, rfl, hwg, hb⟩
      have hcg : wg.cell? (a.add k) = some (.slice ap lL cp) := by rw [hwg]; exact hc'
      have HB := Lib.hid (And.intro hwg hb)
      clear G hb hwg hc'
      cases g with
      | true =>
        go_wp2_with fail
        go_ret
        exact ⟨true, q + q2, rfl, by rw [HB.out.1, drewN_two], fun h => by cases h⟩
      | false =>
        by_cases x3 : 60 < lL
        · have y3 : (60 : Int) < (lL : Int) := by omega
          go_wp2_with fail
          go_ret
          exact ⟨true, q + q2, rfl, by rw [HB.out.1, drewN_two], fun h => by cases h⟩
        · have y3 : ¬ (60 : Int) < (lL : Int) := by omega
          have hk9 : k < 9223372036854775807 := by omega
          go_wp2_with fail
          refine ⟨⟨k + 1, q + q2, by omega, by rw [Int.natCast_succ], by rw [HB.out.1, drewN_two], Lib.hid fun j L' hj hL' => ?_⟩, by simp [RowKit.intOf]; omega⟩
          by_cases hjk : j < k
          · exact hall.out j L' hjk hL'
          · obtain rfl : j = k := by omega
            have e := HX.out.1.symm.trans hL'
            cases e
            exact ⟨HB.out.2 trivial, by have := HX.out.2.1; omega⟩
    · obtain rfl : k = n1 := by omega
      have h3 : ¬ (k : Int) < (k : Int) := by omega
      have HF : Hid (k ≤ 40 ∧ n2 ≤ 40 ∧ ∀ (i : Nat) (L : List Opm), LL[i]? = some L → bulkO L ≤ 5000 ∧ L.length ≤ 60) := Lib.hid ⟨by have := HN.out.1; omega, by have := HN.out.2; omega, fun i L hL => hall.out i L (by have := (List.getElem?_eq_some_iff.1 hL).1; have := H1.out.1; omega) hL⟩
      clear hall H1 HN
      go_wp2_with fail
      go_loopw [6] (fun i wr => ∃ k2 : Nat, k2 ≤ n2 ∧ i = .int .i64 k2 ∧ wr = w.drewN q ∧ Hid (∀ j, j < k2 → (P j).zs.length ≤ 200 ∧ (P j).ks.length ≤ 50)) (fun i _ => n2 - (RowKit.intOf i).toNat)
      case atStart => exact ⟨0, Nat.zero_le _, rfl, rfl, Lib.hid fun j hj => absurd hj (Nat.not_lt_zero _)⟩
      case round =>
        obtain ⟨k2, hk2, rfl, rfl, hall⟩ := hrel
        by_cases h4 : k2 < n2
        · have h5 : (k2 : Int) < (n2 : Int) := by omega
          obtain rfl : ao = some a2 := by
            rcases H2.out.addr with h | ⟨_, h⟩
            · exact h
            · omega
          have hx := H2.out.at' k2 h4
          have c1 := hx.c1
          have c4 := hx.c4
          obtain ⟨aF, haF⟩ : ∃ x, x = (P k2).aF := ⟨_, rfl⟩
          obtain ⟨cF, hcF⟩ : ∃ x, x = (P k2).cF := ⟨_, rfl⟩
          obtain ⟨lF, hlF1⟩ : ∃ x, x = (P k2).zs.length := ⟨_, rfl⟩
          obtain ⟨aK, haK⟩ : ∃ x, x = (P k2).aK := ⟨_, rfl⟩
          obtain ⟨cK, hcK⟩ : ∃ x, x = (P k2).cK := ⟨_, rfl⟩
          obtain ⟨lK, hlK1⟩ : ∃ x, x = (P k2).ks.length := ⟨_, rfl⟩
          rw [add_fld5 _ _ _ (by omega)] at c1 c4
          rw [← haF, ← hcF, ← hlF1] at c1
          rw [← haK, ← hcK, ← hlK1] at c4
          have d1 : (w.drewN q).cell? ⟨(a2.add (k2 * 5)).block, (a2.add (k2 * 5)).off + 1, none⟩ = some (.slice aF lF cF) := c1
          have d4 : (w.drewN q).cell? ⟨(a2.add (k2 * 5)).block, (a2.add (k2 * 5)).off + 4, none⟩ = some (.slice aK lK cK) := c4
          have HX := Lib.hid (And.intro hlF1 hlK1)
          clear hx haF hcF hlF1 haK hcK hlK1 c1 c4
          by_cases x1 : 200 < lF
          · have y1 : (200 : Int) < (lF : Int) := by omega
            go_wp2_with fail
            go_ret
            exact ⟨true, q, rfl, rfl, fun h => by cases h⟩
          have y1 : ¬ (200 : Int) < (lF : Int) := by omega
          by_cases x2 : 50 < lK
          · have y2 : (50 : Int) < (lK : Int) := by omega
            go_wp2_with fail
            go_ret
            exact ⟨true, q, rfl, rfl, fun h => by cases h⟩
          have y2 : ¬ (50 : Int) < (lK : Int) := by omega
          have hk9 : k2 < 9223372036854775807 := by omega
          go_wp2_with fail
          refine ⟨⟨k2 + 1, by omega, by rw [Int.natCast_succ], trivial, Lib.hid fun j hj => ?_⟩, by simp [RowKit.intOf]; omega⟩
          by_cases hjk : j < k2
          · exact hall.out j hjk
          · obtain rfl : j = k2 := by omega
            exact ⟨by rw [← HX.out.1]; omega, by rw [← HX.out.2]; omega⟩
        · obtain rfl : k2 = n2 := by omega
          have h6 : ¬ (k2 : Int) < (k2 : Int) := by omega
          go_wp2_with fail
          go_ret
          exact ⟨false, q, rfl, rfl, fun _ => ⟨HF.out.1, HF.out.2.1, HF.out.2.2, hall.out⟩⟩
end Go.Proofs.YthcdkggkoanjpaaGreatDoor
namespace Go.Proofs.YthcdkggkoanjpaaGreatDoor
open Go.RowKit Go.Lib
section
variable {P : Program} {ops : Array Oper} {md : Region.Mode}
def relZ (GA GB : World → World → Prop) (z : Nat) (listed : Array Bool) : World → World → Prop := if listed.getD z true = true then GB else GA
theorem relZ_refl {GA GB : World → World → Prop} (a0 : ∀ w, GA w w) (b0 : ∀ w, GB w w) (z : Nat) (listed : Array Bool) (w : World) : relZ GA GB z listed w w := by
  unfold relZ; split
  · exact b0 w
  · exact a0 w
theorem relZ_trans {GA GB : World → World → Prop} (a1 : ∀ {a b c}, GA a b → GA b c → GA a c) (b1 : ∀ {a b c}, GB a b → GB b c → GB a c) (z : Nat) (listed : Array Bool) {a b c : World} (h : relZ GA GB z listed a b) (k : relZ GA GB z listed b c) : relZ GA GB z listed a c := by
  unfold relZ at *; split
  · rename_i h0; rw [if_pos h0] at h k; exact b1 h k
  · rename_i h0; rw [if_neg h0] at h k; exact a1 h k
theorem relZ_less {GA GB : World → World → Prop} (ba : ∀ {a b}, GB a b → GA a b) (z : Nat) {listed : Array Bool} {i : Nat} {a b : World} (h : relZ GA GB z (listed.setIfInBounds i true) a b) : relZ GA GB z listed a b := by
  unfold relZ at *
  by_cases h0 : listed.getD z true = true
  · rw [if_pos h0]
    have h1 : (listed.setIfInBounds i true).getD z true = true := by
      by_cases hiz : i = z
      · subst hiz
        simp [Array.getD]
      · rw [getD_set_ne true hiz]; exact h0
    rw [if_pos h1] at h
    exact h
  · rw [if_neg h0]
    split at h
    · exact ba h
    · exact h
def wpMvz (GA GB : World → World → Prop) (z : Nat) (P : Program) (md : Region.Mode) (ops : Array Oper) (Q : Act → World → Prop) : Nat → Array Bool → Act → World → Prop
  | 0, listed, a, w => Region.ready md ops listed = [] ∧ Q a w
  | fuel + 1, listed, a, w =>
    (Region.ready md ops listed = [] → Q a w) ∧
    ∀ i ∈ Region.ready md ops listed, mvOp P ops i (fun a' w' => relZ GA GB z listed w w' ∧ wpMvz GA GB z P md ops Q fuel (listed.setIfInBounds i true) a' w') a w
theorem wpAny_of_mvz {GA GB : World → World → Prop} {z : Nat} {Q : Act → World → Prop} {Q' : Exit → Act → World → Prop} (hQ : ∀ a w, Q a w → Q' .normal a w) : ∀ (fuel : Nat) (listed : Array Bool) (a : Act) (w : World),
    wpMvz GA GB z P md ops Q fuel listed a w → wpAny P md ops Q' fuel listed a w
  | 0, _, _, _, h => ⟨h.1, hQ _ _ h.2⟩
  | fuel + 1, _, _, _, h => ⟨fun h0 => hQ _ _ (h.1 h0), fun i hi => wpOp_mono (fun a' w' h' => wpAny_of_mvz hQ fuel _ a' w' h'.2) (wpOp_of_mvOp (h.2 i hi))⟩
theorem wpMvz_first {GA GB : World → World → Prop} {z : Nat} (a0 : ∀ w, GA w w) (b0 : ∀ w, GB w w) (a1 : ∀ {a b c}, GA a b → GA b c → GA a c) (b1 : ∀ {a b c}, GB a b → GB b c → GB a c) (ba : ∀ {a b}, GB a b → GA a b) {Q : Act → World → Prop} {i : Nat} {oi : Oper} {v : Value} (hi : ops[i]? = some oi) (hsel : ∀ (j : Nat) (o : Oper) cs b, ops[j]? = some o → o.op ≠ .select cs b) :
    ∀ (fuel : Nat) (listed : Array Bool) (a : Act) (w : World),
      (∀ j oj, ops[j]? = some oj → j ≠ i → listed.getD j true = false → (∀ e ∈ oj.after, Region.binds md e = true → e.on ≠ i) → oi.apart ops oj = true) →
      i ∈ Region.ready md ops listed → Upg (relZ GA GB z listed) P ops w oi v a →
      wpMvz GA GB z P md ops Q fuel (listed.setIfInBounds i true) (a.put oi.dst v) w → wpMvz GA GB z P md ops Q (fuel + 1) listed a w := by
  intro fuel
  induction fuel with
  | zero =>
    intro listed a w _ hr hy H
    refine ⟨fun h => (by rw [h] at hr; cases hr), fun j hj => ?_⟩
    by_cases hji : j = i
    · subst hji; exact YieldsAt.mvOp hi (hy w (relZ_refl a0 b0 z listed w)) ⟨relZ_refl a0 b0 z listed w, H⟩
    · have := ready_mono hj hji
      rw [H.1] at this
      cases this
  | succ fuel ih =>
    intro listed a w hfree hr hy H
    refine ⟨fun h => (by rw [h] at hr; cases hr), fun j hj => ?_⟩
    by_cases hji : j = i
    · subst hji; exact YieldsAt.mvOp hi (hy w (relZ_refl a0 b0 z listed w)) ⟨relZ_refl a0 b0 z listed w, H⟩
    · have h1 := mvOp_mono (K' := fun a' w' => relZ GA GB z listed w w' ∧ wpMvz GA GB z P md ops Q fuel ((listed.setIfInBounds i true).setIfInBounds j true) a' w') (fun a' w' h => ⟨relZ_less ba z h.1, h.2⟩) (H.2 j (ready_mono hj hji))
      obtain ⟨hjun, oj, hoj, hall⟩ := mem_ready.1 hj
      have hnot : ∀ e ∈ oj.after, Region.binds md e = true → e.on ≠ i := fun e he hb heq => by
        have h1 := hall e he hb
        have h0 := (mem_ready.1 hr).1
        rw [heq] at h1
        rcases Nat.lt_or_ge i listed.size with h' | h'
        · simp [h'] at h0 h1; rw [h0] at h1; cases h1
        · simp [Array.getElem?_eq_none h'] at h1
      have h2 := mvOp_putg (G := relZ GA GB z listed) (fun h k => relZ_trans (GA := GA) (GB := GB) a1 b1 z listed h k) hoj (hfree j oj hoj hji hjun hnot) (fun cs b => hsel i oi cs b hi) (fun cs b => hsel j oj cs b hoj) hy h1
      have hfree' : ∀ k ok, ops[k]? = some ok → k ≠ i → (listed.setIfInBounds j true).getD k true = false →
          (∀ e ∈ ok.after, Region.binds md e = true → e.on ≠ i) → oi.apart ops ok = true := fun k ok hk hki hun hno => by
        refine hfree k ok hk hki ?_ hno
        by_cases hjk : j = k
        · subst hjk; exact hjun
        · rw [getD_set_ne true hjk] at hun; exact hun
      refine mvOp_mono (fun a' w' h3 => ⟨h3.1, ih (listed.setIfInBounds j true) a' w' hfree' (ready_mono hr (Ne.symm hji)) (fun w'' hg => h3.2.1 w'' (relZ_less ba z hg)) ?_⟩) h2
      rw [Array.setIfInBounds_comm _ _ hji]
      exact h3.2.2
def wpLinz (GA GB : World → World → Prop) (z : Nat) (P : Program) (ops : Array Oper) (Q : Act → World → Prop) : List (Nat × Bool × Oper) → Bool → Act → World → Prop
  | [], _, a, w => Q a w
  | (k, true, o) :: r, b, a, w => ∃ v, Upg (cond b GB GA) P ops w o v a ∧ wpLinz GA GB z P ops Q r (b || k == z) (a.put o.dst v) w
  | (k, false, o) :: r, b, a, w => mvRun P ops o (fun a' w' => (cond b GB GA) w w' ∧ wpLinz GA GB z P ops Q r (b || k == z) a' w') a w
theorem rel_flag {GA GB : World → World → Prop} {z : Nat} {listed : Array Bool} {b : Bool} (hb : listed.getD z true = b) : relZ GA GB z listed = cond b GB GA := by
  unfold relZ
  rw [hb]
  cases b <;> rfl
theorem flag_next {z k : Nat} {listed : Array Bool} {b : Bool} (hb : listed.getD z true = b) : (listed.setIfInBounds k true).getD z true = (b || k == z) := by
  by_cases hkz : k = z
  · subst hkz
    simp [Array.getD]
  · rw [getD_set_ne true hkz, hb]
    have : (k == z) = false := by simpa using hkz
    rw [this, Bool.or_false]
theorem wpMvz_of_lin {GA GB : World → World → Prop} {z : Nat} (a0 : ∀ w, GA w w) (b0 : ∀ w, GB w w) (a1 : ∀ {a b c}, GA a b → GA b c → GA a c) (b1 : ∀ {a b c}, GB a b → GB b c → GB a c) (ba : ∀ {a b}, GB a b → GA a b) {Q : Act → World → Prop} (hs : Region.noSelect ops = true) : ∀ (l : List (Nat × Bool × Oper)) (listed : Array Bool) (b : Bool) (a : Act) (w : World), listed.getD z true = b → (∀ x ∈ l, ops[x.1]? = some x.2.2) →
    mvB md ops l listed = true → wpLinz GA GB z P ops Q l b a w → wpMvz GA GB z P md ops Q l.length listed a w
  | [], _, _, _, _, _, _, hB, h => ⟨by simpa [mvB] using hB, h⟩
  | (k, true, o) :: r, listed, b, a, w, hb, hat, hB, h => by
    simp only [mvB, Bool.and_eq_true] at hB
    obtain ⟨v, hy, hK⟩ := h
    have h0 : ops[k]? = some o := hat (k, true, o) (List.mem_cons_self ..)
    exact wpMvz_first a0 b0 a1 b1 ba h0 (Region.noSelect_spec hs) r.length listed a w (Region.free_spec h0 hB.1.2) (by simpa using hB.1.1) (by rw [rel_flag hb]; exact hy)
      (wpMvz_of_lin a0 b0 a1 b1 ba hs r _ _ _ w (flag_next hb) (fun x hx => hat x (by simp [hx])) hB.2 hK)
  | (k, false, o) :: r, listed, b, a, w, hb, hat, hB, h => by
    simp only [mvB, Bool.and_eq_true, decide_eq_true_eq] at hB
    refine ⟨fun h1 => (by rw [hB.1] at h1; cases h1), fun i hi => ?_⟩
    rw [hB.1] at hi
    obtain rfl : i = k := by simpa using hi
    have h0 : ops[i]? = some o := hat (i, false, o) (List.mem_cons_self ..)
    have hm : mvOp P ops i (fun a' w' => (cond b GB GA) w w' ∧ wpLinz GA GB z P ops Q r (b || i == z) a' w') a w := by unfold mvOp; simp only [h0]; exact h
    exact mvOp_mono (fun a' w' h' => ⟨by rw [rel_flag hb]; exact h'.1, wpMvz_of_lin a0 b0 a1 b1 ba hs r _ _ a' w' (flag_next hb) (fun x hx => hat x (by simp [hx])) hB.2 h'.2⟩) hm
theorem wp_region_mvz (GA GB : World → World → Prop) (z : Nat) (a0 : ∀ w, GA w w) (b0 : ∀ w, GB w w) (a1 : ∀ {a b c}, GA a b → GA b c → GA a c) (b1 : ∀ {a b c}, GB a b → GB b c → GB a c) (ba : ∀ {a b}, GB a b → GA a b) {id : Nat} {Q : Exit → Act → World → Prop} {a : Act} {w : World} {l : List Oper} (segs : List (Nat × Nat × Bool)) (hm : P.follows .mixedOrders = true) (hz : decide (z < l.length) = true) (hB : mvOk l.toArray (mvAll segs l) = true)
    (h : wpLinz GA GB z P l.toArray (fun a' w' => Q .normal a' w') (mvAll segs l) false a w.drew) : (Code.region id l.toArray true).wp P Q a w := by
  simp only [mvOk, Bool.and_eq_true, beq_iff_eq] at hB
  refine wp_region_any hm (wpAny_of_mvz (GA := GA) (GB := GB) (z := z) (Q := fun a' w' => Q .normal a' w') (fun _ _ h => h) _ _ _ _ ?_)
  have hz' : z < l.length := of_decide_eq_true hz
  have := wpMvz_of_lin (md := .any) a0 b0 a1 b1 ba hB.1.1 (mvAll segs l) (Array.replicate l.toArray.size false) false a w.drew (by simp [Array.getD, hz']) (mvAll_at l segs) hB.2 h
  rw [hB.1.2] at this
  exact this
theorem wpLz_nil {GA GB : World → World → Prop} {z : Nat} {b : Bool} {Q : Act → World → Prop} {a : Act} {w : World} (h : Q a w) : wpLinz GA GB z P ops Q [] b a w := h
theorem ups_of {G : World → World → Prop} {o : Oper} {a : Act} {w : World} (v : Value) (hv : ∀ w', G w w' → ∀ K : Value → Prop, K v → mvVal P ops o a w' K) : Upg G P ops w o v a := fun w' hg => by
  have := hv w' hg (fun u => u = v) rfl
  unfold mvVal at this
  unfold YieldsAt
  by_cases hw : Region.wanted o (yielded ops a.tmps) = true
  · left
    rw [if_pos hw] at this
    refine ⟨hw, ?_⟩
    split at this
    · next heq => obtain ⟨rfl, rfl⟩ := this; exact .inl heq
    · next heq => obtain ⟨rfl, rfl⟩ := this; exact .inr (.inl ⟨heq, rfl⟩)
    · next heq => obtain ⟨rfl, u, hc, rfl⟩ := this; exact .inr (.inr ⟨_, _, heq, hc⟩)
    · exact this.elim
  · right
    rw [if_neg hw] at this
    exact ⟨by simpa using hw, this.symm⟩
theorem wpLza_still {GA GB : World → World → Prop} {z : Nat} {Q : Act → World → Prop} {k : Nat} {o : Oper} {r : List (Nat × Bool × Oper)} {a : Act} {w : World} (hk : (k == z) = false) (v : Value) (hv : ∀ w', GA w w' → ∀ K : Value → Prop, K v → mvVal P ops o a w' K)
    (h : ∀ K : Act → Prop, (∀ a, wpLinz GA GB z P ops Q r false a w → K a) → K (a.put o.dst v)) : wpLinz GA GB z P ops Q ((k, true, o) :: r) false a w :=
  ⟨v, ups_of v hv, by rw [Bool.false_or, hk]; exact h _ fun _ h => h⟩
theorem wpLza_call {GA GB : World → World → Prop} {z : Nat} {Q : Act → World → Prop} {k : Nat} {o : Oper} {r : List (Nat × Bool × Oper)} {a : Act} {w : World} (hk : (k == z) = false)
    (h : ∀ K : Act → World → Prop, (∀ a w', GA w w' → wpLinz GA GB z P ops Q r false a w' → K a w') → mvRun P ops o K a w) : wpLinz GA GB z P ops Q ((k, false, o) :: r) false a w :=
  mvRun_mono (fun _ _ h => ⟨h.1, by rw [Bool.false_or, hk]; exact h.2⟩) (h (fun a' w' => GA w w' ∧ wpLinz GA GB z P ops Q r false a' w') fun _ _ hg hk => ⟨hg, hk⟩)
theorem wpLz_turn {GA GB : World → World → Prop} {z : Nat} {Q : Act → World → Prop} {o : Oper} {r : List (Nat × Bool × Oper)} {a : Act} {w : World}
    (h : ∀ K : Act → World → Prop, (∀ a w', GA w w' → wpLinz GA GB z P ops Q r true a w' → K a w') → mvRun P ops o K a w) : wpLinz GA GB z P ops Q ((z, false, o) :: r) false a w :=
  mvRun_mono (fun _ _ h => ⟨h.1, by rw [Bool.false_or, beq_self_eq_true]; exact h.2⟩) (h (fun a' w' => GA w w' ∧ wpLinz GA GB z P ops Q r true a' w') fun _ _ hg hk => ⟨hg, hk⟩)
theorem wpLzb_still {GA GB : World → World → Prop} {z : Nat} {Q : Act → World → Prop} {k : Nat} {o : Oper} {r : List (Nat × Bool × Oper)} {a : Act} {w : World} (v : Value) (hv : ∀ w', GB w w' → ∀ K : Value → Prop, K v → mvVal P ops o a w' K)
    (h : ∀ K : Act → Prop, (∀ a, wpLinz GA GB z P ops Q r true a w → K a) → K (a.put o.dst v)) : wpLinz GA GB z P ops Q ((k, true, o) :: r) true a w :=
  ⟨v, ups_of v hv, by rw [Bool.true_or]; exact h _ fun _ h => h⟩
theorem wpLzb_call {GA GB : World → World → Prop} {z : Nat} {Q : Act → World → Prop} {k : Nat} {o : Oper} {r : List (Nat × Bool × Oper)} {a : Act} {w : World}
    (h : ∀ K : Act → World → Prop, (∀ a w', GB w w' → wpLinz GA GB z P ops Q r true a w' → K a w') → mvRun P ops o K a w) : wpLinz GA GB z P ops Q ((k, false, o) :: r) true a w :=
  mvRun_mono (fun _ _ h => ⟨h.1, by rw [Bool.true_or]; exact h.2⟩) (h (fun a' w' => GB w w' ∧ wpLinz GA GB z P ops Q r true a' w') fun _ _ hg hk => ⟨hg, hk⟩)
end
end Go.Proofs.YthcdkggkoanjpaaGreatDoor
