/- StoreRoom, walked over what is asked of the code's store. Numbers and types by name. -/
import Derived.Test.YthcdkggkoanjpaaGreatDoorBel
import Derived.Test.YthcdkggkoanjpaaGreatDoorBe4
import Derived.ProofKit
import Derived.Deep.Slices
import Derived.BigRegion
import Derived.RegionTactic
import Derived.ChangeAlike
import Derived.Maps.OwnSet
import Derived.Sort.KeysCollected
import Derived.WalkSpells
import Derived.StillTactics
import Derived.StillTailTactics
import Derived.Test.YthcdkggkoanjpaaGreatDoorDig
import Derived.Test.YthcdkggkoanjpaaGreatDoorPlk
import Derived.Test.YthcdkggkoanjpaaGreatDoorRwv
import Derived.Shelf.SlSortCmp.KitK
import Derived.Lib.Bytealg
import Derived.Sort.Grow
import Derived.Lib.AppendZerosOnto
import Derived.Lib.SliceRun
import Derived.Shelf.SlSortCmp.QuietGrown
import Derived.WalkMore
import Derived.Test.YthcdkggkoanjpaaGreatDoorStg
import Derived.Test.YthcdkggkoanjpaaGreatDoorObz
/- Lists of lists of ops that came in. Numbers and types by name. -/
namespace Go.Proofs.YthcdkggkoanjpaaGreatDoor
open Go.ChangeShapes Go.WideShapes Go.ChangeAt Go.RowKit Go.Lib Go.Deep
theorem cellsOpsK : Tryz.prog.cellsOf 52 = 1 := by kernel_rfl
theorem open_batches {H : Type} {enc : TypeId × Value → H} {W : World} {base : Nat} {spare : Nat → Bool} {held : Bool} {fuel : Nat} {a0 : Option Addr} {len cap : Nat} {x : DataW H × List MemPlace}
    (h : DataW.trod enc Tryz.prog W base spare held fuel 23 [.slice a0 len cap] = some x) : ∃ LL : List (List Opm), Obs W (.slice a0 len cap) len LL := by
  rcases open_slice1 Tryz.underlying23 cellsOpsK h with ⟨hcs, _⟩ | ⟨a, len', cap', m, n, V, D, Pl, hcs, _, hl, hm, hmm, _, hcell⟩
  · simp only [List.cons.injEq, Value.slice.injEq, and_true] at hcs
    obtain ⟨rfl, rfl, rfl⟩ := hcs
    exact ⟨[], Obs.nil W⟩
  · simp only [List.cons.injEq, Value.slice.injEq, and_true] at hcs
    obtain ⟨rfl, rfl, rfl⟩ := hcs
    have hlm : len ≤ m := by rw [hmm]; split <;> omega
    have each : ∀ i, i < len → ∃ y : Option Addr × Nat × List Opm, V i = .slice y.1 y.2.2.length y.2.1 ∧ Opr W (.slice y.1 y.2.2.length y.2.1) y.2.2.length y.2.2 := by
      intro i hi
      have h2 := (hcell i (by omega)).2
      obtain ⟨ai, li, ci, hv⟩ : ∃ ai li ci, V i = .slice ai li ci := by
        rcases open_slice Tryz.underlying52 h2 with ⟨e, _⟩ | ⟨b, l2, c2, _, _, _, _, e, _⟩
        · exact ⟨none, 0, 0, by simpa using e⟩
        · exact ⟨some b, l2, c2, by simpa using e⟩
      rw [hv] at h2
      obtain ⟨L, hL⟩ := open_ops h2
      have e := hL.1
      subst e
      exact ⟨(ai, ci, L), hv, hL⟩
    obtain ⟨y, hy⟩ := choose_lt each
    refine ⟨(List.range len).map fun i => (y i).2.2, by simp, Nat.le_trans hl hm, (List.range len).map V, ⟨some a, cap, by simp, by simpa using hl, (fun e => by cases e), fun a' ha j u hj => ?_⟩, by simp, by simp, fun j p hj => ?_⟩
    · cases ha
      have hj1 : j < len := by
        have := (List.getElem?_eq_some_iff.1 hj).1
        simpa using this
      rw [(hcell j (by omega)).1]
      simpa [hj1] using hj
    · have hj1 : j < len := by
        have := (List.getElem?_eq_some_iff.1 hj).1
        simpa using this
      have e : (y j).2.2 = p := by simpa [hj1] using hj
      obtain ⟨e1, e2⟩ := hy j hj1
      rw [e] at e1 e2
      exact ⟨(y j).1, (y j).2.1, by simp [hj1, e1], e2⟩
end Go.Proofs.YthcdkggkoanjpaaGreatDoor

/- A list of acts that came in, of bounded bulk; a plan. Numbers and types by name. -/
namespace Go.Proofs.YthcdkggkoanjpaaGreatDoor
open Go.ChangeShapes Go.WideShapes Go.ChangeAt Go.RowKit Go.Deep
structure PV where
  cap : Int
  aF : Option Addr
  cF : Nat
  zs : List Int
  cr : Int
  dn : Bool
  aK : Option Addr
  cK : Nat
  ks : List Int
structure PlanOk (w : World) (p : PV) : Prop where
  cap : p.cap ≤ 9223372036854775807
  rF : Reads w (.slice p.aF p.zs.length p.cF) (iv p.zs)
  rK : Reads w (.slice p.aK p.ks.length p.cK) (iv p.ks)
  lF : p.zs.length ≤ maxLen
  lK : p.ks.length ≤ maxLen
end Go.Proofs.YthcdkggkoanjpaaGreatDoor

/- Lists of plans that came in; the reference's new disk out of a plan that was there. Numbers and types by name. -/
namespace Go.Proofs.YthcdkggkoanjpaaGreatDoor
open Go.RowKit Go.Lib
set_option maxRecDepth 100000
structure PlanAt (w : World) (a : Addr) (i : Nat) (p : PV) : Prop where
  c0 : w.cell? (a.add (i * 5)) = some (.int .i64 p.cap)
  c1 : w.cell? (a.add (i * 5 + 1)) = some (.slice p.aF p.zs.length p.cF)
  c2 : w.cell? (a.add (i * 5 + 2)) = some (.int .i64 p.cr)
  c3 : w.cell? (a.add (i * 5 + 3)) = some (.bool p.dn)
  c4 : w.cell? (a.add (i * 5 + 4)) = some (.slice p.aK p.ks.length p.cK)
  ok : PlanOk w p
structure Plans (w : World) (ao : Option Addr) (a : Addr) (n : Nat) (P : Nat → PV) : Prop where
  addr : ao = some a ∨ ao = none ∧ n = 0
  len : n ≤ maxLen
  at' : ∀ i, i < n → PlanAt w a i (P i)
theorem add_fld5 (a : Addr) (m j : Nat) (hj : 0 < j) : a.add (m + j) = ⟨(a.add m).block, (a.add m).off + j, none⟩ := by
  unfold Addr.add
  rw [if_neg (by omega)]
  by_cases hm : m = 0
  · simp [hm]
  · simp [hm]; omega
theorem drewN_two (w : World) (a b : Nat) : (w.drewN a).drewN b = w.drewN (a + b) := by
  unfold World.drewN
  simp only [Nat.add_assoc]
end Go.Proofs.YthcdkggkoanjpaaGreatDoor

/- The logs' Heavy, walked; a list of plans. Numbers and types by name. -/
namespace Go.Proofs.YthcdkggkoanjpaaGreatDoor
open Go.RowKit Go.Lib
set_option maxRecDepth 100000
def LightW (n1 n2 : Nat) (LL : List (List Opm)) (P : Nat → PV) : Prop :=
  n1 ≤ 40 ∧ n2 ≤ 40 ∧ (∀ (i : Nat) (L : List Opm), LL[i]? = some L → bulkO L ≤ 5000 ∧ L.length ≤ 60) ∧ ∀ i, i < n2 → (P i).zs.length ≤ 200 ∧ (P i).ks.length ≤ 50
def HeavyW (n1 n2 : Nat) (LL : List (List Opm)) (P : Nat → PV) (w : World) (e : Ending) (w' : World) : Prop := ∃ g k, e = .returned (.bool g) ∧ w' = w.drewN k ∧ (g = false → LightW n1 n2 LL P)
set_option maxHeartbeats 4000000 in
theorem heavy_wal (v1 : Value) (n1 : Nat) (LL : List (List Opm)) (ao : Option Addr) (a2 : Addr) (n2 c2 : Nat) (P : Nat → PV) (w : World) (h1 : Obs w v1 n1 LL) (h2 : Plans w ao a2 n2 P) :
    Calls Tryz.prog 11 #[v1, .slice ao n2 c2] w (HeavyW n1 n2 LL P w) := by
  obtain ⟨a1, c1, rfl⟩ := h1.shape
  have H1 := Lib.hid h1
  have H2 := Lib.hid h2
  have hm1 : n1 ≤ 9223372036854775807 := by have := h1.2.1; unfold maxLen at this; omega
  have hm2 : n2 ≤ 9223372036854775807 := by have := h2.len; unfold maxLen at this; omega
  have HM := Lib.hid (And.intro hm1 hm2)
  clear h1 h2
  go_enter Tryz.func11, Tryz.ntmps11
  by_cases x1 : 40 < n1
  · have y1 : (40 : Int) < (n1 : Int) := by omega
    go_wp2_with fail
    go_ret
    exact ⟨true, 0, rfl, rfl, fun h => by cases h⟩
  have y1 : ¬ (40 : Int) < (n1 : Int) := by omega
  by_cases x2 : 40 < n2
  · have y2 : (40 : Int) < (n2 : Int) := by omega
    go_wp2_with fail
    go_ret
    exact ⟨true, 0, rfl, rfl, fun h => by cases h⟩
  have y2 : ¬ (40 : Int) < (n2 : Int) := by omega
  have HN := Lib.hid (And.intro x1 x2)
  clear x1 x2
  go_wp2_with fail
  go_loopw [5] (fun i wr => ∃ k q : Nat, k ≤ n1 ∧ i = .int .i64 k ∧ wr = w.drewN q ∧ Hid (∀ (j : Nat) (L : List Opm), j < k → LL[j]? = some L → bulkO L ≤ 5000 ∧ L.length ≤ 60)) (fun i _ => n1 - (RowKit.intOf i).toNat)
  case atStart => exact ⟨0, 0, Nat.zero_le _, rfl, rfl, Lib.hid fun j L hj => absurd hj (Nat.not_lt_zero _)⟩
  case round =>
    obtain ⟨k, q, hk, rfl, rfl, hall⟩ := hrel
    by_cases h1 : k < n1
    · have h3 : (k : Int) < (n1 : Int) := by omega
      obtain ⟨a, L, ap, cp, rfl, hL, hc, hOp⟩ := H1.out.at h1
      obtain ⟨lL, hlL⟩ : ∃ lL, lL = L.length := ⟨_, rfl⟩
      rw [← hlL] at hc hOp
      have hc' : (w.drewN q).cell? (a.add k) = some (.slice ap lL cp) := hc
      have HX := Lib.hid (And.intro hL (And.intro hlL hOp))
      clear hc hL hlL hOp
      have G := great_ops _ lL L (w.drewN q) (HX.out.2.2.later (below_drewN (Below.refl _ w) q))
      go_wp2_with fail
      refine G.mono ?_
      rintro e wg ⟨g, q2, rfl, hwg, hb⟩
      have hcg : wg.cell? (a.add k) = some (.slice ap lL cp) := by rw [hwg]; exact hc'
      have HB := Lib.hid (And.intro hwg hb)
      clear G hb hwg hc'
      cases g with
      | true =>
        go_wp2_with fail
        go_ret
        exact ⟨true, q + q2, rfl, by rw [HB.out.1, drewN_two], fun h => by cases h⟩
      | false =>
        by_cases x3 : 60 < lL
        · have y3 : (60 : Int) < (lL : Int) := by omega
          go_wp2_with fail
          go_ret
          exact ⟨true, q + q2, rfl, by rw [HB.out.1, drewN_two], fun h => by cases h⟩
        · have y3 : ¬ (60 : Int) < (lL : Int) := by omega
          have hk9 : k < 9223372036854775807 := by omega
          go_wp2_with fail
          refine ⟨⟨k + 1, q + q2, by omega, by rw [Int.natCast_succ], by rw [HB.out.1, drewN_two], Lib.hid fun j L' hj hL' => ?_⟩, by simp [RowKit.intOf]; omega⟩
          by_cases hjk : j < k
          · exact hall.out j L' hjk hL'
          · obtain rfl : j = k := by omega
            have e := HX.out.1.symm.trans hL'
            cases e
            exact ⟨HB.out.2 trivial, by have := HX.out.2.1; omega⟩
    · obtain rfl : k = n1 := by omega
      have h3 : ¬ (k : Int) < (k : Int) := by omega
      have HF : Hid (k ≤ 40 ∧ n2 ≤ 40 ∧ ∀ (i : Nat) (L : List Opm), LL[i]? = some L → bulkO L ≤ 5000 ∧ L.length ≤ 60) := Lib.hid ⟨by have := HN.out.1; omega, by have := HN.out.2; omega, fun i L hL => hall.out i L (by have := (List.getElem?_eq_some_iff.1 hL).1; have := H1.out.1; omega) hL⟩
      clear hall H1 HN
      go_wp2_with fail
      go_loopw [6] (fun i wr => ∃ k2 : Nat, k2 ≤ n2 ∧ i = .int .i64 k2 ∧ wr = w.drewN q ∧ Hid (∀ j, j < k2 → (P j).zs.length ≤ 200 ∧ (P j).ks.length ≤ 50)) (fun i _ => n2 - (RowKit.intOf i).toNat)
      case atStart => exact ⟨0, Nat.zero_le _, rfl, rfl, Lib.hid fun j hj => absurd hj (Nat.not_lt_zero _)⟩
      case round =>
        obtain ⟨k2, hk2, rfl, rfl, hall⟩ := hrel
        by_cases h4 : k2 < n2
        · have h5 : (k2 : Int) < (n2 : Int) := by omega
          obtain rfl : ao = some a2 := by
            rcases H2.out.addr with h | ⟨_, h⟩
            · exact h
            · omega
          have hx := H2.out.at' k2 h4
          have c1 := hx.c1
          have c4 := hx.c4
          obtain ⟨aF, haF⟩ : ∃ x, x = (P k2).aF := ⟨_, rfl⟩
          obtain ⟨cF, hcF⟩ : ∃ x, x = (P k2).cF := ⟨_, rfl⟩
          obtain ⟨lF, hlF1⟩ : ∃ x, x = (P k2).zs.length := ⟨_, rfl⟩
          obtain ⟨aK, haK⟩ : ∃ x, x = (P k2).aK := ⟨_, rfl⟩
          obtain ⟨cK, hcK⟩ : ∃ x, x = (P k2).cK := ⟨_, rfl⟩
          obtain ⟨lK, hlK1⟩ : ∃ x, x = (P k2).ks.length := ⟨_, rfl⟩
          rw [add_fld5 _ _ _ (by omega)] at c1 c4
          rw [← haF, ← hcF, ← hlF1] at c1
          rw [← haK, ← hcK, ← hlK1] at c4
          have d1 : (w.drewN q).cell? ⟨(a2.add (k2 * 5)).block, (a2.add (k2 * 5)).off + 1, none⟩ = some (.slice aF lF cF) := c1
          have d4 : (w.drewN q).cell? ⟨(a2.add (k2 * 5)).block, (a2.add (k2 * 5)).off + 4, none⟩ = some (.slice aK lK cK) := c4
          have HX := Lib.hid (And.intro hlF1 hlK1)
          clear hx haF hcF hlF1 haK hcK hlK1 c1 c4
          by_cases x1 : 200 < lF
          · have y1 : (200 : Int) < (lF : Int) := by omega
            go_wp2_with fail
            go_ret
            exact ⟨true, q, rfl, rfl, fun h => by cases h⟩
          have y1 : ¬ (200 : Int) < (lF : Int) := by omega
          by_cases x2 : 50 < lK
          · have y2 : (50 : Int) < (lK : Int) := by omega
            go_wp2_with fail
            go_ret
            exact ⟨true, q, rfl, rfl, fun h => by cases h⟩
          have y2 : ¬ (50 : Int) < (lK : Int) := by omega
          have hk9 : k2 < 9223372036854775807 := by omega
          go_wp2_with fail
          refine ⟨⟨k2 + 1, by omega, by rw [Int.natCast_succ], trivial, Lib.hid fun j hj => ?_⟩, by simp [RowKit.intOf]; omega⟩
          by_cases hjk : j < k2
          · exact hall.out j hjk
          · obtain rfl : j = k2 := by omega
            exact ⟨by rw [← HX.out.1]; omega, by rw [← HX.out.2]; omega⟩
        · obtain rfl : k2 = n2 := by omega
          have h6 : ¬ (k2 : Int) < (k2 : Int) := by omega
          go_wp2_with fail
          go_ret
          exact ⟨false, q, rfl, rfl, fun _ => ⟨HF.out.1, HF.out.2.1, HF.out.2.2, hall.out⟩⟩
end Go.Proofs.YthcdkggkoanjpaaGreatDoor

/- The reference's store: Commit. Numbers and types by name. -/
namespace Go.Proofs.YthcdkggkoanjpaaGreatDoor
open Go.RowKit Go.Lib
set_option maxRecDepth 100000
theorem own_prr {w : World} {base q c : Nat} {ao : Option Addr} {L : List Prm} (h : OwnP w base (.slice ao q c) L) (hq : q = L.length) (hb : bulkP L ≤ 650000) : Prr w (.slice ao q c) q L := by
  have h1 := Cells.own (show w.ownsRow _ 90 2 (.slice ao q c) _ (pvs L) from h) (by decide)
  rw [← hq] at h1
  have h2 := bulkP_len L
  have h3 := hb
  refine ⟨hq, by unfold maxLen; omega, h1, fun o ho => ?_⟩
  have : 1 + o.key.size + o.val.size ≤ bulkP L := by
    clear h hq hb h1 h2 h3
    induction L with
    | nil => cases ho
    | cons y l ih =>
      rw [bulkP_cons]
      rcases List.mem_cons.1 ho with rfl | ho
      · omega
      · have := ih ho; omega
  unfold maxLen
  omega
end Go.Proofs.YthcdkggkoanjpaaGreatDoor

namespace Go.Proofs.YthcdkggkoanjpaaGreatDoor
open Go.RowKit Go.Lib
set_option maxRecDepth 100000
def CalmAt (C : SP) (w0 wr : World) (base b x : Nat) (most cap : Int) (k : Nat) (sv : Value) (sq : Nat) : Prop :=
  ∃ M n L S B O F, PS (k + 1) M n false L S B O [] ∧ Still8 M ∧ M.cap = cap ∧ Sess C w0 wr base b x M n false L most F ∧ PRow wr F sv sq L
theorem sure_next {C : SP} {I : SI} (K : StK C I) {w0 w w' : World} {base b x : Nat} {M : MD} {n : Nat} {s : Bool} {L X : List Prm} {most : Int} {F : List Nat} {ao : Option Addr} {q c : Nat} (h : Sess C w0 w base b x M n s L most F) (ho : OwnP w' w.heap.size (.slice ao q c) X) (hq : q = X.length) (hb : bulkP X ≤ 650000) (hg : Below w.heap.size w w') :
    Sess C w0 w' base b x M n s L most F ∧ PRow w' F (.slice ao q c) q X :=
  ⟨h.new K (tb9 hg), PRow.fresh (w := w) (own_prr ho hq hb) (fun a ha => (World.ownsRow.lt ho a ha).1) (fun k hk => (K.lt h.1 k hk).2)⟩
set_option maxHeartbeats 8000000 in
theorem room_store {C : SP} {I : SI} (K : StK C I) (v1 : Value) (n1 : Nat) (LL : List (List Opm)) (zr zm : Nat) (w : World) (h1 : Obs w v1 n1 LL) (hzr : zr < 65536) (hzm : zm < 65536) (ht : Tab w) :
    Calls Tryz.prog 6 #[v1, .int .u16 zr, .int .u16 zm] w fun e w' => e = .returned (.bool true) ∧ Below w.heap.size w w' := by
  obtain ⟨a1, c1, rfl⟩ := h1.shape
  have hn1 := h1.2.1
  unfold maxLen at hn1
  have H1 := Lib.hid h1
  have HT := Lib.hid ht
  have HK := Lib.hid K
  have hC := heavy_wal (.slice a1 n1 c1) n1 LL none ⟨0, 0, none⟩ 0 0 (fun _ => ⟨0, none, 0, [], 0, false, none, 0, []⟩) w h1 ⟨.inr ⟨rfl, rfl⟩, Nat.zero_le _, fun i hi => absurd hi (Nat.not_lt_zero _)⟩
  obtain ⟨kr, hkr⟩ : ∃ kr, kr = zr % 5000 := ⟨_, rfl⟩
  obtain ⟨km, hkm⟩ : ∃ km, km = zm % 400 := ⟨_, rfl⟩
  have r1 : Int.tmod (zr : Int) 5000 = (kr : Int) := by rw [hkr]; exact Int.ofNat_tmod zr 5000
  have r2 : (zr : Int) % 5000 = (kr : Int) := by rw [hkr]; omega
  have r3 : Int.tmod (zm : Int) 400 = (km : Int) := by rw [hkm]; exact Int.ofNat_tmod zm 400
  have r4 : (zm : Int) % 400 = (km : Int) := by rw [hkm]; omega
  have HKR := Lib.hid (show kr < 5000 by omega)
  clear h1 ht K hkr hkm
  go_enter Tryz.func6, Tryz.ntmps6
  go_wp2_with fail
  refine hC.mono ?_
  rintro e w1 ⟨g, q, rfl, hw1, hb⟩
  have B1 : Hid (Grow w w1) := Lib.hid (show Grow w w1 by rw [hw1]; exact below_drewN (Below.refl _ w) q)
  clear hC hw1
  cases g with
  | true =>
    clear hb
    go_wp2_with (go_at_call 12; refine (awake_store HK.out _ (HT.out.later B1.out)).mono ?_; rintro e w' ⟨rfl, hb9⟩)
    go_ret
    exact ⟨rfl, B1.out.trans hb9⟩
  | false =>
  have HL := Lib.hid (hb rfl)
  clear hb
  have N0 := new_cd (kr : Int) 0 false (.slice none 0 0) (.slice none 0 0) [] [] w1 (Reads.nil w1) (Reads.nil w1) (by simp) (by simp)
  obtain ⟨M0, e0⟩ : ∃ M, M = MD.new (kr : Int) 0 false [] [] := ⟨_, rfl⟩
  rw [← e0] at N0
  have HM0 := Lib.hid e0
  clear e0
  go_wp2_with fail
  refine N0.mono ?_
  rintro e w2 ⟨b, F2, rfl, hc2, t2⟩
  have p0 : PD 0 M0 [] [] [] [] := by rw [HM0.out]; exact pd_new _ _ _ _ _ (by have := HKR.out; omega) (by simp) (by simp)
  have s0 : Still8 M0 := by rw [HM0.out]; exact still_new _
  obtain ⟨c1', c2', c3', c4', c5'⟩ := calm_new p0 Meas.nil s0
  have hs2 : SesD w w2 w1.heap.size b M0 F2 := ⟨hc2, B1.out.trans (tg9 t2), B1.out.size⟩
  have O2 := sess_open HK.out (km : Int) hs2 HT.out (p0.ofit (by decide) (by decide)) c1'
  have HO := Lib.hid (And.intro c2' (And.intro c3' (And.intro c4' (And.intro c5' B1.out.size))))
  unfold theDisk theSt at O2
  unfold theDisk
  clear hc2 t2 p0 s0 c1' c2' c3' c4' c5' hs2 N0
  go_wp2_with fail
  refine O2.mono ?_
  rintro e w3 ⟨x, rfl, F3, hs3, k3, t3⟩
  have H3 : Hid (CalmAt C w w3 w1.heap.size b x (max (km : Int) 0) (kr : Int) 0 (.slice none 0 0) 0) := Lib.hid ⟨_, _, _, _, _, _, F3, HO.out.2.2.2.1, HO.out.1, HO.out.2.1.trans (by rw [HM0.out]; rfl), hs3, by rw [HO.out.2.2.1]; exact PRow.nil w3 F3⟩
  clear hs3 k3 t3 O2
  go_wp2_with (go_at_call 17; refine (num_at _ _).mono ?_; rintro e w' ⟨rfl, rfl⟩)
  clear r1 r2 r3 r4
  go_loopw [11, 12] (fun sv iv wr => ∃ (k sq c : Nat) (ao : Option Addr), k ≤ n1 ∧ iv = .int .i64 k ∧ sv = .slice ao sq c ∧ Hid (CalmAt C w wr w1.heap.size b x (max (km : Int) 0) (kr : Int) k (.slice ao sq c) sq))
    (fun _ i _ => n1 - (RowKit.intOf i).toNat)
  case atStart => exact ⟨0, 0, 0, none, Nat.zero_le _, rfl, rfl, H3⟩
  case round =>
    clear H3
    obtain ⟨k, sq, cs, asv, hk, rfl, rfl, hC⟩ := hrel
    by_cases hlt : k < n1
    · have h3 : (k : Int) < (n1 : Int) := by omega
      obtain ⟨M, n, L, S, B, O, F, hps, hst, hcap, hse, hrow⟩ := hC.out
      obtain ⟨a, X, ap, cp, rfl, hX, cx, hr⟩ := H1.out.at hlt
      have hm : mild X := HL.out.2.2.1 k X hX
      have hk80 : k + 1 ≤ 80 := by have := HL.out.1; omega
      have CM := sess_commit HK.out hse HT.out (hps.sfit hk80 hm) (vo := .slice ap X.length cp) hr (by have := hm.2; omega)
      obtain ⟨g1, g2, g3, g4, g5, g6, g7, g8⟩ := calm_step hps hst hk80 hm (max (km : Int) 0)
      have hgw := hse.2.1
      have cx' : wr.cell? (a.add k) = some (.slice ap X.length cp) := grow_cell hgw cx
      have cxs : ∀ w', Grow w w' → w'.cell? (a.add k) = some (.slice ap X.length cp) := fun w' hg => grow_cell hg cx
      have HR := Lib.hid (And.intro hr (And.intro hm hX))
      obtain ⟨R, hR⟩ : ∃ R, R = commitS (max (km : Int) 0) M n false L X := ⟨_, rfl⟩
      rw [← hR] at CM g1 g2 g3 g4 g5 g6 g7 g8
      have HG := Lib.hid (And.intro g1 (And.intro g2 (And.intro g3 (And.intro g4 (And.intro g5 (And.intro g6 (And.intro g7 (And.intro g8 (And.intro hcap (And.intro hrow hps.ml))))))))))
      have HCX := Lib.hid cxs
      have hxl : X.length ≤ 60 := hm.2
      obtain ⟨xl, hxl2⟩ : ∃ xl, xl = X.length := ⟨_, rfl⟩
      rw [← hxl2] at cx' CM
      have HXL := Lib.hid hxl2
      unfold theSt at CM
      clear hps hst hcap hse hrow cx hr hm hX hR g1 g2 g3 g4 g5 g6 g7 g8 hgw cxs hxl hxl2 hC
      go_wp2_with fail
      refine CM.mono ?_
      rintro e w4 ⟨k4, rfl, hk4, F4, hs4, f4, t4⟩
      have hrow4 := HG.out.2.2.2.2.2.2.2.2.2.1.step t4 f4
      have hR4 := Lib.hid (HCX.out w4 hs4.2.1)
      have cx4 : w4.cell? (a.add k) = some (.slice ap xl cp) := by rw [HXL.out]; exact hR4.out
      have H4 := Lib.hid (And.intro hs4 (And.intro hrow4 hk4))
      clear hs4 f4 t4 hrow4 hk4 CM cx'
      by_cases he : k4 = 0
      · subst he
        have AP := ref_apply (.slice asv sq cs) (.slice ap xl cp) sq xl L X w4 H4.out.2.1.1 (by rw [HXL.out]; exact HR.out.1.later H4.out.1.2.1) (by
          have h1 := HG.out.2.2.2.2.2.2.2.2.2.2.len
          have h2 := H4.out.2.1.1.1
          have h3 := HL.out.1
          omega) (by have := HR.out.2.1.2; have := HXL.out; omega)
        go_wp2_with (first | (go_at_call 17; refine (num_at _ _).mono ?_; rintro e w' ⟨rfl, rfl⟩) | (go_at_call 28; refine AP.mono ?_; rintro e w5 ⟨a5, q5, c5, rfl, hq5, ho5, hb5⟩; have H5 := Lib.hid (And.intro hq5 (And.intro ho5 hb5)); clear hq5 ho5 hb5))
        refine ⟨⟨k + 1, q5, c5, a5, by omega, by go_num, rfl, Lib.hid ?_⟩, by simp [RowKit.intOf]; omega⟩
        obtain ⟨⟨S', B', O', hp⟩, g2, g3, g4, g5, g6, g7, g8, hcap, hrow, hml⟩ := HG.out
        obtain ⟨hq5, ho5, hb5⟩ := H5.out
        obtain ⟨hs4, hrow4, hk4⟩ := H4.out
        have hRL := (g5 hk4.symm).1
        have hmx := hml.apply HR.out.2.1.1 HR.out.2.1.2
        obtain ⟨z1, z2⟩ := sure_next HK.out hs4 ho5 hq5 (by have := hmx.bulk; have := HL.out.1; omega) hb5
        rw [g2] at z1
        exact ⟨R.M, R.n, R.L, S', B', O', F4, hp, g3, g4.trans hcap, z1, by rw [hRL]; exact z2⟩
      · have hok5 : okOps X = true → k4 = 5 := fun hok => by
          obtain ⟨_, g2, g3, g4, g5, g6, g7, g8, _⟩ := HG.out
          rcases g8 hok with h | h
          · exact absurd (H4.out.2.2.trans h.1) he
          · exact H4.out.2.2.trans h.1
        have RT := right_at (.slice ap xl cp) xl X w4 (by rw [HXL.out]; exact HR.out.1.later H4.out.1.2.1)
        have stay : Hid (CalmAt C w w4 w1.heap.size b x (max (km : Int) 0) (kr : Int) (k + 1) (.slice asv sq cs) sq) := Lib.hid (by
          obtain ⟨⟨S', B', O', hp⟩, g2, g3, g4, g5, g6, g7, g8, hcap, hrow, hml⟩ := HG.out
          obtain ⟨hs4, hrow4, hk4⟩ := H4.out
          have hRL := g6 (by rw [← hk4]; exact he)
          rw [g2] at hs4
          exact ⟨R.M, R.n, R.L, S', B', O', F4, hp, g3, g4.trans hcap, hs4, by rw [hRL]; exact hrow4⟩)
        cases hok : okOps X with
        | true =>
          obtain rfl := hok5 hok
          rw [hok] at RT
          clear hok5 hok
          go_wp2_with (first | (go_at_call 17; refine (num_at _ _).mono ?_; rintro e w' ⟨rfl, rfl⟩) | (go_at_call 29; refine RT.mono ?_; rintro e w' ⟨rfl, rfl⟩))
          exact ⟨⟨k + 1, sq, cs, asv, by omega, by go_num, rfl, stay⟩, by simp [RowKit.intOf]; omega⟩
        | false =>
          rw [hok] at RT
          clear hok5 hok
          go_wp2_with (first | (go_at_call 17; refine (num_at _ _).mono ?_; rintro e w' ⟨rfl, rfl⟩) | (go_at_call 29; refine RT.mono ?_; rintro e w' ⟨rfl, rfl⟩))
          exact ⟨⟨k + 1, sq, cs, asv, by omega, by go_num, rfl, stay⟩, by simp [RowKit.intOf]; omega⟩
    · have h3 : ¬ (k : Int) < (n1 : Int) := by omega
      obtain rfl : k = n1 := by omega
      obtain ⟨M, n, L, S, B, O, F, hps, hst, hcap, hse, hrow⟩ := hC.out
      have hk40 := HL.out.1
      obtain ⟨q1, q2, q3, q4, q5, q6⟩ := calm_again hps 100000 (by decide)
      have RS1 := sess_restart HK.out hse (well_limW room10 hps.well (by omega)) 100000 0 false
      have HM := Lib.hid (And.intro q1 (And.intro q2 (And.intro q5 (And.intro (q6.ml.slim (by omega)) (And.intro (hps.ml.slim (by omega)) (And.intro hrow (hps.ms.bulk)))))))
      unfold theDisk at RS1
      clear hps hst hcap hse hrow q1 q2 q3 q4 q5 q6 hC
      go_wp2_with fail
      refine RS1.mono ?_
      rintro e w4 ⟨rfl, Fi, hi4, hFi, F4, hd4, f4, t4, hdis⟩
      have O4 := sess_open HK.out 50 hd4 HT.out (HM.out.1.ofit (by omega) (by have := HM.out.2.2.2.2.2.2; omega)) HM.out.2.1
      have hrow4 := HM.out.2.2.2.2.2.1.step t4 f4
      have H4 := Lib.hid (And.intro hi4 (And.intro hdis (And.intro hrow4 hd4.1.lt)))
      unfold theDisk theSt at O4
      clear hi4 hFi hd4 f4 t4 hdis hrow4 RS1
      go_wp2_with fail
      refine O4.mono ?_
      rintro e w5 ⟨y, rfl, F5, hs5, f5, t5⟩
      have A5 := sess_all HK.out hs5 HM.out.2.2.2.1
      have hi5 := HK.out.ikeep H4.out.1 t5 (fun k hk hm => H4.out.2.1 k hm hk)
      have hrow5 := H4.out.2.2.1.step t5 f5
      rw [HM.out.2.2.1] at A5
      have H5 := Lib.hid (And.intro hi5 (And.intro hrow5 hs5.2.1))
      unfold theSt at A5
      clear hs5 f5 t5 hi5 hrow5 O4
      go_wp2_with (go_at_call 17; refine (num_at _ _).mono ?_; rintro e w' ⟨rfl, rfl⟩)
      refine A5.mono ?_
      rintro e w6 ⟨a6, q6, c6, rfl, hp6, t6⟩
      have PP := pairs_at hp6 (H5.out.2.1.new t6).1 true (by simp)
      have hrow6 := H5.out.2.1.new t6
      have hi6 := HK.out.ikeep H5.out.1 t6 (by simp)
      have H6 := Lib.hid (And.intro hi6 (And.intro hrow6 (H5.out.2.2.trans (tg9 t6))))
      clear hp6 t6 A5 hi6 hrow6
      go_wp2_with fail
      refine PP.mono ?_
      rintro e w7 ⟨rfl, t7⟩
      have A7 := HK.out.iall (HK.out.ikeep H6.out.1 t7 (by simp)) HM.out.2.2.2.2.1
      have hrow7 := H6.out.2.1.new t7
      have H7 := Lib.hid (And.intro hrow7 (H6.out.2.2.trans (tg9 t7)))
      unfold theSt at A7
      clear t7 hrow7 PP
      go_wp2_with fail
      refine A7.mono ?_
      rintro e w8 ⟨a8, q8, c8, rfl, hp8, t8⟩
      have PP8 := pairs_at hp8 (H7.out.1.new t8).1 true (by simp)
      have H8 := Lib.hid (H7.out.2.trans (tg9 t8))
      clear hp8 t8 A7
      go_wp2_with fail
      refine PP8.mono ?_
      rintro e w9 ⟨rfl, t9⟩
      have H9 := Lib.hid (H8.out.trans (tg9 t9))
      clear t9 PP8
      go_wp2_with (go_at_call 12; refine (awake_store HK.out _ (HT.out.later H9.out)).mono ?_; rintro e w' ⟨rfl, hb9⟩)
      go_ret
      exact ⟨rfl, H9.out.trans hb9⟩
end Go.Proofs.YthcdkggkoanjpaaGreatDoor
