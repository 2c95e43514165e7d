/- The reference's Digits. Numbers and types by name. -/
import Derived.Test.YthacjeeafnblmaaGreatDoorRows
import Derived.Test.YthacjeeafnblmaaGreatDoorBe4
import Derived.Test.YthacjeeafnblmaaGreatDoorPr
import Derived.ProofKit
import Derived.Deep.Slices
import Derived.Test.YthacjeeafnblmaaGreatDoorBeg
import Derived.OwnWalk
import Derived.Test.YthacjeeafnblmaaGreatDoorOpl
import Derived.Test.YthacjeeafnblmaaGreatDoorOo
import Derived.Test.YthacjeeafnblmaaGreatDoorTxt
/- A list of acts that came in, of bounded bulk; a plan. Numbers and types by name. -/
namespace Go.Proofs.YthacjeeafnblmaaGreatDoor
open Go.ChangeShapes Go.WideShapes Go.ChangeAt Go.RowKit Go.Deep

theorem cells5 : Tryz.prog.cellsOf 31 = 5 := by kernel_rfl
theorem cellsI : Tryz.prog.cellsOf 3 = 1 := by kernel_rfl
theorem cellsS : Tryz.prog.cellsOf 9 = 1 := by kernel_rfl
theorem cellsB : Tryz.prog.cellsOf 24 = 1 := by kernel_rfl
theorem cellsL : Tryz.prog.cellsOf 29 = 1 := by kernel_rfl
theorem cellsT : Tryz.prog.cellsOf 4 = 1 := by kernel_rfl
theorem cellsU : Tryz.prog.cellsOf 5 = 1 := by kernel_rfl

theorem bulk_pos {H : Type} (d : DataW H) : 1 ≤ Rows.uptoBulk d := by
  cases d with
  | lit l => cases l <;> simp [Rows.uptoBulk]
  | _ => simp [Rows.uptoBulk]
theorem bulk_part {H : Type} {d : DataW H} {l : List (DataW H)} (h : d ∈ l) : Rows.uptoBulk d ≤ Rows.uptoBulkAll l := by
  induction l with
  | nil => cases h
  | cons x r ih =>
    simp only [Rows.uptoBulkAll]
    rcases List.mem_cons.1 h with rfl | h
    · omega
    · have := ih h; omega
theorem bulk_len {H : Type} (l : List (DataW H)) : l.length ≤ Rows.uptoBulkAll l := by
  induction l with
  | nil => simp
  | cons x r ih =>
    have := bulk_pos x
    simp only [Rows.uptoBulkAll, List.length_cons]
    omega

/-- A []byte that came in. -/
theorem open_bytesU {H : Type} {enc : TypeId × Value → H} {W : World} {base : Nat} {spare : Nat → Bool} {held : Bool} {fuel : Nat} {c : Value} {x : DataW H × List MemPlace}
    (h : DataW.trod enc Tryz.prog W base spare held fuel 24 [c] = some x) : ∃ (ao : Option Addr) (cp : Nat) (A : List UInt8), c = .slice ao A.length cp ∧ Reads W (.slice ao A.length cp) (bv A) ∧ A.length ≤ maxLen ∧ A.length ≤ Rows.uptoBulk x.1 := by
  rcases open_ints Tryz.underlying24 Tryz.underlying5 cellsU h with ⟨hcs, _⟩ | ⟨a, len, cap, zs, hcs, _, hl, hm, hz, hx, hcell, hwz⟩
  · simp only [List.cons.injEq, and_true] at hcs
    exact ⟨none, 0, [], hcs, Reads.nil W, Nat.zero_le _, Nat.zero_le _⟩
  · simp only [List.cons.injEq, and_true] at hcs
    have hzl : len ≤ zs.length := by rw [hz]; split <;> omega
    have hAl : ((zs.take len).map fun n => UInt8.ofNat n.toNat).length = len := by simp; omega
    refine ⟨some a, cap, (zs.take len).map fun n => UInt8.ofNat n.toNat, by rw [hAl]; exact hcs, ?_, by rw [hAl]; exact Nat.le_trans hl hm, ?_⟩
    · refine ⟨some a, cap, by simp [bv], by simp [bv]; omega, (fun e => by cases e), fun a' ha j u hj => ?_⟩
      cases ha
      have hj1 : j < len := by
        have := (List.getElem?_eq_some_iff.1 hj).1
        simp [bv] at this
        omega
      have hjz : j < zs.length := by omega
      rw [hcell j hjz]
      have hw := hwz (zs[j]) (List.getElem_mem hjz)
      have hr : 0 ≤ zs[j] ∧ zs[j] ≤ 255 := by simpa [Lit.wf, IntKind.min, IntKind.max, IntKind.signed, IntKind.bits] using hw
      have e : (bv ((zs.take len).map fun n => UInt8.ofNat n.toNat))[j]? = some (.int .u8 ((UInt8.ofNat (zs[j]).toNat).toNat : Int)) := by
        simp [bv, List.getElem?_take, hj1, List.getElem?_eq_getElem hjz]
      rw [e] at hj
      cases hj
      have e2 : ((UInt8.ofNat (zs[j]).toNat).toNat : Int) = zs[j] := by
        rw [UInt8.toNat_ofNat']
        omega
      rw [e2]
      simp [List.getElem?_eq_getElem hjz]
    · rw [hAl, hx]
      have h1 := bulk_len (H := H) (lits .u8 (zs.take len))
      have h2 : (lits (H := H) .u8 (zs.take len)).length = len := by simp [lits]; omega
      simp only [Rows.uptoBulk]
      omega

/-- A []int that came in. -/
theorem open_intsU {H : Type} {enc : TypeId × Value → H} {W : World} {base : Nat} {spare : Nat → Bool} {held : Bool} {fuel : Nat} {c : Value} {x : DataW H × List MemPlace}
    (h : DataW.trod enc Tryz.prog W base spare held fuel 29 [c] = some x) : ∃ (ao : Option Addr) (cp : Nat) (A : List Int), c = .slice ao A.length cp ∧ Reads W (.slice ao A.length cp) (iv A) ∧ A.length ≤ maxLen := by
  rcases open_ints Tryz.underlying29 Tryz.underlying3 cellsI h with ⟨hcs, _⟩ | ⟨a, len, cap, zs, hcs, _, hl, hm, hz, hx, hcell, hwz⟩
  · simp only [List.cons.injEq, and_true] at hcs
    exact ⟨none, 0, [], hcs, Reads.nil W, Nat.zero_le _⟩
  · simp only [List.cons.injEq, and_true] at hcs
    have hzl : len ≤ zs.length := by rw [hz]; split <;> omega
    have hAl : (zs.take len).length = len := by simp; omega
    refine ⟨some a, cap, zs.take len, by rw [hAl]; exact hcs, ?_, by rw [hAl]; exact Nat.le_trans hl hm⟩
    refine ⟨some a, cap, by simp [iv], by simp [iv]; omega, (fun e => by cases e), fun a' ha j u hj => ?_⟩
    cases ha
    have hj1 : j < len := by
      have := (List.getElem?_eq_some_iff.1 hj).1
      simp [iv] at this
      omega
    have hjz : j < zs.length := by omega
    rw [hcell j hjz]
    have e : (iv (zs.take len))[j]? = some (.int .i64 zs[j]) := by
      simp [iv, List.getElem?_take, hj1, List.getElem?_eq_getElem hjz]
    rw [e] at hj
    cases hj
    simp [List.getElem?_eq_getElem hjz]

/-- A plan's values. -/
structure PV where
  cap : Int
  aF : Option Addr
  cF : Nat
  zs : List Int
  cr : Int
  dn : Bool
  aK : Option Addr
  cK : Nat
  ks : List Int
/-- What is known of a plan. -/
structure PlanOk (w : World) (p : PV) : Prop where
  cap : p.cap ≤ 9223372036854775807
  rF : Reads w (.slice p.aF p.zs.length p.cF) (iv p.zs)
  rK : Reads w (.slice p.aK p.ks.length p.cK) (iv p.ks)
  lF : p.zs.length ≤ maxLen
  lK : p.ks.length ≤ maxLen
/-- An act's values. -/
structure AV where
  d : Int
  nm : ByteArray
  to : ByteArray
  aB : Option Addr
  cB : Nat
  l : List UInt8
  n : Int
  p : PV

/-- What lies at act i of a row that begins at a. -/
structure ActAt (w : World) (a : Addr) (i : Nat) (v : AV) : Prop where
  c0 : w.cell? (a.add (i * 10)) = some (.int .i64 v.d)
  c1 : w.cell? (a.add (i * 10 + 1)) = some (.string v.nm)
  c2 : w.cell? (a.add (i * 10 + 2)) = some (.string v.to)
  c3 : w.cell? (a.add (i * 10 + 3)) = some (.slice v.aB v.l.length v.cB)
  c4 : w.cell? (a.add (i * 10 + 4)) = some (.int .i64 v.n)
  c5 : w.cell? (a.add (i * 10 + 5)) = some (.int .i64 v.p.cap)
  c6 : w.cell? (a.add (i * 10 + 6)) = some (.slice v.p.aF v.p.zs.length v.p.cF)
  c7 : w.cell? (a.add (i * 10 + 7)) = some (.int .i64 v.p.cr)
  c8 : w.cell? (a.add (i * 10 + 8)) = some (.bool v.p.dn)
  c9 : w.cell? (a.add (i * 10 + 9)) = some (.slice v.p.aK v.p.ks.length v.p.cK)
  nm : v.nm.size ≤ maxLen
  to : v.to.size ≤ maxLen
  rB : Reads w (.slice v.aB v.l.length v.cB) (bv v.l)
  lB : v.l.length ≤ 1048576
  plan : PlanOk w v.p

theorem open_plan {H : Type} {enc : TypeId × Value → H} {W : World} {base : Nat} {spare : Nat → Bool} {held : Bool} {fuel : Nat} {c0 c1 c2 c3 c4 : Value} {x : DataW H × List MemPlace}
    (h : DataW.trod enc Tryz.prog W base spare held fuel 31 [c0, c1, c2, c3, c4] = some x) :
    ∃ p : PV, c0 = .int .i64 p.cap ∧ c1 = .slice p.aF p.zs.length p.cF ∧ c2 = .int .i64 p.cr ∧ c3 = .bool p.dn ∧ c4 = .slice p.aK p.ks.length p.cK ∧ PlanOk W p := by
  obtain ⟨ys, n2, _, _, _, hyl, hg⟩ := DataW.trod_struct Tryz.underlying31 h
  have g0 := hg 0 _ rfl
  have g1 := hg 1 _ rfl
  have g2 := hg 2 _ rfl
  have g3 := hg 3 _ rfl
  have g4 := hg 4 _ rfl
  rw [show ys[0]? = some (ys[0]'(by rw [hyl]; decide)) from List.getElem?_eq_getElem _] at g0
  rw [show ys[1]? = some (ys[1]'(by rw [hyl]; decide)) from List.getElem?_eq_getElem _] at g1
  rw [show ys[2]? = some (ys[2]'(by rw [hyl]; decide)) from List.getElem?_eq_getElem _] at g2
  rw [show ys[3]? = some (ys[3]'(by rw [hyl]; decide)) from List.getElem?_eq_getElem _] at g3
  rw [show ys[4]? = some (ys[4]'(by rw [hyl]; decide)) from List.getElem?_eq_getElem _] at g4
  change DataW.trod enc Tryz.prog W base spare held n2 3 (List.take (Tryz.prog.cellsOf 3) (List.drop 0 [c0, c1, c2, c3, c4])) = _ at g0
  change DataW.trod enc Tryz.prog W base spare held n2 29 (List.take (Tryz.prog.cellsOf 29) (List.drop 1 [c0, c1, c2, c3, c4])) = _ at g1
  change DataW.trod enc Tryz.prog W base spare held n2 3 (List.take (Tryz.prog.cellsOf 3) (List.drop 2 [c0, c1, c2, c3, c4])) = _ at g2
  change DataW.trod enc Tryz.prog W base spare held n2 4 (List.take (Tryz.prog.cellsOf 4) (List.drop 3 [c0, c1, c2, c3, c4])) = _ at g3
  change DataW.trod enc Tryz.prog W base spare held n2 29 (List.take (Tryz.prog.cellsOf 29) (List.drop 4 [c0, c1, c2, c3, c4])) = _ at g4
  rw [cellsI] at g0 g2
  rw [cellsL] at g1 g4
  rw [cellsT] at g3
  change DataW.trod enc Tryz.prog W base spare held n2 3 [c0] = _ at g0
  change DataW.trod enc Tryz.prog W base spare held n2 29 [c1] = _ at g1
  change DataW.trod enc Tryz.prog W base spare held n2 3 [c2] = _ at g2
  change DataW.trod enc Tryz.prog W base spare held n2 4 [c3] = _ at g3
  change DataW.trod enc Tryz.prog W base spare held n2 29 [c4] = _ at g4
  obtain ⟨cap, e0, _, w0⟩ := DataW.trod_int Tryz.underlying3 g0
  obtain ⟨aF, cF, zs, e1, r1, l1⟩ := open_intsU g1
  obtain ⟨cr, e2, _, _⟩ := DataW.trod_int Tryz.underlying3 g2
  obtain ⟨dn, e3, _⟩ := DataW.trod_bool Tryz.underlying4 g3
  obtain ⟨aK, cK, ks, e4, r4, l4⟩ := open_intsU g4
  simp only [List.cons.injEq, and_true] at e0 e2 e3
  refine ⟨⟨cap, aF, cF, zs, cr, dn, aK, cK, ks⟩, e0, e1, e2, e3, e4, ?_, r1, r4, l1, l4⟩
  have := w0
  simp [Lit.wf, IntKind.min, IntKind.max, IntKind.signed, IntKind.bits] at this
  exact this.2

end Go.Proofs.YthacjeeafnblmaaGreatDoor

/- The logs' Heavy, walked; a list of plans. Numbers and types by name. -/
namespace Go.Proofs.YthacjeeafnblmaaGreatDoor
open Go.RowKit Go.Lib
set_option maxRecDepth 100000

/-- What lies at plan i of a row that begins at a. -/
structure PlanAt (w : World) (a : Addr) (i : Nat) (p : PV) : Prop where
  c0 : w.cell? (a.add (i * 5)) = some (.int .i64 p.cap)
  c1 : w.cell? (a.add (i * 5 + 1)) = some (.slice p.aF p.zs.length p.cF)
  c2 : w.cell? (a.add (i * 5 + 2)) = some (.int .i64 p.cr)
  c3 : w.cell? (a.add (i * 5 + 3)) = some (.bool p.dn)
  c4 : w.cell? (a.add (i * 5 + 4)) = some (.slice p.aK p.ks.length p.cK)
  ok : PlanOk w p
/-- A list of plans. -/
structure Plans (w : World) (ao : Option Addr) (a : Addr) (n : Nat) (P : Nat → PV) : Prop where
  addr : ao = some a ∨ ao = none ∧ n = 0
  len : n ≤ maxLen
  at' : ∀ i, i < n → PlanAt w a i (P i)

theorem add_fld5 (a : Addr) (m j : Nat) (hj : 0 < j) : a.add (m + j) = ⟨(a.add m).block, (a.add m).off + j, none⟩ := by
  unfold Addr.add
  rw [if_neg (by omega)]
  by_cases hm : m = 0
  · simp [hm]
  · simp [hm]; omega

theorem drewN_two (w : World) (a b : Nat) : (w.drewN a).drewN b = w.drewN (a + b) := by
  unfold World.drewN
  simp only [Nat.add_assoc]

/-- Not heavy. -/
def LightW (n1 n2 : Nat) (LL : List (List Opm)) (P : Nat → PV) : Prop :=
  n1 ≤ 40 ∧ n2 ≤ 40 ∧ (∀ (i : Nat) (L : List Opm), LL[i]? = some L → bulkO L ≤ 5000 ∧ L.length ≤ 60) ∧ ∀ i, i < n2 → (P i).zs.length ≤ 200 ∧ (P i).ks.length ≤ 50

def HeavyW (n1 n2 : Nat) (LL : List (List Opm)) (P : Nat → PV) (w : World) (e : Ending) (w' : World) : Prop := ∃ g k, e = .returned (.bool g) ∧ w' = w.drewN k ∧ (g = false → LightW n1 n2 LL P)

set_option maxHeartbeats 4000000 in
theorem heavy_wal (v1 : Value) (n1 : Nat) (LL : List (List Opm)) (ao : Option Addr) (a2 : Addr) (n2 c2 : Nat) (P : Nat → PV) (w : World) (h1 : Obs w v1 n1 LL) (h2 : Plans w ao a2 n2 P) :
    Calls Tryz.prog 7 #[v1, .slice ao n2 c2] w (HeavyW n1 n2 LL P w) := by
  obtain ⟨a1, c1, rfl⟩ := h1.shape
  have H1 := Lib.hid h1
  have H2 := Lib.hid h2
  have hm1 : n1 ≤ 9223372036854775807 := by have := h1.2.1; unfold maxLen at this; omega
  have hm2 : n2 ≤ 9223372036854775807 := by have := h2.len; unfold maxLen at this; omega
  have HM := Lib.hid (And.intro hm1 hm2)
  clear h1 h2
  go_enter Tryz.func7, Tryz.ntmps7
  by_cases x1 : 40 < n1
  · have y1 : (40 : Int) < (n1 : Int) := by omega
    go_wp2_with fail
    go_ret
    exact ⟨true, 0, rfl, rfl, fun h => by cases h⟩
  have y1 : ¬ (40 : Int) < (n1 : Int) := by omega
  by_cases x2 : 40 < n2
  · have y2 : (40 : Int) < (n2 : Int) := by omega
    go_wp2_with fail
    go_ret
    exact ⟨true, 0, rfl, rfl, fun h => by cases h⟩
  have y2 : ¬ (40 : Int) < (n2 : Int) := by omega
  have HN := Lib.hid (And.intro x1 x2)
  clear x1 x2
  go_wp2_with fail
  go_loopw [5] (fun i wr => ∃ k q : Nat, k ≤ n1 ∧ i = .int .i64 k ∧ wr = w.drewN q ∧ Hid (∀ (j : Nat) (L : List Opm), j < k → LL[j]? = some L → bulkO L ≤ 5000 ∧ L.length ≤ 60)) (fun i _ => n1 - (RowKit.intOf i).toNat)
  case atStart => exact ⟨0, 0, Nat.zero_le _, rfl, rfl, Lib.hid fun j L hj => absurd hj (Nat.not_lt_zero _)⟩
  case round =>
    obtain ⟨k, q, hk, rfl, rfl, hall⟩ := hrel
    by_cases h1 : k < n1
    · have h3 : (k : Int) < (n1 : Int) := by omega
      obtain ⟨a, L, ap, cp, rfl, hL, hc, hOp⟩ := H1.out.at h1
      obtain ⟨lL, hlL⟩ : ∃ lL, lL = L.length := ⟨_, rfl⟩
      rw [← hlL] at hc hOp
      have hc' : (w.drewN q).cell? (a.add k) = some (.slice ap lL cp) := hc
      have HX := Lib.hid (And.intro hL (And.intro hlL hOp))
      clear hc hL hlL hOp
      have G := great_ops _ lL L (w.drewN q) (HX.out.2.2.later (below_drewN (Below.refl _ w) q))
      go_wp2_with fail
      refine G.mono ?_
      rintro e wg ⟨g, q2, rfl, hwg, hb⟩
      have hcg : wg.cell? (a.add k) = some (.slice ap lL cp) := by rw [hwg]; exact hc'
      have HB := Lib.hid (And.intro hwg hb)
      clear G hb hwg hc'
      cases g with
      | true =>
        go_wp2_with fail
        go_ret
        exact ⟨true, q + q2, rfl, by rw [HB.out.1, drewN_two], fun h => by cases h⟩
      | false =>
        by_cases x3 : 60 < lL
        · have y3 : (60 : Int) < (lL : Int) := by omega
          go_wp2_with fail
          go_ret
          exact ⟨true, q + q2, rfl, by rw [HB.out.1, drewN_two], fun h => by cases h⟩
        · have y3 : ¬ (60 : Int) < (lL : Int) := by omega
          have hk9 : k < 9223372036854775807 := by omega
          go_wp2_with fail
          refine ⟨⟨k + 1, q + q2, by omega, by rw [Int.natCast_succ], by rw [HB.out.1, drewN_two], Lib.hid fun j L' hj hL' => ?_⟩, by simp [RowKit.intOf]; omega⟩
          by_cases hjk : j < k
          · exact hall.out j L' hjk hL'
          · obtain rfl : j = k := by omega
            have e := HX.out.1.symm.trans hL'
            cases e
            exact ⟨HB.out.2 trivial, by have := HX.out.2.1; omega⟩
    · obtain rfl : k = n1 := by omega
      have h3 : ¬ (k : Int) < (k : Int) := by omega
      have HF : Hid (k ≤ 40 ∧ n2 ≤ 40 ∧ ∀ (i : Nat) (L : List Opm), LL[i]? = some L → bulkO L ≤ 5000 ∧ L.length ≤ 60) := Lib.hid ⟨by have := HN.out.1; omega, by have := HN.out.2; omega, fun i L hL => hall.out i L (by have := (List.getElem?_eq_some_iff.1 hL).1; have := H1.out.1; omega) hL⟩
      clear hall H1 HN
      go_wp2_with fail
      go_loopw [6] (fun i wr => ∃ k2 : Nat, k2 ≤ n2 ∧ i = .int .i64 k2 ∧ wr = w.drewN q ∧ Hid (∀ j, j < k2 → (P j).zs.length ≤ 200 ∧ (P j).ks.length ≤ 50)) (fun i _ => n2 - (RowKit.intOf i).toNat)
      case atStart => exact ⟨0, Nat.zero_le _, rfl, rfl, Lib.hid fun j hj => absurd hj (Nat.not_lt_zero _)⟩
      case round =>
        obtain ⟨k2, hk2, rfl, rfl, hall⟩ := hrel
        by_cases h4 : k2 < n2
        · have h5 : (k2 : Int) < (n2 : Int) := by omega
          obtain rfl : ao = some a2 := by
            rcases H2.out.addr with h | ⟨_, h⟩
            · exact h
            · omega
          have hx := H2.out.at' k2 h4
          have c1 := hx.c1
          have c4 := hx.c4
          obtain ⟨aF, haF⟩ : ∃ x, x = (P k2).aF := ⟨_, rfl⟩
          obtain ⟨cF, hcF⟩ : ∃ x, x = (P k2).cF := ⟨_, rfl⟩
          obtain ⟨lF, hlF1⟩ : ∃ x, x = (P k2).zs.length := ⟨_, rfl⟩
          obtain ⟨aK, haK⟩ : ∃ x, x = (P k2).aK := ⟨_, rfl⟩
          obtain ⟨cK, hcK⟩ : ∃ x, x = (P k2).cK := ⟨_, rfl⟩
          obtain ⟨lK, hlK1⟩ : ∃ x, x = (P k2).ks.length := ⟨_, rfl⟩
          rw [add_fld5 _ _ _ (by omega)] at c1 c4
          rw [← haF, ← hcF, ← hlF1] at c1
          rw [← haK, ← hcK, ← hlK1] at c4
          have d1 : (w.drewN q).cell? ⟨(a2.add (k2 * 5)).block, (a2.add (k2 * 5)).off + 1, none⟩ = some (.slice aF lF cF) := c1
          have d4 : (w.drewN q).cell? ⟨(a2.add (k2 * 5)).block, (a2.add (k2 * 5)).off + 4, none⟩ = some (.slice aK lK cK) := c4
          have HX := Lib.hid (And.intro hlF1 hlK1)
          clear hx haF hcF hlF1 haK hcK hlK1 c1 c4
          by_cases x1 : 200 < lF
          · have y1 : (200 : Int) < (lF : Int) := by omega
            go_wp2_with fail
            go_ret
            exact ⟨true, q, rfl, rfl, fun h => by cases h⟩
          have y1 : ¬ (200 : Int) < (lF : Int) := by omega
          by_cases x2 : 50 < lK
          · have y2 : (50 : Int) < (lK : Int) := by omega
            go_wp2_with fail
            go_ret
            exact ⟨true, q, rfl, rfl, fun h => by cases h⟩
          have y2 : ¬ (50 : Int) < (lK : Int) := by omega
          have hk9 : k2 < 9223372036854775807 := by omega
          go_wp2_with fail
          refine ⟨⟨k2 + 1, by omega, by rw [Int.natCast_succ], trivial, Lib.hid fun j hj => ?_⟩, by simp [RowKit.intOf]; omega⟩
          by_cases hjk : j < k2
          · exact hall.out j hjk
          · obtain rfl : j = k2 := by omega
            exact ⟨by rw [← HX.out.1]; omega, by rw [← HX.out.2]; omega⟩
        · obtain rfl : k2 = n2 := by omega
          have h6 : ¬ (k2 : Int) < (k2 : Int) := by omega
          go_wp2_with fail
          go_ret
          exact ⟨false, q, rfl, rfl, fun _ => ⟨HF.out.1, HF.out.2.1, HF.out.2.2, hall.out⟩⟩

end Go.Proofs.YthacjeeafnblmaaGreatDoor

/- append to own rows of whatever elements: ops, lists of ops. Numbers and types by name. -/
namespace Go.Proofs.YthacjeeafnblmaaGreatDoor
open Go.RowKit Go.Lib

theorem elemOp : Elem 49 68 (.agg #[.bool false, .string ⟨#[]⟩, .string ⟨#[]⟩]) 3 40 := ⟨Tryz.underlying49, by kernel_rfl, by decide, by decide⟩
theorem elemOps : Elem 23 49 (.slice none 0 0) 1 24 := ⟨Tryz.underlying23, by kernel_rfl, by decide, by decide⟩

end Go.Proofs.YthacjeeafnblmaaGreatDoor

namespace Go.Proofs.YthacjeeafnblmaaGreatDoor
open Go.RowKit Go.Lib

/-- A number's digits. -/
def digs (n : Nat) : List UInt8 := if n < 10 then [UInt8.ofNat (48 + n)] else digs (n / 10) ++ [UInt8.ofNat (48 + n % 10)]
termination_by n
decreasing_by omega

theorem digs_small {n : Nat} (h : n < 10) : digs n = [UInt8.ofNat (48 + n)] := by rw [digs, if_pos h]
theorem digs_more {n : Nat} (h : ¬ n < 10) : digs n = digs (n / 10) ++ [UInt8.ofNat (48 + n % 10)] := by rw [digs, if_neg h]

/-- How long they are. -/
theorem digs_length (k : Nat) : ∀ n : Nat, n < 10 ^ (k + 1) → (digs n).length ≤ k + 1 := by
  induction k with
  | zero => intro n h; rw [digs_small (by omega)]; simp
  | succ k ih =>
    intro n h
    by_cases h10 : n < 10
    · rw [digs_small h10]; simp
    · rw [digs_more h10, List.length_append]
      have := ih (n / 10) (by rw [Nat.pow_succ] at h; omega)
      simp; omega

def txt (l : List UInt8) : ByteArray := ⟨l.toArray⟩

theorem conv_lit (w : World) (x : UInt8) (z : Int) (hz : z = (x.toNat : Int)) (fr : Nat × Nat) : (convert 24 9 (.slice (some ⟨w.heap.size, 0, none⟩) 1 1)).run Tryz.prog (w.alloc (.cells #[.int .u8 z] 5 fr)) = .ok (.string (txt [x])) (w.alloc (.cells #[.int .u8 z] 5 fr)) := by
  subst hz
  exact conv_reads (l := [x]) (Reads.lit w (bv [x]) 5 fr 1 rfl)

theorem digits_ref (n : Nat) (w : World) (hn : n < 1000000000) :
    Calls Tryz.prog 51 #[.int .i64 (n : Int)] w fun e w' => e = .returned (.string (txt (digs n))) ∧ Below w.heap.size w w' := by
  have h0 : ¬ (n : Int) < 0 := by omega
  go_enter Tryz.func51, Tryz.ntmps51
  go_wp2_with fail
  go_loopw [3, 4] (fun uv sv wr => ∃ (u : Nat) (s : List UInt8), uv = .int .u64 u ∧ sv = .string (txt s) ∧ u ≤ n ∧ Hid (digs n = digs u ++ s ∧ s.length + u ≤ n ∧ Below w.heap.size w wr))
    (fun uv _ _ => (intOf uv).toNat)
  case atStart => exact ⟨n, [], rfl, rfl, Nat.le_refl _, Lib.hid ⟨by simp, by simp, Below.refl _ _⟩⟩
  case round =>
    obtain ⟨u, s, rfl, rfl, hu, hrel⟩ := hrel
    have HU := Lib.hid (And.intro hu hn)
    clear hu hn
    have happ : ∀ x : UInt8, txt [x] ++ txt s = txt (x :: s) := fun x => by
      apply Go.WideShapes.bytes_inj
      simp [txt, ByteArray.data_append]
    by_cases hlt : u < 10
    · have h3 : ¬ (10 : Int) ≤ (u : Int) := by omega
      obtain ⟨x, hx⟩ : ∃ x, x = UInt8.ofNat (48 + u) := ⟨_, rfl⟩
      have hx2 : (48 : Int) + (u : Int) = (x.toNat : Int) := by rw [hx, UInt8.toNat_ofNat']; omega
      have hsz : ¬ 9223372036854775807 < (txt [x]).size + (txt s).size := by
        have h1 := hrel.out.2.1
        have h2 := HU.out
        have e1 : (txt [x]).size = 1 := rfl
        have e2 : (txt s).size = s.length := by simp [txt, ByteArray.size]
        omega
      have HX := Lib.hid hx
      have HA := Lib.hid (happ x)
      have hxl := x.toNat_lt
      clear hx happ
      have cv := fun w fr => conv_lit w x _ rfl fr
      go_wp2_with fail
      go_ret
      rw [HA.out, hrel.out.1, digs_small hlt, ← HX.out]
      exact ⟨rfl, hrel.out.2.2.alloc (by exact hrel.out.2.2.size) _⟩
    · have h3 : (10 : Int) ≤ (u : Int) := by omega
      obtain ⟨x, hx⟩ : ∃ x, x = UInt8.ofNat (48 + u % 10) := ⟨_, rfl⟩
      have hx2 : (48 : Int) + (u : Int) % 10 = (x.toNat : Int) := by rw [hx, UInt8.toNat_ofNat']; omega
      have hsz : ¬ 9223372036854775807 < (txt [x]).size + (txt s).size := by
        have h1 := hrel.out.2.1
        have h2 := HU.out
        have e1 : (txt [x]).size = 1 := rfl
        have e2 : (txt s).size = s.length := by simp [txt, ByteArray.size]
        omega
      have hu9 : u ≤ 1000000000 := by have := HU.out; omega
      have HX := Lib.hid hx
      have HA := Lib.hid (happ x)
      have hxl := x.toNat_lt
      clear hx happ
      have cv := fun w fr => conv_lit w x _ rfl fr
      go_wp2_with fail
      refine ⟨⟨u / 10, x :: s, by simp, by rw [HA.out], by have := HU.out; omega, Lib.hid ⟨?_, ?_, hrel.out.2.2.alloc (by exact hrel.out.2.2.size) _⟩⟩, by simp only [intOf]; omega⟩
      · rw [hrel.out.1, digs_more hlt, ← HX.out]; simp
      · have := hrel.out.2.1; simp; omega

end Go.Proofs.YthacjeeafnblmaaGreatDoor
