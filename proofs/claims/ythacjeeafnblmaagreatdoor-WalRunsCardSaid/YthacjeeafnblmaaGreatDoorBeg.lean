/- The disk's own block of nine cells; 'begin', 'New'. Numbers and types by name. -/
import Derived.Test.YthacjeeafnblmaaGreatDoorOpl
import Derived.Test.YthacjeeafnblmaaGreatDoorOo
import Derived.Test.YthacjeeafnblmaaGreatDoorBe4
import Derived.WalkKit
import Derived.WalkLawsBesides
import Derived.Lib.Hide
import Derived.BigQuiet
import Derived.Deep.QuietTactic
import Derived.ArgAppend
import Derived.Test.YthacjeeafnblmaaGreatDoorBel
/- Lists of lists of ops that are read; Batches. Numbers and types by name. -/
namespace Go.Proofs.YthacjeeafnblmaaGreatDoor
open Go.RowKit Go.Lib

def OpVals (w : World) (vs : List Value) (LL : List (List Opm)) : Prop :=
  vs.length = LL.length ∧ ∀ (j : Nat) (L : List Opm), LL[j]? = some L → ∃ ao c, vs[j]? = some (Value.slice ao L.length c) ∧ Opr w (.slice ao L.length c) L.length L

theorem OpVals.later {w w' : World} {vs : List Value} {LL : List (List Opm)} (h : OpVals w vs LL) (hg : Grow w w') : OpVals w' vs LL :=
  ⟨h.1, fun j L hj => by obtain ⟨ao, c, e1, e2⟩ := h.2 j L hj; exact ⟨ao, c, e1, e2.later hg⟩⟩

/-- A list of lists of ops can be read. -/
def Obs (w : World) (v : Value) (n : Nat) (LL : List (List Opm)) : Prop := n = LL.length ∧ n ≤ maxLen ∧ ∃ vs : List Value, Reads w v vs ∧ vs.length = n ∧ OpVals w vs LL

theorem Obs.shape {w : World} {v : Value} {n : Nat} {LL : List (List Opm)} (h : Obs w v n LL) : ∃ ao c, v = .slice ao n c := by
  obtain ⟨_, _, vs, ⟨ao, c, rfl, _⟩, hl, _⟩ := h
  exact ⟨ao, c, by rw [hl]⟩
theorem Obs.later {w w' : World} {v : Value} {n : Nat} {LL : List (List Opm)} (h : Obs w v n LL) (hg : Grow w w') : Obs w' v n LL := by
  obtain ⟨h1, h2, vs, hr, hl, hp⟩ := h
  exact ⟨h1, h2, vs, hr.later hg, hl, hp.later hg⟩
theorem Obs.nil (w : World) : Obs w (.slice none 0 0) 0 [] := ⟨rfl, Nat.zero_le _, [], Reads.nil w, rfl, rfl, fun j p h => by cases h⟩

theorem Obs.at {w : World} {ao : Option Addr} {n c : Nat} {LL : List (List Opm)} (h : Obs w (.slice ao n c) n LL) {k : Nat} (hk : k < n) :
    ∃ a L ap cp, ao = some a ∧ LL[k]? = some L ∧ w.cell? (a.add k) = some (.slice ap L.length cp) ∧ Opr w (.slice ap L.length cp) L.length L := by
  obtain ⟨h1, h2, vs, ⟨ao', c', e, _, hn, hc⟩, hl, hp⟩ := h
  simp only [Value.slice.injEq] at e
  obtain ⟨rfl, _, _⟩ := e
  have hx : LL[k]? = some (LL[k]'(by omega)) := List.getElem?_eq_getElem (by omega)
  obtain ⟨ap, cp, e1, e2⟩ := hp.2 k _ hx
  cases ao with
  | none => have := (hn rfl).1; subst this; simp at hl; omega
  | some a => exact ⟨a, _, ap, cp, rfl, hx, hc a rfl k _ e1, e2⟩

theorem Obs.prefix {w : World} {ao : Option Addr} {n c : Nat} {ps : List (List Opm)} (h : Obs w (.slice ao n c) n ps) (j : Nat) (hj : j ≤ n) : Obs w (.slice ao j c) j (ps.take j) ∧ n ≤ c := by
  obtain ⟨h1, h2, vs, ⟨ao', c', e, h0, hn, hc⟩, hl, hp⟩ := h
  simp only [Value.slice.injEq] at e
  obtain ⟨rfl, _, rfl⟩ := e
  refine ⟨⟨by rw [List.length_take]; omega, by omega, vs.take j, ⟨ao, c, by rw [List.length_take]; congr 1; omega, by rw [List.length_take]; omega, fun e => ⟨by rw [(hn e).1]; simp, (hn e).2⟩, fun a ha i u hi => ?_⟩, by rw [List.length_take]; omega, by rw [List.length_take, List.length_take, hp.1], fun i p hi => ?_⟩, by omega⟩
  · refine hc a ha i u ?_
    rw [List.getElem?_take] at hi
    split at hi
    · exact hi
    · cases hi
  · rw [List.getElem?_take] at hi
    split at hi
    · next hij =>
      obtain ⟨ao, c2, f1, f2⟩ := hp.2 i p hi
      exact ⟨ao, c2, by rw [List.getElem?_take, if_pos hij]; exact f1, f2⟩
    · cases hi

/-- What Batches tells. -/
def SameB (ps qs : List (List Opm)) (w : World) (e : Ending) (w' : World) : Prop := ∃ b k, e = .returned (.bool b) ∧ w' = w.drewN k ∧ (b = true ↔ ps = qs)

theorem same_batches (v1 v2 : Value) (n m : Nat) (ps qs : List (List Opm)) (w : World) (h1 : Obs w v1 n ps) (h2 : Obs w v2 m qs) :
    Calls Tryz.prog 14 #[v1, v2] w (SameB ps qs w) := by
  obtain ⟨a1, c1, rfl⟩ := h1.shape
  obtain ⟨a2, c2, rfl⟩ := h2.shape
  have H1 := Lib.hid h1
  have H2 := Lib.hid h2
  have hm := h1.2.1
  unfold maxLen at hm
  clear h1 h2
  by_cases hne : n = m
  · subst hne
    go_enter Tryz.func14, Tryz.ntmps14
    go_wp2_with fail
    go_loopw [5] (fun i wr => ∃ k q : Nat, k ≤ n ∧ i = .int .i64 k ∧ wr = w.drewN q ∧ Hid (ps.take k = qs.take k))
      (fun i _ => n - (intOf i).toNat)
    case atStart => exact ⟨0, 0, Nat.zero_le _, rfl, rfl, Lib.hid rfl⟩
    case round =>
      obtain ⟨k, q, hk, rfl, hw, hs⟩ := hrel
      by_cases h1 : k < n
      · have h3 : (k : Int) < (n : Int) := by omega
        have R1 : Obs wr (.slice a1 n c1) n ps := by rw [hw]; exact H1.out
        have R2 : Obs wr (.slice a2 n c2) n qs := by rw [hw]; exact H2.out
        obtain ⟨x1, p1, ap1, cp1, rfl, e1, hc1, hr1⟩ := R1.at h1
        obtain ⟨x2, p2, ap2, cp2, rfl, e2, hc2, hr2⟩ := R2.at h1
        have S : ∃ b, (b = true ↔ p1 = p2) ∧ ∀ j, Calls Tryz.prog 40 #[.slice ap1 p1.length cp1, .slice ap2 p2.length cp2] (wr.drewN j) fun e w' => e = .returned (.bool b) ∧ ∃ i, w' = wr.drewN i := by
          refine ⟨decide (p1 = p2), by simp, fun j => ?_⟩
          refine (same_ops _ _ _ _ p1 p2 (wr.drewN j) hr1 hr2).mono ?_
          rintro e w' ⟨b, k, rfl, rfl, hb⟩
          exact ⟨by rw [show b = decide (p1 = p2) by rw [Bool.eq_iff_iff, hb]; simp], j + k, World.drewN_drewN ..⟩
        obtain ⟨b, hb, S⟩ := S
        have HW := Lib.hid (And.intro hw (And.intro e1 e2))
        clear hr1 hr2 hw R1 R2 e1 e2
        cases b with
        | true =>
          have hst : p1 = p2 := hb.1 rfl
          have HN : Hid (ps.take (k + 1) = qs.take (k + 1)) := Lib.hid (by rw [take_next HW.out.2.1, take_next HW.out.2.2, hs.out, hst])
          clear hst hb
          go_wp2_with fail
          go_quiet ((go_at_call 40; exact S _))
          go_wp2
          exact ⟨⟨k + 1, q + nq, by omega, by simp, by rw [HW.out.1, World.drewN_drewN], HN⟩, by simp [intOf]; omega⟩
        | false =>
          have HN : Hid (ps ≠ qs) := Lib.hid (by
            rintro rfl
            have := hb.2 (Option.some.inj (HW.out.2.1.symm.trans HW.out.2.2))
            cases this)
          clear hb
          go_wp2_with fail
          go_quiet ((go_at_call 40; exact S _))
          go_wp2
          go_ret
          exact ⟨false, q + nq, rfl, by rw [HW.out.1, World.drewN_drewN], ⟨(fun h => by cases h), fun h => absurd h HN.out⟩⟩
      · have h3 : ¬ (k : Int) < (n : Int) := by omega
        obtain rfl : k = n := by omega
        have HW := Lib.hid hw
        clear hw
        go_wp2_with fail
        go_ret
        refine ⟨true, q, rfl, HW.out, ?_⟩
        have h5 := hs.out
        rw [List.take_of_length_le (by have := H1.out.1; omega), List.take_of_length_le (by have := H2.out.1; omega)] at h5
        simp [h5]
  · have h3 : ¬ (n : Int) = (m : Int) := by omega
    have h4 : ((n : Int) != (m : Int)) = true := by simpa using h3
    go_enter Tryz.func14, Tryz.ntmps14
    go_wp2_with fail
    go_ret
    refine ⟨false, 0, rfl, rfl, ?_⟩
    constructor
    · intro h; cases h
    · intro h; exact absurd (by have := H1.out.1; have := H2.out.1; rw [h] at *; omega) hne

end Go.Proofs.YthacjeeafnblmaaGreatDoor

/- Lists of lists of ops that came in. Numbers and types by name. -/
namespace Go.Proofs.YthacjeeafnblmaaGreatDoor
open Go.ChangeShapes Go.WideShapes Go.ChangeAt Go.RowKit Go.Lib Go.Deep

theorem cellsOpsK : Tryz.prog.cellsOf 49 = 1 := by kernel_rfl

/-- A [][]api.Op that came in. -/
theorem open_batches {H : Type} {enc : TypeId × Value → H} {W : World} {base : Nat} {spare : Nat → Bool} {held : Bool} {fuel : Nat} {a0 : Option Addr} {len cap : Nat} {x : DataW H × List MemPlace}
    (h : DataW.trod enc Tryz.prog W base spare held fuel 23 [.slice a0 len cap] = some x) : ∃ LL : List (List Opm), Obs W (.slice a0 len cap) len LL := by
  rcases open_slice1 Tryz.underlying23 cellsOpsK h with ⟨hcs, _⟩ | ⟨a, len', cap', m, n, V, D, Pl, hcs, _, hl, hm, hmm, _, hcell⟩
  · simp only [List.cons.injEq, Value.slice.injEq, and_true] at hcs
    obtain ⟨rfl, rfl, rfl⟩ := hcs
    exact ⟨[], Obs.nil W⟩
  · simp only [List.cons.injEq, Value.slice.injEq, and_true] at hcs
    obtain ⟨rfl, rfl, rfl⟩ := hcs
    have hlm : len ≤ m := by rw [hmm]; split <;> omega
    have each : ∀ i, i < len → ∃ y : Option Addr × Nat × List Opm, V i = .slice y.1 y.2.2.length y.2.1 ∧ Opr W (.slice y.1 y.2.2.length y.2.1) y.2.2.length y.2.2 := by
      intro i hi
      have h2 := (hcell i (by omega)).2
      obtain ⟨ai, li, ci, hv⟩ : ∃ ai li ci, V i = .slice ai li ci := by
        rcases open_slice Tryz.underlying49 h2 with ⟨e, _⟩ | ⟨b, l2, c2, _, _, _, _, e, _⟩
        · exact ⟨none, 0, 0, by simpa using e⟩
        · exact ⟨some b, l2, c2, by simpa using e⟩
      rw [hv] at h2
      obtain ⟨L, hL⟩ := open_ops h2
      have e := hL.1
      subst e
      exact ⟨(ai, ci, L), hv, hL⟩
    obtain ⟨y, hy⟩ := choose_lt each
    refine ⟨(List.range len).map fun i => (y i).2.2, by simp, Nat.le_trans hl hm, (List.range len).map V, ⟨some a, cap, by simp, by simpa using hl, (fun e => by cases e), fun a' ha j u hj => ?_⟩, by simp, by simp, fun j p hj => ?_⟩
    · cases ha
      have hj1 : j < len := by
        have := (List.getElem?_eq_some_iff.1 hj).1
        simpa using this
      rw [(hcell j (by omega)).1]
      simpa [hj1] using hj
    · have hj1 : j < len := by
        have := (List.getElem?_eq_some_iff.1 hj).1
        simpa using this
      have e : (y j).2.2 = p := by simpa [hj1] using hj
      obtain ⟨e1, e2⟩ := hy j hj1
      rw [e] at e1 e2
      exact ⟨(y j).1, (y j).2.1, by simp [hj1, e1], e2⟩

end Go.Proofs.YthacjeeafnblmaaGreatDoor

/- The copies of lists: 'copied' at int and at byte; what a slice value reads as. Numbers and types by name. -/
namespace Go.Proofs.YthacjeeafnblmaaGreatDoor
open Go.RowKit

theorem copied_int (v : Value) (zs : List Int) (w : World) (hr : Reads w v (iv zs)) (hz : zs.length * 8 ≤ 140737488355328) :
    Calls Tryz.prog 61 #[v] w fun e w' => ∃ ao c, e = .returned (.slice ao zs.length c) ∧ w'.ownsRow w.heap.size 3 1 (.slice ao zs.length c) zs.length (iv zs) ∧ w.grownBy w' none := by
  obtain ⟨i0, hi, hz0, hz1, hz2⟩ := info_parts info_int
  obtain ⟨ao, cap, rfl, _, hn, hc⟩ := hr
  rw [iv_length]
  cases ao with
  | none =>
    obtain ⟨h0, rfl⟩ := hn rfl
    obtain rfl : zs = [] := by simpa [iv] using h0
    have hrun := fun ty => run_append_owned_none (P := Tryz.prog) w w.heap.size 29 ty 3 i0 1 Tryz.underlying29 hi (.slice none 0 0) 0 [] (World.ownsRow_nil _ _ _ _)
    clear hn hc
    go_enter Tryz.func61, Tryz.ntmps61
    go_wp2
    go_ret
    exact ⟨none, 0, rfl, World.ownsRow_nil _ _ _ _, ⟨rfl, rfl, rfl, Nat.le_refl _, fun _ _ _ => rfl⟩⟩
  | some a =>
    have hc' := hc a rfl
    have hl := iv_length zs
    have H1 : Hid ((iv zs).length = zs.length * 1) := Lib.hid (by rw [hl]; omega)
    have H2 : Hid (0 + zs.length ≤ maxLen) := Lib.hid (by unfold maxLen; omega)
    have H3 : Hid ((0 + zs.length) * 8 ≤ 140737488355328) := Lib.hid (by omega)
    clear hn hc hl hz
    have h1 := iv_one zs
    generalize iv zs = xs at *
    go_enter Tryz.func61, Tryz.ntmps61
    go_wp2_with (at_builtin; refine wpList_append_own _ rfl _ _ 29 rfl w.heap.size 3 i0 (.int .i64 0) 1 8 Tryz.underlying29 hi hz0 hz1 hz2 rfl (by decide) _ 0 [] rfl (World.ownsRow_nil _ _ _ _) a zs.length cap xs rfl H1.out hc' h1 H2.out H3.out (Nat.le_refl _) ?_; intro v' w1 hown hgrow _)
    go_ret
    simp only [Nat.zero_add, List.nil_append] at hown
    obtain ⟨ao, c, rfl⟩ := owns_shape hown
    exact ⟨ao, c, rfl, hown, hgrow⟩

theorem copied_int_nil (w : World) : Calls Tryz.prog 61 #[.slice none 0 0] w fun e w' => e = .returned (.slice none 0 0) ∧ w = w' := by
  obtain ⟨i0, hi, hz0, hz1, hz2⟩ := info_parts info_int
  have hrun := fun ty => run_append_owned_none (P := Tryz.prog) w w.heap.size 29 ty 3 i0 1 Tryz.underlying29 hi (.slice none 0 0) 0 [] (World.ownsRow_nil _ _ _ _)
  go_enter Tryz.func61, Tryz.ntmps61
  go_wp2
  go_ret
  exact ⟨rfl, rfl⟩

theorem copied_byte (v : Value) (l : List UInt8) (w : World) (hr : Reads w v (bv l)) (hz : l.length ≤ 140737488355328) :
    Calls Tryz.prog 63 #[v] w fun e w' => ∃ ao c, e = .returned (.slice ao l.length c) ∧ w'.ownsRow w.heap.size 5 1 (.slice ao l.length c) l.length (bv l) ∧ w.grownBy w' none := by
  obtain ⟨i0, hi, hz0, hz1, hz2⟩ := info_parts info_byte
  obtain ⟨ao, cap, rfl, _, hn, hc⟩ := hr
  rw [bv_length]
  cases ao with
  | none =>
    obtain ⟨h0, rfl⟩ := hn rfl
    obtain rfl : l = [] := by simpa [bv] using h0
    have hrun := fun ty => run_append_owned_none (P := Tryz.prog) w w.heap.size 24 ty 5 i0 1 Tryz.underlying24 hi (.slice none 0 0) 0 [] (World.ownsRow_nil _ _ _ _)
    clear hn hc
    go_enter Tryz.func63, Tryz.ntmps63
    go_wp2
    go_ret
    exact ⟨none, 0, rfl, World.ownsRow_nil _ _ _ _, ⟨rfl, rfl, rfl, Nat.le_refl _, fun _ _ _ => rfl⟩⟩
  | some a =>
    have hc' := hc a rfl
    have hl := bv_length l
    have H1 : Hid ((bv l).length = l.length * 1) := Lib.hid (by rw [hl]; omega)
    have H2 : Hid (0 + l.length ≤ maxLen) := Lib.hid (by unfold maxLen; omega)
    have H3 : Hid ((0 + l.length) * 1 ≤ 140737488355328) := Lib.hid (by omega)
    clear hn hc hl hz
    have h1 := bv_one l
    generalize bv l = xs at *
    go_enter Tryz.func63, Tryz.ntmps63
    go_wp2_with (at_builtin; refine wpList_append_own _ rfl _ _ 24 rfl w.heap.size 5 i0 (.int .u8 0) 1 1 Tryz.underlying24 hi hz0 hz1 hz2 rfl (by decide) _ 0 [] rfl (World.ownsRow_nil _ _ _ _) a l.length cap xs rfl H1.out hc' h1 H2.out H3.out (Nat.le_refl _) ?_; intro v' w1 hown hgrow _)
    go_ret
    simp only [Nat.zero_add, List.nil_append] at hown
    obtain ⟨ao, c, rfl⟩ := owns_shape hown
    exact ⟨ao, c, rfl, hown, hgrow⟩

end Go.Proofs.YthacjeeafnblmaaGreatDoor

namespace Go.Proofs.YthacjeeafnblmaaGreatDoor
open Go.RowKit

/-- What stands in a Disk's nine cells. -/
structure DS where
  cap : Int
  cr : Int
  sz : Int
  ca : Int
  dn : Bool
  dw : Bool
  fl : Value
  kp : Value
  fs : Value

def DS.cells (s : DS) : Array Value := #[.int .i64 s.cap, s.fl, .int .i64 s.cr, .bool s.dn, s.kp, s.fs, .int .i64 s.sz, .int .i64 s.ca, .bool s.dw]

/-- Block b is a Disk that holds s. -/
def DiskC (w : World) (b : Nat) (s : DS) : Prop := w.heap[b]? = some (.cells s.cells 71 (0, 0))

/-- The block of cells b, in cells: what a walk wants. -/
theorem cells_of {w : World} {b : Nat} {cs : Array Value} {t : TypeId} (h : w.heap[b]? = some (.cells cs t (0, 0))) (j : Nat) (v : Value) (hj : cs[j]? = some v) : w.cell? ⟨b, j, none⟩ = some v := by
  simp only [World.cell?, h]
  simpa using hj
theorem free_of {w : World} {b : Nat} {cs : Array Value} {t : TypeId} (h : w.heap[b]? = some (.cells cs t (0, 0))) (j : Nat) : w.frozen? ⟨b, j, none⟩ = false := by
  simp [World.frozen?, h]
theorem lt_of {w : World} {b : Nat} {o : Obj} (h : w.heap[b]? = some o) : b < w.heap.size := (Array.getElem?_eq_some_iff.1 h).1
theorem heap_set_ne {w : World} {b c : Nat} {o : Option Obj} (h : w.heap[b]? = o) (hne : b ≠ c) (j : Nat) (v : Value) : (w.setCell ⟨c, j, none⟩ v).heap[b]? = o := by
  rw [← h]; exact Below.heap_setCell _ _ _ _ hne

/-- w' is w with new blocks, and with writes to the blocks of F alone. -/
structure Turn (F : List Nat) (w w' : World) : Prop where
  os : w'.os = w.os
  tape : w'.tape = w.tape
  output : w'.output = w.output
  size : w.heap.size ≤ w'.heap.size
  block : ∀ k, k < w.heap.size → k ∉ F → w'.heap[k]? = w.heap[k]?

/-- What was read is read where other blocks were written. -/
theorem Reads.turn {w w' : World} {v : Value} {xs : List Value} {F : List Nat} (h : Reads w v xs) (t : Turn F w w') (hF : xs ≠ [] → ∀ a n c, v = .slice (some a) n c → a.block ∉ F) : Reads w' v xs := by
  obtain ⟨ao, cap, rfl, h0, h1, h2⟩ := h
  refine ⟨ao, cap, rfl, h0, h1, fun a ha j u hj => ?_⟩
  have h3 := h2 a ha j u hj
  have hb : (a.add j).block = a.block := by unfold Addr.add; split <;> rfl
  have hlt := World.block_lt_of_cell? w _ h3
  rw [hb] at hlt
  rw [← h3]
  exact World.cell?_of_block (by rw [hb]; exact t.block a.block hlt (hF (by rintro rfl; cases hj) a _ _ (by rw [ha])))

theorem Reads.below_top {w w' : World} {v : Value} {xs : List Value} {B : Nat} (h : Reads w v xs) (hb : Below B w w') (hB : w.heap.size ≤ B) : Reads w' v xs := by
  obtain ⟨ao, cap, rfl, h0, h1, h2⟩ := h
  refine ⟨ao, cap, rfl, h0, h1, fun a ha j u hj => ?_⟩
  have h3 := h2 a ha j u hj
  have hlt := World.block_lt_of_cell? w _ h3
  rw [← h3]
  exact hb.cell (Nat.lt_of_lt_of_le hlt hB)

theorem Reads.lt {w : World} {v : Value} {xs : List Value} (h : Reads w v xs) (hx : xs ≠ []) : ∀ a n c, v = .slice (some a) n c → a.block < w.heap.size := by
  obtain ⟨ao, cap, rfl, h0, h1, h2⟩ := h
  intro a n c e
  simp only [Value.slice.injEq] at e
  match xs, hx with
  | u :: xs, _ =>
    have h3 := h2 a e.1 0 u rfl
    have hlt := World.block_lt_of_cell? w _ h3
    have hb : (a.add 0).block = a.block := by unfold Addr.add; split <;> rfl
    rw [hb] at hlt
    exact hlt

theorem Reads.taken {w : World} {ao : Option Addr} {len c : Nat} {xs : List Value} (h : Reads w (.slice ao len c) xs) (n : Nat) (hn : n ≤ len) : Reads w (.slice ao n c) (xs.take n) := by
  obtain ⟨ao', cap, e, h0, h1, h2⟩ := h
  simp only [Value.slice.injEq] at e
  obtain ⟨rfl, rfl, rfl⟩ := e
  refine ⟨ao, c, by simp [Nat.min_eq_left hn], by rw [List.length_take]; omega, fun e => ?_, fun a ha j u hj => ?_⟩
  · obtain ⟨h3, h4⟩ := h1 e
    exact ⟨by simp [h3], h4⟩
  · rw [List.getElem?_take] at hj
    split at hj
    · exact h2 a ha j u hj
    · cases hj

theorem Turn.refl (F : List Nat) (w : World) : Turn F w w := ⟨rfl, rfl, rfl, Nat.le_refl _, fun _ _ _ => rfl⟩
theorem Turn.of_grown {w w' : World} {row : Option Nat} {F : List Nat} (h : w.grownBy w' row) (hr : ∀ k, row = some k → k ∈ F) : Turn F w w' :=
  ⟨h.os, h.tape, h.output, h.size, fun k hk hn => h.block k hk (fun e => hn (hr k e.symm))⟩
theorem Turn.of_none {w w' : World} {F : List Nat} (h : w.grownBy w' none) : Turn F w w' := Turn.of_grown h (by intro k e; cases e)
/-- What is written in the second step is of F, or new since a. -/
theorem Turn.trans' {F G : List Nat} {a b c : World} (h : Turn F a b) (k : Turn G b c) (hG : ∀ x, x ∈ G → x ∈ F ∨ a.heap.size ≤ x) : Turn F a c :=
  ⟨k.os.trans h.os, k.tape.trans h.tape, k.output.trans h.output, Nat.le_trans h.size k.size, fun i hi hn =>
    (k.block i (Nat.lt_of_lt_of_le hi h.size) (fun hm => (hG i hm).elim hn (fun e => by omega))).trans (h.block i hi hn)⟩
theorem Turn.trans {F : List Nat} {a b c : World} (h : Turn F a b) (k : Turn F b c) : Turn F a c := h.trans' k fun _ hx => .inl hx
theorem Turn.mono {F G : List Nat} {a b : World} (h : Turn F a b) (hFG : ∀ x, x ∈ F → x ∈ G) : Turn G a b := ⟨h.os, h.tape, h.output, h.size, fun k hk hn => h.block k hk fun e => hn (hFG k e)⟩
theorem Turn.set {F : List Nat} {a w : World} (h : Turn F a w) {c : Nat} (hc : c ∈ F ∨ a.heap.size ≤ c) (j : Nat) (v : Value) : Turn F a (w.setCell ⟨c, j, none⟩ v) :=
  ⟨h.os, h.tape, h.output, by have := h.size; simpa [World.setCell] using this, fun i hi hn => (Below.heap_setCell _ _ _ _ (by show i ≠ c; rintro rfl; exact hc.elim hn (fun e => by omega))).trans (h.block i hi hn)⟩
theorem Turn.alloc {F : List Nat} {a w : World} (h : Turn F a w) (o : Obj) : Turn F a (w.alloc o) := h.trans (Turn.of_none (World.grownBy_alloc w o none))
theorem Turn.drew {F : List Nat} {a w : World} (h : Turn F a w) : Turn F a w.drew := ⟨h.os, h.tape, h.output, h.size, h.block⟩
theorem Turn.drewN {F : List Nat} {a w : World} (h : Turn F a w) (n : Nat) : Turn F a (w.drewN n) := ⟨h.os, h.tape, h.output, h.size, h.block⟩
theorem Turn.heap {F : List Nat} {a w : World} (h : Turn F a w) {k : Nat} {o : Obj} (hk : a.heap[k]? = some o) (hn : k ∉ F) : w.heap[k]? = some o := (h.block k (lt_of hk) hn).trans hk
theorem Turn.below {F : List Nat} {a w : World} (h : Turn F a w) {B : Nat} (hB : B ≤ a.heap.size) (hF : ∀ x, x ∈ F → B ≤ x) : Below B a w :=
  ⟨h.os, h.tape, h.output, h.size, fun k hk => h.block k (by omega) (fun e => by have := hF k e; omega)⟩

theorem DiskC.c0 {w : World} {b : Nat} {s : DS} (h : DiskC w b s) : w.cell? ⟨b, 0, none⟩ = some (.int .i64 s.cap) := cells_of h 0 _ rfl
theorem DiskC.c1 {w : World} {b : Nat} {s : DS} (h : DiskC w b s) : w.cell? ⟨b, 1, none⟩ = some (s.fl) := cells_of h 1 _ rfl
theorem DiskC.c2 {w : World} {b : Nat} {s : DS} (h : DiskC w b s) : w.cell? ⟨b, 2, none⟩ = some (.int .i64 s.cr) := cells_of h 2 _ rfl
theorem DiskC.c3 {w : World} {b : Nat} {s : DS} (h : DiskC w b s) : w.cell? ⟨b, 3, none⟩ = some (.bool s.dn) := cells_of h 3 _ rfl
theorem DiskC.c4 {w : World} {b : Nat} {s : DS} (h : DiskC w b s) : w.cell? ⟨b, 4, none⟩ = some (s.kp) := cells_of h 4 _ rfl
theorem DiskC.c5 {w : World} {b : Nat} {s : DS} (h : DiskC w b s) : w.cell? ⟨b, 5, none⟩ = some (s.fs) := cells_of h 5 _ rfl
theorem DiskC.c6 {w : World} {b : Nat} {s : DS} (h : DiskC w b s) : w.cell? ⟨b, 6, none⟩ = some (.int .i64 s.sz) := cells_of h 6 _ rfl
theorem DiskC.c7 {w : World} {b : Nat} {s : DS} (h : DiskC w b s) : w.cell? ⟨b, 7, none⟩ = some (.int .i64 s.ca) := cells_of h 7 _ rfl
theorem DiskC.c8 {w : World} {b : Nat} {s : DS} (h : DiskC w b s) : w.cell? ⟨b, 8, none⟩ = some (.bool s.dw) := cells_of h 8 _ rfl
theorem DiskC.free {w : World} {b : Nat} {s : DS} (h : DiskC w b s) (j : Nat) : w.frozen? ⟨b, j, none⟩ = false := free_of h j
theorem DiskC.lt {w : World} {b : Nat} {s : DS} (h : DiskC w b s) : b < w.heap.size := lt_of h
theorem DiskC.turn {F : List Nat} {w w' : World} {b : Nat} {s : DS} (h : DiskC w b s) (t : Turn F w w') (hb : b ∉ F) : DiskC w' b s := t.heap h hb
theorem DiskC.setNe {w : World} {b : Nat} {s : DS} (h : DiskC w b s) {c : Nat} (hc : b ≠ c) (j : Nat) (v : Value) : DiskC (w.setCell ⟨c, j, none⟩ v) b s := heap_set_ne h hc j v
theorem DiskC.set0 {w : World} {b : Nat} {s : DS} (h : DiskC w b s) (x : Int) : DiskC (w.setCell ⟨b, 0, none⟩ (.int .i64 x)) b { s with cap := x } := by
  have := heap_set h 0 (.int .i64 x)
  simpa [DiskC, DS.cells] using this
theorem DiskC.set1 {w : World} {b : Nat} {s : DS} (h : DiskC w b s) (x : Value) : DiskC (w.setCell ⟨b, 1, none⟩ (x)) b { s with fl := x } := by
  have := heap_set h 1 (x)
  simpa [DiskC, DS.cells] using this
theorem DiskC.set2 {w : World} {b : Nat} {s : DS} (h : DiskC w b s) (x : Int) : DiskC (w.setCell ⟨b, 2, none⟩ (.int .i64 x)) b { s with cr := x } := by
  have := heap_set h 2 (.int .i64 x)
  simpa [DiskC, DS.cells] using this
theorem DiskC.set3 {w : World} {b : Nat} {s : DS} (h : DiskC w b s) (x : Bool) : DiskC (w.setCell ⟨b, 3, none⟩ (.bool x)) b { s with dn := x } := by
  have := heap_set h 3 (.bool x)
  simpa [DiskC, DS.cells] using this
theorem DiskC.set4 {w : World} {b : Nat} {s : DS} (h : DiskC w b s) (x : Value) : DiskC (w.setCell ⟨b, 4, none⟩ (x)) b { s with kp := x } := by
  have := heap_set h 4 (x)
  simpa [DiskC, DS.cells] using this
theorem DiskC.set5 {w : World} {b : Nat} {s : DS} (h : DiskC w b s) (x : Value) : DiskC (w.setCell ⟨b, 5, none⟩ (x)) b { s with fs := x } := by
  have := heap_set h 5 (x)
  simpa [DiskC, DS.cells] using this
theorem DiskC.set6 {w : World} {b : Nat} {s : DS} (h : DiskC w b s) (x : Int) : DiskC (w.setCell ⟨b, 6, none⟩ (.int .i64 x)) b { s with sz := x } := by
  have := heap_set h 6 (.int .i64 x)
  simpa [DiskC, DS.cells] using this
theorem DiskC.set7 {w : World} {b : Nat} {s : DS} (h : DiskC w b s) (x : Int) : DiskC (w.setCell ⟨b, 7, none⟩ (.int .i64 x)) b { s with ca := x } := by
  have := heap_set h 7 (.int .i64 x)
  simpa [DiskC, DS.cells] using this
theorem DiskC.set8 {w : World} {b : Nat} {s : DS} (h : DiskC w b s) (x : Bool) : DiskC (w.setCell ⟨b, 8, none⟩ (.bool x)) b { s with dw := x } := by
  have := heap_set h 8 (.bool x)
  simpa [DiskC, DS.cells] using this

theorem begin_nf (b : Nat) (s : DS) (cap cr : Int) (dn : Bool) (kp : Value) (ks : List Int) (w : World) (hd : DiskC w b s) (hk : Reads w kp (iv ks)) (hz : ks.length * 8 ≤ 140737488355328)
    (hsort : ∀ w : World, Calls Tryz.prog 62 #[.slice none 0 0] w fun e w' => e = .returned (.tuple #[]) ∧ w = w') :
    Calls Tryz.prog 31 #[.pointer (some ⟨b, 0, none⟩), .agg #[.int .i64 cap, .slice none 0 0, .int .i64 cr, .bool dn, kp]] w fun e w' => e = .returned (.tuple #[]) ∧ ∃ kp',
      DiskC w' b { s with cap := cap, fl := .slice none 0 0, cr := cr, dn := dn, kp := kp', ca := 0, dw := false } ∧ w'.ownsRow w.heap.size 3 1 kp' ks.length (iv ks) ∧ Turn [b] w w' := by
  have hk1 := hk.alloc (.cells #[.int .i64 cap, .slice none 0 0, .int .i64 cr, .bool dn, kp] 31)
  have hbl := lt_of hd
  have HK : Hid (ks.length * 8 ≤ 140737488355328) := Lib.hid hz
  clear hz hk
  go_enter Tryz.func31, Tryz.ntmps31
  go_wp2_with (first | (go_at_call 61; ((with_reducible refine (copied_int_nil _).mono ?_); rintro e w' ⟨rfl, rfl⟩)) | (go_at_call 62; ((with_reducible refine (hsort _).mono ?_); rintro e w' ⟨rfl, rfl⟩)))
  refine (copied_int kp ks _ hk1 HK.out).mono ?_
  rintro e w2 ⟨ao', c', rfl, hown, hg⟩
  have hp : w2.heap[w.heap.size]? = some (.cells #[.int .i64 cap, .slice none 0 0, .int .i64 cr, .bool dn, kp] 31 (0, 0)) := by
    rw [hg.block w.heap.size (by simp) (by simp)]; exact heap_alloc_new _ _
  have hd2 : DiskC w2 b s := by
    unfold DiskC at *; rw [hg.block b (by simp; omega) (by simp), Below.heap_alloc _ _ _ hbl]; exact hd
  have p0 := cells_of hp 0 _ rfl
  have p1 := cells_of hp 1 _ rfl
  have p2 := cells_of hp 2 _ rfl
  have p3 := cells_of hp 3 _ rfl
  have p4 := cells_of hp 4 _ rfl
  have q4 := free_of hp 4
  have d0 := cells_of hd2 0 _ rfl
  have d1 := cells_of hd2 1 _ rfl
  have d2 := cells_of hd2 2 _ rfl
  have d3 := cells_of hd2 3 _ rfl
  have d4 := cells_of hd2 4 _ rfl
  have d7 := cells_of hd2 7 _ rfl
  have d8 := cells_of hd2 8 _ rfl
  have e0 := free_of hd2 0
  have e1 := free_of hd2 1
  have e2 := free_of hd2 2
  have e3 := free_of hd2 3
  have e4 := free_of hd2 4
  have e7 := free_of hd2 7
  have e8 := free_of hd2 8
  have hne : ¬ b = w.heap.size := by omega
  go_wp2_with fail
  go_end0
  have k1 := heap_set (heap_set (heap_set (heap_set (heap_set (heap_set (heap_set (heap_set_ne hd2 hne 4 (.slice ao' ks.length c')) 0 (.int .i64 cap)) 1 (.slice none 0 0)) 2 (.int .i64 cr)) 3 (.bool dn)) 4 (.slice ao' ks.length c')) 7 (.int .i64 0)) 8 (.bool false)
  have k2 : ∀ (j : Nat) (x : Value) (W : World), W.ownsRow (w.heap.size + 1) 3 1 (.slice ao' ks.length c') ks.length (iv ks) → (W.setCell ⟨b, j, none⟩ x).ownsRow (w.heap.size + 1) 3 1 (.slice ao' ks.length c') ks.length (iv ks) := fun j x W h => ownsRow_setCell_below h (by show b < _; omega) x
  have k0 : w.grownBy w2 none := grown_trans (World.grownBy_alloc _ _ _) hg
  refine ⟨rfl, _, ?_, owns_base (k2 _ _ _ (k2 _ _ _ (k2 _ _ _ (k2 _ _ _ (k2 _ _ _ (k2 _ _ _ (k2 _ _ _ (ownsRow_setCell_below (by simpa using hown) (by simp) _)))))))) (by omega), ?_⟩
  · simpa [DiskC, DS.cells] using k1
  · exact Turn.of_grown (grown_set (grown_set (grown_set (grown_set (grown_set (grown_set (grown_set (grown_set_new (grown_any k0 _) (Nat.le_refl _) _ _) _ _) _ _) _ _) _ _) _ _) _ _) _ _) (by intro k e; cases e; simp)

end Go.Proofs.YthacjeeafnblmaaGreatDoor
