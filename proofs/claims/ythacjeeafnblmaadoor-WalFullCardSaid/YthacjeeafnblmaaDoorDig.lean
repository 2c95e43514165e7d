/- The reference's Digits. Numbers and types by name. -/
import Derived.Test.YthacjeeafnblmaaDoorOpl
import Derived.Test.YthacjeeafnblmaaDoorCrc
import Derived.Test.YthacjeeafnblmaaDoorOpr
import Derived.Test.YthacjeeafnblmaaDoorTxt
/- Lists of lists of ops that are read; Batches. Numbers and types by name. -/
namespace Go.Proofs.YthacjeeafnblmaaDoor
open Go.RowKit Go.Lib

def OpVals (w : World) (vs : List Value) (LL : List (List Opm)) : Prop :=
  vs.length = LL.length ∧ ∀ (j : Nat) (L : List Opm), LL[j]? = some L → ∃ ao c, vs[j]? = some (Value.slice ao L.length c) ∧ Opr w (.slice ao L.length c) L.length L

theorem OpVals.later {w w' : World} {vs : List Value} {LL : List (List Opm)} (h : OpVals w vs LL) (hg : Grow w w') : OpVals w' vs LL :=
  ⟨h.1, fun j L hj => by obtain ⟨ao, c, e1, e2⟩ := h.2 j L hj; exact ⟨ao, c, e1, e2.later hg⟩⟩

/-- A list of lists of ops can be read. -/
def Obs (w : World) (v : Value) (n : Nat) (LL : List (List Opm)) : Prop := n = LL.length ∧ n ≤ maxLen ∧ ∃ vs : List Value, Reads w v vs ∧ vs.length = n ∧ OpVals w vs LL

theorem Obs.shape {w : World} {v : Value} {n : Nat} {LL : List (List Opm)} (h : Obs w v n LL) : ∃ ao c, v = .slice ao n c := by
  obtain ⟨_, _, vs, ⟨ao, c, rfl, _⟩, hl, _⟩ := h
  exact ⟨ao, c, by rw [hl]⟩
theorem Obs.later {w w' : World} {v : Value} {n : Nat} {LL : List (List Opm)} (h : Obs w v n LL) (hg : Grow w w') : Obs w' v n LL := by
  obtain ⟨h1, h2, vs, hr, hl, hp⟩ := h
  exact ⟨h1, h2, vs, hr.later hg, hl, hp.later hg⟩
theorem Obs.nil (w : World) : Obs w (.slice none 0 0) 0 [] := ⟨rfl, Nat.zero_le _, [], Reads.nil w, rfl, rfl, fun j p h => by cases h⟩

theorem Obs.at {w : World} {ao : Option Addr} {n c : Nat} {LL : List (List Opm)} (h : Obs w (.slice ao n c) n LL) {k : Nat} (hk : k < n) :
    ∃ a L ap cp, ao = some a ∧ LL[k]? = some L ∧ w.cell? (a.add k) = some (.slice ap L.length cp) ∧ Opr w (.slice ap L.length cp) L.length L := by
  obtain ⟨h1, h2, vs, ⟨ao', c', e, _, hn, hc⟩, hl, hp⟩ := h
  simp only [Value.slice.injEq] at e
  obtain ⟨rfl, _, _⟩ := e
  have hx : LL[k]? = some (LL[k]'(by omega)) := List.getElem?_eq_getElem (by omega)
  obtain ⟨ap, cp, e1, e2⟩ := hp.2 k _ hx
  cases ao with
  | none => have := (hn rfl).1; subst this; simp at hl; omega
  | some a => exact ⟨a, _, ap, cp, rfl, hx, hc a rfl k _ e1, e2⟩

theorem Obs.prefix {w : World} {ao : Option Addr} {n c : Nat} {ps : List (List Opm)} (h : Obs w (.slice ao n c) n ps) (j : Nat) (hj : j ≤ n) : Obs w (.slice ao j c) j (ps.take j) ∧ n ≤ c := by
  obtain ⟨h1, h2, vs, ⟨ao', c', e, h0, hn, hc⟩, hl, hp⟩ := h
  simp only [Value.slice.injEq] at e
  obtain ⟨rfl, _, rfl⟩ := e
  refine ⟨⟨by rw [List.length_take]; omega, by omega, vs.take j, ⟨ao, c, by rw [List.length_take]; congr 1; omega, by rw [List.length_take]; omega, fun e => ⟨by rw [(hn e).1]; simp, (hn e).2⟩, fun a ha i u hi => ?_⟩, by rw [List.length_take]; omega, by rw [List.length_take, List.length_take, hp.1], fun i p hi => ?_⟩, by omega⟩
  · refine hc a ha i u ?_
    rw [List.getElem?_take] at hi
    split at hi
    · exact hi
    · cases hi
  · rw [List.getElem?_take] at hi
    split at hi
    · next hij =>
      obtain ⟨ao, c2, f1, f2⟩ := hp.2 i p hi
      exact ⟨ao, c2, by rw [List.getElem?_take, if_pos hij]; exact f1, f2⟩
    · cases hi

/-- What Batches tells. -/
def SameB (ps qs : List (List Opm)) (w : World) (e : Ending) (w' : World) : Prop := ∃ b k, e = .returned (.bool b) ∧ w' = w.drewN k ∧ (b = true ↔ ps = qs)

theorem same_batches (v1 v2 : Value) (n m : Nat) (ps qs : List (List Opm)) (w : World) (h1 : Obs w v1 n ps) (h2 : Obs w v2 m qs) :
    Calls Tryd.prog 14 #[v1, v2] w (SameB ps qs w) := by
  obtain ⟨a1, c1, rfl⟩ := h1.shape
  obtain ⟨a2, c2, rfl⟩ := h2.shape
  have H1 := Lib.hid h1
  have H2 := Lib.hid h2
  have hm := h1.2.1
  unfold maxLen at hm
  clear h1 h2
  by_cases hne : n = m
  · subst hne
    go_enter Tryd.func14, Tryd.ntmps14
    go_wp2_with fail
    go_loopw [5] (fun i wr => ∃ k q : Nat, k ≤ n ∧ i = .int .i64 k ∧ wr = w.drewN q ∧ Hid (ps.take k = qs.take k))
      (fun i _ => n - (intOf i).toNat)
    case atStart => exact ⟨0, 0, Nat.zero_le _, rfl, rfl, Lib.hid rfl⟩
    case round =>
      obtain ⟨k, q, hk, rfl, hw, hs⟩ := hrel
      by_cases h1 : k < n
      · have h3 : (k : Int) < (n : Int) := by omega
        have R1 : Obs wr (.slice a1 n c1) n ps := by rw [hw]; exact H1.out
        have R2 : Obs wr (.slice a2 n c2) n qs := by rw [hw]; exact H2.out
        obtain ⟨x1, p1, ap1, cp1, rfl, e1, hc1, hr1⟩ := R1.at h1
        obtain ⟨x2, p2, ap2, cp2, rfl, e2, hc2, hr2⟩ := R2.at h1
        have S : ∃ b, (b = true ↔ p1 = p2) ∧ ∀ j, Calls Tryd.prog 18 #[.slice ap1 p1.length cp1, .slice ap2 p2.length cp2] (wr.drewN j) fun e w' => e = .returned (.bool b) ∧ ∃ i, w' = wr.drewN i := by
          refine ⟨decide (p1 = p2), by simp, fun j => ?_⟩
          refine (same_ops _ _ _ _ p1 p2 (wr.drewN j) hr1 hr2).mono ?_
          rintro e w' ⟨b, k, rfl, rfl, hb⟩
          exact ⟨by rw [show b = decide (p1 = p2) by rw [Bool.eq_iff_iff, hb]; simp], j + k, World.drewN_drewN ..⟩
        obtain ⟨b, hb, S⟩ := S
        have HW := Lib.hid (And.intro hw (And.intro e1 e2))
        clear hr1 hr2 hw R1 R2 e1 e2
        cases b with
        | true =>
          have hst : p1 = p2 := hb.1 rfl
          have HN : Hid (ps.take (k + 1) = qs.take (k + 1)) := Lib.hid (by rw [take_next HW.out.2.1, take_next HW.out.2.2, hs.out, hst])
          clear hst hb
          go_wp2_with fail
          go_quiet ((go_at_call 18; exact S _))
          go_wp2
          exact ⟨⟨k + 1, q + nq, by omega, by simp, by rw [HW.out.1, World.drewN_drewN], HN⟩, by simp [intOf]; omega⟩
        | false =>
          have HN : Hid (ps ≠ qs) := Lib.hid (by
            rintro rfl
            have := hb.2 (Option.some.inj (HW.out.2.1.symm.trans HW.out.2.2))
            cases this)
          clear hb
          go_wp2_with fail
          go_quiet ((go_at_call 18; exact S _))
          go_wp2
          go_ret
          exact ⟨false, q + nq, rfl, by rw [HW.out.1, World.drewN_drewN], ⟨(fun h => by cases h), fun h => absurd h HN.out⟩⟩
      · have h3 : ¬ (k : Int) < (n : Int) := by omega
        obtain rfl : k = n := by omega
        have HW := Lib.hid hw
        clear hw
        go_wp2_with fail
        go_ret
        refine ⟨true, q, rfl, HW.out, ?_⟩
        have h5 := hs.out
        rw [List.take_of_length_le (by have := H1.out.1; omega), List.take_of_length_le (by have := H2.out.1; omega)] at h5
        simp [h5]
  · have h3 : ¬ (n : Int) = (m : Int) := by omega
    have h4 : ((n : Int) != (m : Int)) = true := by simpa using h3
    go_enter Tryd.func14, Tryd.ntmps14
    go_wp2_with fail
    go_ret
    refine ⟨false, 0, rfl, rfl, ?_⟩
    constructor
    · intro h; cases h
    · intro h; exact absurd (by have := H1.out.1; have := H2.out.1; rw [h] at *; omega) hne

end Go.Proofs.YthacjeeafnblmaaDoor

/- Lists of lists of ops that came in. Numbers and types by name. -/
namespace Go.Proofs.YthacjeeafnblmaaDoor
open Go.ChangeShapes Go.WideShapes Go.ChangeAt Go.RowKit Go.Lib Go.Deep

theorem cellsOpsK : Tryd.prog.cellsOf 22 = 1 := by kernel_rfl

/-- A [][]api.Op that came in. -/
theorem open_batches {H : Type} {enc : TypeId × Value → H} {W : World} {base : Nat} {spare : Nat → Bool} {held : Bool} {fuel : Nat} {a0 : Option Addr} {len cap : Nat} {x : DataW H × List MemPlace}
    (h : DataW.trod enc Tryd.prog W base spare held fuel 35 [.slice a0 len cap] = some x) : ∃ LL : List (List Opm), Obs W (.slice a0 len cap) len LL := by
  rcases open_slice1 Tryd.underlying35 cellsOpsK h with ⟨hcs, _⟩ | ⟨a, len', cap', m, n, V, D, Pl, hcs, _, hl, hm, hmm, _, hcell⟩
  · simp only [List.cons.injEq, Value.slice.injEq, and_true] at hcs
    obtain ⟨rfl, rfl, rfl⟩ := hcs
    exact ⟨[], Obs.nil W⟩
  · simp only [List.cons.injEq, Value.slice.injEq, and_true] at hcs
    obtain ⟨rfl, rfl, rfl⟩ := hcs
    have hlm : len ≤ m := by rw [hmm]; split <;> omega
    have each : ∀ i, i < len → ∃ y : Option Addr × Nat × List Opm, V i = .slice y.1 y.2.2.length y.2.1 ∧ Opr W (.slice y.1 y.2.2.length y.2.1) y.2.2.length y.2.2 := by
      intro i hi
      have h2 := (hcell i (by omega)).2
      obtain ⟨ai, li, ci, hv⟩ : ∃ ai li ci, V i = .slice ai li ci := by
        rcases open_slice Tryd.underlying22 h2 with ⟨e, _⟩ | ⟨b, l2, c2, _, _, _, _, e, _⟩
        · exact ⟨none, 0, 0, by simpa using e⟩
        · exact ⟨some b, l2, c2, by simpa using e⟩
      rw [hv] at h2
      obtain ⟨L, hL⟩ := open_ops h2
      have e := hL.1
      subst e
      exact ⟨(ai, ci, L), hv, hL⟩
    obtain ⟨y, hy⟩ := choose_lt each
    refine ⟨(List.range len).map fun i => (y i).2.2, by simp, Nat.le_trans hl hm, (List.range len).map V, ⟨some a, cap, by simp, by simpa using hl, (fun e => by cases e), fun a' ha j u hj => ?_⟩, by simp, by simp, fun j p hj => ?_⟩
    · cases ha
      have hj1 : j < len := by
        have := (List.getElem?_eq_some_iff.1 hj).1
        simpa using this
      rw [(hcell j (by omega)).1]
      simpa [hj1] using hj
    · have hj1 : j < len := by
        have := (List.getElem?_eq_some_iff.1 hj).1
        simpa using this
      have e : (y j).2.2 = p := by simpa [hj1] using hj
      obtain ⟨e1, e2⟩ := hy j hj1
      rw [e] at e1 e2
      exact ⟨(y j).1, (y j).2.1, by simp [hj1, e1], e2⟩

end Go.Proofs.YthacjeeafnblmaaDoor

/- append to own rows of whatever elements: ops, lists of ops. Numbers and types by name. -/
namespace Go.Proofs.YthacjeeafnblmaaDoor
open Go.RowKit Go.Lib

theorem elemOp : Elem 22 47 (.agg #[.bool false, .string ⟨#[]⟩, .string ⟨#[]⟩]) 3 40 := ⟨Tryd.underlying22, by kernel_rfl, by decide, by decide⟩
theorem elemOps : Elem 35 22 (.slice none 0 0) 1 24 := ⟨Tryd.underlying35, by kernel_rfl, by decide, by decide⟩

end Go.Proofs.YthacjeeafnblmaaDoor

namespace Go.Proofs.YthacjeeafnblmaaDoor
open Go.RowKit Go.Lib

/-- A number's digits. -/
def digs (n : Nat) : List UInt8 := if n < 10 then [UInt8.ofNat (48 + n)] else digs (n / 10) ++ [UInt8.ofNat (48 + n % 10)]
termination_by n
decreasing_by omega

theorem digs_small {n : Nat} (h : n < 10) : digs n = [UInt8.ofNat (48 + n)] := by rw [digs, if_pos h]
theorem digs_more {n : Nat} (h : ¬ n < 10) : digs n = digs (n / 10) ++ [UInt8.ofNat (48 + n % 10)] := by rw [digs, if_neg h]

/-- How long they are. -/
theorem digs_length (k : Nat) : ∀ n : Nat, n < 10 ^ (k + 1) → (digs n).length ≤ k + 1 := by
  induction k with
  | zero => intro n h; rw [digs_small (by omega)]; simp
  | succ k ih =>
    intro n h
    by_cases h10 : n < 10
    · rw [digs_small h10]; simp
    · rw [digs_more h10, List.length_append]
      have := ih (n / 10) (by rw [Nat.pow_succ] at h; omega)
      simp; omega

def txt (l : List UInt8) : ByteArray := ⟨l.toArray⟩

theorem conv_lit (w : World) (x : UInt8) (z : Int) (hz : z = (x.toNat : Int)) (fr : Nat × Nat) : (convert 26 9 (.slice (some ⟨w.heap.size, 0, none⟩) 1 1)).run Tryd.prog (w.alloc (.cells #[.int .u8 z] 5 fr)) = .ok (.string (txt [x])) (w.alloc (.cells #[.int .u8 z] 5 fr)) := by
  subst hz
  exact conv_reads (l := [x]) (Reads.lit w (bv [x]) 5 fr 1 rfl)

theorem digits_ref (n : Nat) (w : World) (hn : n < 1000000000) :
    Calls Tryd.prog 19 #[.int .i64 (n : Int)] w fun e w' => e = .returned (.string (txt (digs n))) ∧ Below w.heap.size w w' := by
  have h0 : ¬ (n : Int) < 0 := by omega
  go_enter Tryd.func19, Tryd.ntmps19
  go_wp2_with fail
  go_loopw [3, 4] (fun uv sv wr => ∃ (u : Nat) (s : List UInt8), uv = .int .u64 u ∧ sv = .string (txt s) ∧ u ≤ n ∧ Hid (digs n = digs u ++ s ∧ s.length + u ≤ n ∧ Below w.heap.size w wr))
    (fun uv _ _ => (intOf uv).toNat)
  case atStart => exact ⟨n, [], rfl, rfl, Nat.le_refl _, Lib.hid ⟨by simp, by simp, Below.refl _ _⟩⟩
  case round =>
    obtain ⟨u, s, rfl, rfl, hu, hrel⟩ := hrel
    have HU := Lib.hid (And.intro hu hn)
    clear hu hn
    have happ : ∀ x : UInt8, txt [x] ++ txt s = txt (x :: s) := fun x => by
      apply Go.WideShapes.bytes_inj
      simp [txt, ByteArray.data_append]
    by_cases hlt : u < 10
    · have h3 : ¬ (10 : Int) ≤ (u : Int) := by omega
      obtain ⟨x, hx⟩ : ∃ x, x = UInt8.ofNat (48 + u) := ⟨_, rfl⟩
      have hx2 : (48 : Int) + (u : Int) = (x.toNat : Int) := by rw [hx, UInt8.toNat_ofNat']; omega
      have hsz : ¬ 9223372036854775807 < (txt [x]).size + (txt s).size := by
        have h1 := hrel.out.2.1
        have h2 := HU.out
        have e1 : (txt [x]).size = 1 := rfl
        have e2 : (txt s).size = s.length := by simp [txt, ByteArray.size]
        omega
      have HX := Lib.hid hx
      have HA := Lib.hid (happ x)
      have hxl := x.toNat_lt
      clear hx happ
      have cv := fun w fr => conv_lit w x _ rfl fr
      go_wp2_with fail
      go_ret
      rw [HA.out, hrel.out.1, digs_small hlt, ← HX.out]
      exact ⟨rfl, hrel.out.2.2.alloc (by exact hrel.out.2.2.size) _⟩
    · have h3 : (10 : Int) ≤ (u : Int) := by omega
      obtain ⟨x, hx⟩ : ∃ x, x = UInt8.ofNat (48 + u % 10) := ⟨_, rfl⟩
      have hx2 : (48 : Int) + (u : Int) % 10 = (x.toNat : Int) := by rw [hx, UInt8.toNat_ofNat']; omega
      have hsz : ¬ 9223372036854775807 < (txt [x]).size + (txt s).size := by
        have h1 := hrel.out.2.1
        have h2 := HU.out
        have e1 : (txt [x]).size = 1 := rfl
        have e2 : (txt s).size = s.length := by simp [txt, ByteArray.size]
        omega
      have hu9 : u ≤ 1000000000 := by have := HU.out; omega
      have HX := Lib.hid hx
      have HA := Lib.hid (happ x)
      have hxl := x.toNat_lt
      clear hx happ
      have cv := fun w fr => conv_lit w x _ rfl fr
      go_wp2_with fail
      refine ⟨⟨u / 10, x :: s, by simp, by rw [HA.out], by have := HU.out; omega, Lib.hid ⟨?_, ?_, hrel.out.2.2.alloc (by exact hrel.out.2.2.size) _⟩⟩, by simp only [intOf]; omega⟩
      · rw [hrel.out.1, digs_more hlt, ← HX.out]; simp
      · have := hrel.out.2.1; simp; omega

end Go.Proofs.YthacjeeafnblmaaDoor
