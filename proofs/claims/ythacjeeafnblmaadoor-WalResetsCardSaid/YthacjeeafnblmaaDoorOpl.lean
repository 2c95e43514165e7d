/- Lists of ops: are they right, are they one? Numbers and types by name. -/
import Derived.Test.YthacjeeafnblmaaDoorFrp
import Derived.Test.YthacjeeafnblmaaDoorMov
import Derived.Test.YthacjeeafnblmaaDoorRdp
import Derived.Test.YthacjeeafnblmaaDoorOpr
/- Lists of lists of bytes. Numbers and types by name. -/
namespace Go.Proofs.YthacjeeafnblmaaDoor
open Go.RowKit Go.Lib

/-- A list of lists of bytes can be read. -/
def Rws (w : World) (v : Value) (n : Nat) (ps : List (List UInt8)) : Prop :=
  n = ps.length ∧ n ≤ maxLen ∧ ∃ vs : List Value, Reads w v vs ∧ vs.length = n ∧ ∀ (j : Nat) (p : List UInt8), ps[j]? = some p → ∃ ao c, vs[j]? = some (Value.slice ao p.length c) ∧ Reads w (.slice ao p.length c) (bv p) ∧ p.length ≤ maxLen

theorem Rws.shape {w : World} {v : Value} {n : Nat} {ps : List (List UInt8)} (h : Rws w v n ps) : ∃ ao c, v = .slice ao n c := by
  obtain ⟨_, _, vs, ⟨ao, c, rfl, _⟩, hl, _⟩ := h
  exact ⟨ao, c, by rw [hl]⟩

theorem Rws.later {w w' : World} {v : Value} {n : Nat} {ps : List (List UInt8)} (h : Rws w v n ps) (hg : Grow w w') : Rws w' v n ps := by
  obtain ⟨h1, h2, vs, hr, hl, hp⟩ := h
  exact ⟨h1, h2, vs, hr.later hg, hl, fun j p hj => by obtain ⟨ao, c, e1, e2, e3⟩ := hp j p hj; exact ⟨ao, c, e1, e2.later hg, e3⟩⟩

theorem Rws.nil (w : World) : Rws w (.slice none 0 0) 0 [] := ⟨rfl, Nat.zero_le _, [], Reads.nil w, rfl, fun j p h => by cases h⟩

theorem Rws.at {w : World} {ao : Option Addr} {n c : Nat} {ps : List (List UInt8)} (h : Rws w (.slice ao n c) n ps) {k : Nat} (hk : k < n) :
    ∃ a p ap cp, ao = some a ∧ ps[k]? = some p ∧ w.cell? (a.add k) = some (.slice ap p.length cp) ∧ Reads w (.slice ap p.length cp) (bv p) ∧ p.length ≤ maxLen := by
  obtain ⟨h1, h2, vs, ⟨ao', c', e, _, hn, hc⟩, hl, hp⟩ := h
  simp only [Value.slice.injEq] at e
  obtain ⟨rfl, _, _⟩ := e
  have hx : ps[k]? = some (ps[k]'(by omega)) := List.getElem?_eq_getElem (by omega)
  obtain ⟨ap, cp, e1, e2, e3⟩ := hp k _ hx
  cases ao with
  | none => have := (hn rfl).1; subst this; simp at hl; omega
  | some a => exact ⟨a, _, ap, cp, rfl, hx, hc a rfl k _ e1, e2, e3⟩

def bulkR (ps : List (List UInt8)) : Nat := (ps.map fun p => 1 + p.length).sum

theorem bulkR_cons (p : List UInt8) (ps : List (List UInt8)) : bulkR (p :: ps) = 1 + p.length + bulkR ps := by simp [bulkR]

theorem bulkR_append (ps qs : List (List UInt8)) : bulkR (ps ++ qs) = bulkR ps + bulkR qs := by simp [bulkR]

theorem bulkR_length (ps : List (List UInt8)) : ps.length ≤ bulkR ps := by
  induction ps with
  | nil => simp
  | cons p ps ih => rw [bulkR_cons, List.length_cons]; omega

theorem bulkR_mem {ps : List (List UInt8)} {p : List UInt8} (h : p ∈ ps) : 1 + p.length ≤ bulkR ps := by
  induction ps with
  | nil => cases h
  | cons q ps ih =>
    rw [bulkR_cons]
    rcases List.mem_cons.1 h with rfl | h
    · omega
    · have := ih h; omega

theorem take_more {α : Type} {L : List α} {k : Nat} {s : α} (h : L[k]? = some s) : L.take (k + 1) = L.take k ++ [s] := by rw [List.take_add_one, h]; rfl

end Go.Proofs.YthacjeeafnblmaaDoor

/- Lists of lists of bytes that came in. Numbers and types by name. -/
namespace Go.Proofs.YthacjeeafnblmaaDoor
open Go.ChangeShapes Go.WideShapes Go.ChangeAt Go.RowKit Go.Lib Go.Deep

theorem cellsRowK : Tryd.prog.cellsOf 26 = 1 := by kernel_rfl

/-- A [][]byte that came in reads as lists of bytes. -/
theorem open_rows {H : Type} {enc : TypeId × Value → H} {W : World} {base : Nat} {spare : Nat → Bool} {held : Bool} {fuel : Nat} {a0 : Option Addr} {len cap : Nat} {x : DataW H × List MemPlace}
    (h : DataW.trod enc Tryd.prog W base spare held fuel 78 [.slice a0 len cap] = some x) : ∃ L : List (List UInt8), Rws W (.slice a0 len cap) len L := by
  rcases open_slice1 Tryd.underlying78 cellsRowK h with ⟨hcs, _⟩ | ⟨a, len', cap', m, n, V, D, Pl, hcs, _, hl, hm, hmm, _, hcell⟩
  · simp only [List.cons.injEq, Value.slice.injEq, and_true] at hcs
    obtain ⟨rfl, rfl, rfl⟩ := hcs
    exact ⟨[], Rws.nil W⟩
  · simp only [List.cons.injEq, Value.slice.injEq, and_true] at hcs
    obtain ⟨rfl, rfl, rfl⟩ := hcs
    have hlm : len ≤ m := by rw [hmm]; split <;> omega
    have each : ∀ i, i < len → ∃ y : Option Addr × Nat × List UInt8, V i = .slice y.1 y.2.2.length y.2.1 ∧ Reads W (.slice y.1 y.2.2.length y.2.1) (bv y.2.2) ∧ y.2.2.length ≤ maxLen := by
      intro i hi
      have h2 := (hcell i (by omega)).2
      obtain ⟨ai, li, ci, hv⟩ : ∃ ai li ci, V i = .slice ai li ci := by
        rcases open_ints Tryd.underlying26 Tryd.underlying5 cellsByteK h2 with ⟨e, _⟩ | ⟨b, l2, c2, zs, e, _⟩
        · exact ⟨none, 0, 0, by simpa using e⟩
        · exact ⟨some b, l2, c2, by simpa using e⟩
      rw [hv] at h2
      obtain ⟨A, rfl, hr, hz⟩ := open_bytes h2
      exact ⟨(ai, ci, A), hv, hr, hz⟩
    obtain ⟨y, hy⟩ := choose_lt each
    refine ⟨(List.range len).map fun i => (y i).2.2, by simp, Nat.le_trans hl hm, (List.range len).map V, ⟨some a, cap, by simp, by simpa using hl, (fun e => by cases e), fun a' ha j u hj => ?_⟩, by simp, fun j p hj => ?_⟩
    · cases ha
      have hj1 : j < len := by
        have := (List.getElem?_eq_some_iff.1 hj).1
        simpa using this
      rw [(hcell j (by omega)).1]
      simpa [hj1] using hj
    · have hj1 : j < len := by
        have := (List.getElem?_eq_some_iff.1 hj).1
        simpa using this
      have e : (y j).2.2 = p := by simpa [hj1] using hj
      obtain ⟨e1, e2, e3⟩ := hy j hj1
      rw [e] at e1 e2 e3
      exact ⟨(y j).1, (y j).2.1, by simp [hj1, e1], e2, e3⟩

end Go.Proofs.YthacjeeafnblmaaDoor

namespace Go.Proofs.YthacjeeafnblmaaDoor
open Go.RowKit Go.Lib

theorem right_ref (v : Value) (n : Nat) (L : List Opm) (w : World) (hr : Opr w v n L) :
    Calls Tryd.prog 7 #[v] w fun e w' => e = .returned (.bool (okOps L)) ∧ w' = w := by
  obtain ⟨ao, c, rfl⟩ := hr.shape
  have HR := Lib.hid hr
  have hm := hr.2.1
  unfold maxLen at hm
  clear hr
  go_enter Tryd.func7, Tryd.ntmps7
  go_wp2_with fail
  go_loopw [3] (fun i wr => ∃ k : Nat, k ≤ n ∧ i = .int .i64 k ∧ Hid ((L.take k).all okOp = true) ∧ w = wr)
    (fun i _ => n - (intOf i).toNat)
  case atStart => exact ⟨0, Nat.zero_le _, rfl, Lib.hid (by simp), rfl⟩
  case round =>
    obtain ⟨k, hk, rfl, hrel, rfl⟩ := hrel
    by_cases hlt : k < n
    · have h3 : (k : Int) < (n : Int) := by omega
      obtain ⟨a, o, rfl, ho, c0, c1, c2, s1, s2⟩ := HR.out.at hlt
      have HO := Lib.hid ho
      clear ho
      have step : (L.take (k + 1)).all okOp = okOp o := by rw [take_next HO.out, List.all_append, hrel.out]; simp
      cases hd : o.del with
      | false =>
        rw [hd] at c0
        have HS : Hid ((L.take (k + 1)).all okOp = true) := Lib.hid (by rw [step]; simp [okOp, hd])
        clear step hd
        go_wp2_with fail
        exact ⟨⟨k + 1, by omega, by simp, HS, trivial⟩, by simp [intOf]; omega⟩
      | true =>
        rw [hd] at c0
        cases hv : o.val.toList.isEmpty with
        | true =>
          have HS : Hid ((L.take (k + 1)).all okOp = true) := Lib.hid (by rw [step]; simp [okOp, hv])
          clear step hd
          go_wp2_with fail
          exact ⟨⟨k + 1, by omega, by simp, HS, trivial⟩, by simp [intOf]; omega⟩
        | false =>
          have HS : Hid (okOps L = false) := Lib.hid (by
            have e : L = L.take (k + 1) ++ L.drop (k + 1) := (List.take_append_drop _ _).symm
            have e2 : L.all okOp = false := by
              rw [e, List.all_append, step]
              simp [okOp, hv, hd]
            simp [okOps, e2])
          clear step hd
          go_wp2_with fail
          go_ret
          rw [HS.out]
          exact ⟨rfl, rfl⟩
    · have h3 : ¬ (k : Int) < (n : Int) := by omega
      obtain rfl : k = n := by omega
      have hk2 : L.take k = L := List.take_of_length_le (by have := HR.out.1; omega)
      have e : okOps L = decide ((k : Int) ≤ 1000) := by
        have h1 := hrel.out
        have h2 := HR.out.1
        rw [hk2] at h1
        unfold okOps
        rw [h1, Bool.true_and]
        congr 1
        simp only [eq_iff_iff]
        omega
      have HE := Lib.hid e
      clear hk2 e
      go_wp2_with fail
      go_ret
      rw [HE.out]
      exact ⟨rfl, rfl⟩

/-- What SameOps tells. -/
def SameO (ps qs : List Opm) (w : World) (e : Ending) (w' : World) : Prop := ∃ b k, e = .returned (.bool b) ∧ w' = w.drewN k ∧ (b = true ↔ ps = qs)

theorem same_ops (v1 v2 : Value) (n m : Nat) (ps qs : List Opm) (w : World) (h1 : Opr w v1 n ps) (h2 : Opr w v2 m qs) :
    Calls Tryd.prog 18 #[v1, v2] w (SameO ps qs w) := by
  obtain ⟨a1, c1, rfl⟩ := h1.shape
  obtain ⟨a2, c2, rfl⟩ := h2.shape
  have H1 := Lib.hid h1
  have H2 := Lib.hid h2
  have hm := h1.2.1
  unfold maxLen at hm
  clear h1 h2
  by_cases hne : n = m
  · subst hne
    go_enter Tryd.func18, Tryd.ntmps18
    go_wp2_with fail
    go_loopw [5] (fun i wr => ∃ k q : Nat, k ≤ n ∧ i = .int .i64 k ∧ wr = w.drewN q ∧ Hid (ps.take k = qs.take k))
      (fun i _ => n - (intOf i).toNat)
    case atStart => exact ⟨0, 0, Nat.zero_le _, rfl, rfl, Lib.hid rfl⟩
    case round =>
      obtain ⟨k, q, hk, rfl, hw, hs⟩ := hrel
      by_cases h1 : k < n
      · have h3 : (k : Int) < (n : Int) := by omega
        have R1 : Opr wr (.slice a1 n c1) n ps := by rw [hw]; exact H1.out
        have R2 : Opr wr (.slice a2 n c2) n qs := by rw [hw]; exact H2.out
        obtain ⟨x1, o1, rfl, e1, ca0, ca1, ca2, _, _⟩ := R1.at h1
        obtain ⟨x2, o2, rfl, e2, cb0, cb1, cb2, _, _⟩ := R2.at h1
        have HW := Lib.hid (And.intro hw (And.intro e1 e2))
        clear hw e1 e2 R1 R2
        obtain ⟨d1, k1, v1⟩ := o1
        obtain ⟨d2, k2, v2⟩ := o2
        simp only at ca0 ca1 ca2 cb0 cb1 cb2
        by_cases heq : d1 = d2 ∧ k1.toList = k2.toList ∧ v1.toList = v2.toList
        · obtain ⟨rfl, hk2, hv2⟩ := heq
          obtain rfl := text_inj' hk2
          obtain rfl := text_inj' hv2
          have HN : Hid (ps.take (k + 1) = qs.take (k + 1)) := Lib.hid (by rw [take_next HW.out.2.1, take_next HW.out.2.2, hs.out])
          clear hk2 hv2
          go_wp2_with fail
          go_quiet (fail)
          go_wp2
          exact ⟨⟨k + 1, q + nq, by omega, by simp, by rw [HW.out.1, World.drewN_drewN], HN⟩, by simp [intOf]; omega⟩
        · have HN : Hid (ps ≠ qs) := Lib.hid (by
            rintro rfl
            have e := HW.out.2.1.symm.trans HW.out.2.2
            simp only [Option.some.injEq, Opm.mk.injEq] at e
            exact heq ⟨e.1, by rw [e.2.1], by rw [e.2.2]⟩)
          have hcase : (¬ d1 = d2) ∨ (d1 = d2 ∧ ¬ k1.toList = k2.toList) ∨ (d1 = d2 ∧ k1.toList = k2.toList ∧ ¬ v1.toList = v2.toList) := by
            by_cases x1 : d1 = d2
            · by_cases x2 : k1.toList = k2.toList
              · exact .inr (.inr ⟨x1, x2, fun x3 => heq ⟨x1, x2, x3⟩⟩)
              · exact .inr (.inl ⟨x1, x2⟩)
            · exact .inl x1
          clear heq
          rcases hcase with x1 | ⟨rfl, x2⟩ | ⟨rfl, x2, x3⟩
          · go_wp2_with fail
            go_quiet (fail)
            go_wp2
            go_ret
            exact ⟨false, q + nq, rfl, by rw [HW.out.1, World.drewN_drewN], ⟨(fun h => by cases h), fun h => absurd h HN.out⟩⟩
          · go_wp2_with fail
            go_quiet (fail)
            go_wp2
            go_ret
            exact ⟨false, q + nq, rfl, by rw [HW.out.1, World.drewN_drewN], ⟨(fun h => by cases h), fun h => absurd h HN.out⟩⟩
          · go_wp2_with fail
            go_quiet (fail)
            go_wp2
            go_ret
            exact ⟨false, q + nq, rfl, by rw [HW.out.1, World.drewN_drewN], ⟨(fun h => by cases h), fun h => absurd h HN.out⟩⟩
      · have h3 : ¬ (k : Int) < (n : Int) := by omega
        obtain rfl : k = n := by omega
        have HW := Lib.hid hw
        clear hw
        go_wp2_with fail
        go_ret
        refine ⟨true, q, rfl, HW.out, ?_⟩
        have h5 := hs.out
        rw [List.take_of_length_le (by have := H1.out.1; omega), List.take_of_length_le (by have := H2.out.1; omega)] at h5
        simp [h5]
  · have h3 : ¬ (n : Int) = (m : Int) := by omega
    have h4 : ((n : Int) != (m : Int)) = true := by simpa using h3
    go_enter Tryd.func18, Tryd.ntmps18
    go_wp2_with fail
    go_ret
    refine ⟨false, 0, rfl, rfl, ?_⟩
    constructor
    · intro h; cases h
    · intro h; exact absurd (by have := H1.out.1; have := H2.out.1; rw [h] at *; omega) hne

end Go.Proofs.YthacjeeafnblmaaDoor
