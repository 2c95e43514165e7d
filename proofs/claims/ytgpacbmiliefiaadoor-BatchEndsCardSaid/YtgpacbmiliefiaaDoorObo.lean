/- Lists of ops, and of lists of ops, that came in. Numbers and types by name. -/
import Derived.Test.YtgpacbmiliefiaaDoorObr
import Derived.Test.YtgpacbmiliefiaaDoorObs
import Derived.Deep.Fields
namespace Go.Proofs.YtgpacbmiliefiaaDoor
open Go.ChangeShapes Go.WideShapes Go.ChangeAt Go.RowKit Go.Lib Go.Deep

instance : Inhabited Opm := ⟨⟨false, ⟨#[]⟩, ⟨#[]⟩⟩⟩

theorem cellsOpK : Tryd.prog.cellsOf 49 = 3 := by kernel_rfl
theorem cellsBoolK : Tryd.prog.cellsOf 4 = 1 := by kernel_rfl
theorem cellsStrK : Tryd.prog.cellsOf 9 = 1 := by kernel_rfl
theorem cellsOpsK : Tryd.prog.cellsOf 22 = 1 := by kernel_rfl

/-- The three cells of an op that came in. -/
theorem open_op {H : Type} {enc : TypeId × Value → H} {W : World} {base : Nat} {spare : Nat → Bool} {held : Bool} {fuel : Nat} {cs : List Value} {x : DataW H × List MemPlace} (hl : cs.length = 3)
    (h : DataW.trod enc Tryd.prog W base spare held fuel 49 cs = some x) : ∃ o : Opm, cs = ov o ∧ o.key.size ≤ maxLen ∧ o.val.size ≤ maxLen := by
  obtain ⟨xs, n, _, _, _, hxl, hf⟩ := DataW.trod_struct Tryd.underlying49 h
  have g0 : DataW.trod enc Tryd.prog W base spare held n 4 ((cs.drop 0).take (Tryd.prog.cellsOf 4)) = xs[0]? := hf 0 _ rfl
  have g1 : DataW.trod enc Tryd.prog W base spare held n 9 ((cs.drop 1).take (Tryd.prog.cellsOf 9)) = xs[1]? := hf 1 _ rfl
  have g2 : DataW.trod enc Tryd.prog W base spare held n 9 ((cs.drop 2).take (Tryd.prog.cellsOf 9)) = xs[2]? := hf 2 _ rfl
  have hxl3 : xs.length = 3 := hxl
  rw [cellsBoolK] at g0
  rw [cellsStrK] at g1 g2
  match cs, hl with
  | [u0, u1, u2], _ =>
    rw [List.getElem?_eq_getElem (by omega)] at g0 g1 g2
    obtain ⟨b, e0, _⟩ := DataW.trod_bool Tryd.underlying4 g0
    obtain ⟨s, e1, _, z1⟩ := DataW.trod_string Tryd.underlying9 g1
    obtain ⟨t, e2, _, z2⟩ := DataW.trod_string Tryd.underlying9 g2
    refine ⟨⟨b, s, t⟩, ?_, z1, z2⟩
    simp only [List.drop_zero, List.drop_succ_cons, List.take_succ_cons, List.take_zero, List.cons.injEq, and_true] at e0 e1 e2
    rw [e0, e1, e2]
    rfl

theorem ovs_range (y : Nat → Opm) (n j : Nat) (hj : j < n * 3) : (ovs ((List.range n).map y))[j]? = (ov (y (j / 3)))[j % 3]? := by
  have hx : ((List.range n).map y)[j / 3]? = some (y (j / 3)) := by simp [show j / 3 < n by omega]
  have := ovs_at hx (j % 3) (Nat.mod_lt _ (by omega))
  rw [show j / 3 * 3 + j % 3 = j by omega] at this
  exact this

/-- A []api.Op that came in reads as ops. -/
theorem open_ops {H : Type} {enc : TypeId × Value → H} {W : World} {base : Nat} {spare : Nat → Bool} {held : Bool} {fuel : Nat} {a0 : Option Addr} {len cap : Nat} {x : DataW H × List MemPlace}
    (h : DataW.trod enc Tryd.prog W base spare held fuel 22 [.slice a0 len cap] = some x) : ∃ L : List Opm, Opr W (.slice a0 len cap) len L := by
  rcases open_slice Tryd.underlying22 h with ⟨hcs, _⟩ | ⟨a, len', cap', m, n, D, Pl, hcs, _, hl, hm, hmm, _, hx⟩
  · simp only [List.cons.injEq, Value.slice.injEq, and_true] at hcs
    obtain ⟨rfl, rfl, rfl⟩ := hcs
    exact ⟨[], Opr.nil W⟩
  · simp only [List.cons.injEq, Value.slice.injEq, and_true] at hcs
    obtain ⟨rfl, rfl, rfl⟩ := hcs
    have hlm : len ≤ m := by rw [hmm]; split <;> omega
    rw [cellsOpK] at hx
    have each : ∀ i, i < len → ∃ o : Opm, (∀ k, k < 3 → W.cell? (a.add (i * 3 + k)) = (ov o)[k]?) ∧ o.key.size ≤ maxLen ∧ o.val.size ≤ maxLen := by
      intro i hi
      obtain ⟨cs', h1, h2⟩ := hx i (by omega)
      obtain ⟨_, hlen, hcell⟩ := World.cells?_some h1
      obtain ⟨o, rfl, z⟩ := open_op hlen h2
      exact ⟨o, fun k hk => by have := hcell k hk; rw [Addr.add_add] at this; exact this, z⟩
    obtain ⟨y, hy⟩ := choose_lt each
    refine ⟨(List.range len).map y, by simp, Nat.le_trans hl hm, ⟨some a, cap, rfl, by rw [ovs_length]; simp, hl, (fun e => by cases e), fun a' ha j u hj => ?_⟩, fun o ho => ?_⟩
    · cases ha
      have hj1 := (List.getElem?_eq_some_iff.1 hj).1
      rw [ovs_length] at hj1
      simp only [List.length_map, List.length_range] at hj1
      rw [ovs_range y len j hj1] at hj
      have := (hy (j / 3) (by omega)).1 (j % 3) (Nat.mod_lt _ (by omega))
      rw [show j / 3 * 3 + j % 3 = j by omega] at this
      rw [this, hj]
    · simp only [List.mem_map, List.mem_range] at ho
      obtain ⟨i, hi, rfl⟩ := ho
      exact (hy i hi).2

/-- A [][]api.Op that came in. -/
theorem open_batches {H : Type} {enc : TypeId × Value → H} {W : World} {base : Nat} {spare : Nat → Bool} {held : Bool} {fuel : Nat} {a0 : Option Addr} {len cap : Nat} {x : DataW H × List MemPlace}
    (h : DataW.trod enc Tryd.prog W base spare held fuel 32 [.slice a0 len cap] = some x) : ∃ LL : List (List Opm), Obs W (.slice a0 len cap) len LL := by
  rcases open_slice1 Tryd.underlying32 cellsOpsK h with ⟨hcs, _⟩ | ⟨a, len', cap', m, n, V, D, Pl, hcs, _, hl, hm, hmm, _, hcell⟩
  · simp only [List.cons.injEq, Value.slice.injEq, and_true] at hcs
    obtain ⟨rfl, rfl, rfl⟩ := hcs
    exact ⟨[], Obs.nil W⟩
  · simp only [List.cons.injEq, Value.slice.injEq, and_true] at hcs
    obtain ⟨rfl, rfl, rfl⟩ := hcs
    have hlm : len ≤ m := by rw [hmm]; split <;> omega
    have each : ∀ i, i < len → ∃ y : Option Addr × Nat × List Opm, V i = .slice y.1 y.2.2.length y.2.1 ∧ Opr W (.slice y.1 y.2.2.length y.2.1) y.2.2.length y.2.2 := by
      intro i hi
      have h2 := (hcell i (by omega)).2
      obtain ⟨ai, li, ci, hv⟩ : ∃ ai li ci, V i = .slice ai li ci := by
        rcases open_slice Tryd.underlying22 h2 with ⟨e, _⟩ | ⟨b, l2, c2, _, _, _, _, e, _⟩
        · exact ⟨none, 0, 0, by simpa using e⟩
        · exact ⟨some b, l2, c2, by simpa using e⟩
      rw [hv] at h2
      obtain ⟨L, hL⟩ := open_ops h2
      have e := hL.1
      subst e
      exact ⟨(ai, ci, L), hv, hL⟩
    obtain ⟨y, hy⟩ := choose_lt each
    refine ⟨(List.range len).map fun i => (y i).2.2, by simp, Nat.le_trans hl hm, (List.range len).map V, ⟨some a, cap, by simp, by simpa using hl, (fun e => by cases e), fun a' ha j u hj => ?_⟩, by simp, by simp, fun j p hj => ?_⟩
    · cases ha
      have hj1 : j < len := by
        have := (List.getElem?_eq_some_iff.1 hj).1
        simpa using this
      rw [(hcell j (by omega)).1]
      simpa [hj1] using hj
    · have hj1 : j < len := by
        have := (List.getElem?_eq_some_iff.1 hj).1
        simpa using this
      have e : (y j).2.2 = p := by simpa [hj1] using hj
      obtain ⟨e1, e2⟩ := hy j hj1
      rw [e] at e1 e2
      exact ⟨(y j).1, (y j).2.1, by simp [hj1, e1], e2⟩

end Go.Proofs.YtgpacbmiliefiaaDoor
