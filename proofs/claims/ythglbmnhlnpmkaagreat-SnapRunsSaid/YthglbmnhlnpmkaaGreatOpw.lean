/- Lists of plans that came in, and how many bytes their lists take. Numbers and types by name. -/
import Derived.Test.YthglbmnhlnpmkaaGreatOpn
import Derived.Test.YthglbmnhlnpmkaaGreatPla
import Derived.SizedLaws
namespace Go.Proofs.YthglbmnhlnpmkaaGreat
open Go.ChangeShapes Go.WideShapes Go.ChangeAt Go.RowKit Go.Deep

theorem weights_all_mem {H : Type} {P : Program} {e : TypeId} {d : DataW H} : ∀ {l : List (DataW H)}, d ∈ l → ∀ n ∈ DataW.weights P e d, n ∈ DataW.weightsAll P e l
  | x :: l, hm, n, hn => by
    simp only [DataW.weightsAll, List.mem_append]
    rcases List.mem_cons.1 hm with rfl | hm
    · exact .inl hn
    · exact .inr (weights_all_mem hm n hn)

/-- A []int that came in. -/
theorem open_intsW {H : Type} {enc : TypeId × Value → H} {W : World} {base : Nat} {spare : Nat → Bool} {held : Bool} {fuel : Nat} {c : Value} {x : DataW H × List MemPlace}
    (h : DataW.trod enc Tryz.prog W base spare held fuel 27 [c] = some x) {R : Nat} (hw : ∀ n ∈ DataW.weights Tryz.prog 27 x.1, n ≤ R) : ∃ (ao : Option Addr) (cp : Nat) (A : List Int), c = .slice ao A.length cp ∧ Reads W (.slice ao A.length cp) (iv A) ∧ A.length ≤ maxLen ∧ A.length * 8 ≤ R := by
  rcases open_ints Tryz.underlying27 Tryz.underlying3 cellsI h with ⟨hcs, _⟩ | ⟨a, len, cap, zs, hcs, _, hl, hm, hz, hx, hcell, hwz⟩
  · simp only [List.cons.injEq, and_true] at hcs
    exact ⟨none, 0, [], hcs, Reads.nil W, Nat.zero_le _, Nat.zero_le _⟩
  · simp only [List.cons.injEq, and_true] at hcs
    have hzl : len ≤ zs.length := by rw [hz]; split <;> omega
    have hAl : (zs.take len).length = len := by simp; omega
    have hwt := hw (zs.length * 8) (by
      rw [hx]
      simp only [DataW.weights, Tryz.underlying27]
      have e1 : Tryz.prog.bytesOf 3 = 8 := by kernel_rfl
      have e2 : ((lits (H := H) .i64 (zs.take len)).length + (lits (H := H) .i64 (zs.drop len)).length) = zs.length := by simp [lits]; omega
      rw [e1, e2]
      exact List.mem_cons_self ..)
    refine ⟨some a, cap, zs.take len, by rw [hAl]; exact hcs, ?_, by rw [hAl]; exact Nat.le_trans hl hm, by rw [hAl]; exact Nat.le_trans (Nat.mul_le_mul_right 8 hzl) hwt⟩
    refine ⟨some a, cap, by simp [iv], by simp [iv]; omega, (fun e => by cases e), fun a' ha j u hj => ?_⟩
    cases ha
    have hj1 : j < len := by
      have := (List.getElem?_eq_some_iff.1 hj).1
      simp [iv] at this
      omega
    have hjz : j < zs.length := by omega
    rw [hcell j hjz]
    have e : (iv (zs.take len))[j]? = some (.int .i64 zs[j]) := by
      simp [iv, List.getElem?_take, hj1, List.getElem?_eq_getElem hjz]
    rw [e] at hj
    cases hj
    simp [List.getElem?_eq_getElem hjz]

set_option maxRecDepth 100000 in
theorem open_planW {H : Type} {enc : TypeId × Value → H} {W : World} {base : Nat} {spare : Nat → Bool} {held : Bool} {fuel : Nat} {c0 c1 c2 c3 c4 : Value} {x : DataW H × List MemPlace}
    (h : DataW.trod enc Tryz.prog W base spare held fuel 29 [c0, c1, c2, c3, c4] = some x) {R : Nat} (hw : ∀ n ∈ DataW.weights Tryz.prog 29 x.1, n ≤ R) :
    ∃ p : PV, c0 = .int .i64 p.cap ∧ c1 = .slice p.aF p.zs.length p.cF ∧ c2 = .int .i64 p.cr ∧ c3 = .bool p.dn ∧ c4 = .slice p.aK p.ks.length p.cK ∧ PlanOk W p ∧ p.zs.length * 8 ≤ R ∧ p.ks.length * 8 ≤ R := by
  obtain ⟨ys, n2, _, hx, _, hyl, hg⟩ := DataW.trod_struct Tryz.underlying29 h
  have hw1 : ∀ n ∈ DataW.weights Tryz.prog 27 (ys[1]'(by rw [hyl]; decide)).1, n ≤ R := fun n hn => hw n (by
    rw [hx]
    simp only [DataW.weights, Tryz.underlying29]
    exact DataW.weights_mem_each (j := 1) (t := 27) rfl (by rw [List.getElem?_map, List.getElem?_eq_getElem (by rw [hyl]; decide)]; rfl) n hn)
  have hw4 : ∀ n ∈ DataW.weights Tryz.prog 27 (ys[4]'(by rw [hyl]; decide)).1, n ≤ R := fun n hn => hw n (by
    rw [hx]
    simp only [DataW.weights, Tryz.underlying29]
    exact DataW.weights_mem_each (j := 4) (t := 27) rfl (by rw [List.getElem?_map, List.getElem?_eq_getElem (by rw [hyl]; decide)]; rfl) n hn)
  have g0 := hg 0 _ rfl
  have g1 := hg 1 _ rfl
  have g2 := hg 2 _ rfl
  have g3 := hg 3 _ rfl
  have g4 := hg 4 _ rfl
  rw [show ys[0]? = some (ys[0]'(by rw [hyl]; decide)) from List.getElem?_eq_getElem _] at g0
  rw [show ys[1]? = some (ys[1]'(by rw [hyl]; decide)) from List.getElem?_eq_getElem _] at g1
  rw [show ys[2]? = some (ys[2]'(by rw [hyl]; decide)) from List.getElem?_eq_getElem _] at g2
  rw [show ys[3]? = some (ys[3]'(by rw [hyl]; decide)) from List.getElem?_eq_getElem _] at g3
  rw [show ys[4]? = some (ys[4]'(by rw [hyl]; decide)) from List.getElem?_eq_getElem _] at g4
  change DataW.trod enc Tryz.prog W base spare held n2 3 (List.take (Tryz.prog.cellsOf 3) (List.drop 0 [c0, c1, c2, c3, c4])) = _ at g0
  change DataW.trod enc Tryz.prog W base spare held n2 27 (List.take (Tryz.prog.cellsOf 27) (List.drop 1 [c0, c1, c2, c3, c4])) = _ at g1
  change DataW.trod enc Tryz.prog W base spare held n2 3 (List.take (Tryz.prog.cellsOf 3) (List.drop 2 [c0, c1, c2, c3, c4])) = _ at g2
  change DataW.trod enc Tryz.prog W base spare held n2 4 (List.take (Tryz.prog.cellsOf 4) (List.drop 3 [c0, c1, c2, c3, c4])) = _ at g3
  change DataW.trod enc Tryz.prog W base spare held n2 27 (List.take (Tryz.prog.cellsOf 27) (List.drop 4 [c0, c1, c2, c3, c4])) = _ at g4
  rw [cellsI] at g0 g2
  rw [cellsL] at g1 g4
  rw [cellsT] at g3
  change DataW.trod enc Tryz.prog W base spare held n2 3 [c0] = _ at g0
  change DataW.trod enc Tryz.prog W base spare held n2 27 [c1] = _ at g1
  change DataW.trod enc Tryz.prog W base spare held n2 3 [c2] = _ at g2
  change DataW.trod enc Tryz.prog W base spare held n2 4 [c3] = _ at g3
  change DataW.trod enc Tryz.prog W base spare held n2 27 [c4] = _ at g4
  obtain ⟨cap, e0, _, w0⟩ := DataW.trod_int Tryz.underlying3 g0
  obtain ⟨aF, cF, zs, e1, r1, l1, s1⟩ := open_intsW g1 hw1
  obtain ⟨cr, e2, _, _⟩ := DataW.trod_int Tryz.underlying3 g2
  obtain ⟨dn, e3, _⟩ := DataW.trod_bool Tryz.underlying4 g3
  obtain ⟨aK, cK, ks, e4, r4, l4, s4⟩ := open_intsW g4 hw4
  simp only [List.cons.injEq, and_true] at e0 e2 e3
  refine ⟨⟨cap, aF, cF, zs, cr, dn, aK, cK, ks⟩, e0, e1, e2, e3, e4, ⟨?_, r1, r4, l1, l4⟩, s1, s4⟩
  have := w0
  simp [Lit.wf, IntKind.min, IntKind.max, IntKind.signed, IntKind.bits] at this
  exact this.2

set_option maxRecDepth 100000 in
theorem open_plansW {H : Type} {enc : TypeId × Value → H} {W : World} {base : Nat} {spare : Nat → Bool} {held : Bool} {fuel : Nat} {a0 : Option Addr} {len cap : Nat} {x : DataW H × List MemPlace}
    (h : DataW.trod enc Tryz.prog W base spare held fuel 22 [.slice a0 len cap] = some x) {R : Nat} (hw : ∀ n ∈ DataW.weights Tryz.prog 22 x.1, n ≤ R) : ∃ a P, Plans W a0 a len P ∧ ∀ i, i < len → (P i).zs.length * 8 ≤ R ∧ (P i).ks.length * 8 ≤ R := by
  rcases open_slice Tryz.underlying22 h with ⟨hcs, _⟩ | ⟨a, len', cap', m, n, D, Pl, hcs, _, hl, hm, hmm, hx, hi⟩
  · simp only [List.cons.injEq, Value.slice.injEq, and_true] at hcs
    obtain ⟨rfl, rfl, rfl⟩ := hcs
    exact ⟨⟨0, 0, none⟩, fun _ => ⟨0, none, 0, [], 0, false, none, 0, []⟩, ⟨.inr ⟨rfl, rfl⟩, Nat.zero_le _, fun i hi => absurd hi (Nat.not_lt_zero _)⟩, fun i hi => absurd hi (Nat.not_lt_zero _)⟩
  · simp only [List.cons.injEq, Value.slice.injEq, and_true] at hcs
    obtain ⟨rfl, rfl, rfl⟩ := hcs
    have hwD : ∀ i, i < len → ∀ n ∈ DataW.weights Tryz.prog 29 (D i), n ≤ R := fun i hil n hn => hw n (by
      rw [hx]
      simp only [DataW.weights, Tryz.underlying22]
      exact List.mem_cons_of_mem _ (List.mem_append.2 (.inl (weights_all_mem (List.mem_map.2 ⟨i, List.mem_range.2 hil, rfl⟩) n hn))))
    have each : ∀ i, i < len → ∃ v : PV, PlanAt W a i v ∧ v.zs.length * 8 ≤ R ∧ v.ks.length * 8 ≤ R := by
      intro i hil
      have him : i < m := by rw [hmm]; split <;> omega
      obtain ⟨cs', hc, ht'⟩ := hi i him
      rw [cells5] at hc
      obtain ⟨_, hcl, hat⟩ := World.cells?_some hc
      match cs', hcl with
      | [c0, c1, c2, c3, c4], _ =>
        obtain ⟨p, rfl, rfl, rfl, rfl, rfl, hP, hs⟩ := open_planW ht' (R := R) (hwD i hil)
        have hat' : ∀ j, j < 5 → W.cell? (a.add (i * 5 + j)) = [Value.int .i64 p.cap, .slice p.aF p.zs.length p.cF, .int .i64 p.cr, .bool p.dn, .slice p.aK p.ks.length p.cK][j]? := by
          intro j hj
          have := hat j hj
          rw [Go.Deep.add_add] at this
          exact this
        exact ⟨p, ⟨by simpa using hat' 0 (by omega), by simpa using hat' 1 (by omega), by simpa using hat' 2 (by omega), by simpa using hat' 3 (by omega), by simpa using hat' 4 (by omega), hP⟩, hs⟩
    have each' : ∀ i, ∃ v : PV, i < len → PlanAt W a i v ∧ v.zs.length * 8 ≤ R ∧ v.ks.length * 8 ≤ R := fun i => by
      by_cases hi : i < len
      · obtain ⟨v, hv⟩ := each i hi
        exact ⟨v, fun _ => hv⟩
      · exact ⟨⟨0, none, 0, [], 0, false, none, 0, []⟩, fun e => absurd e hi⟩
    exact ⟨a, fun i => Classical.choose (each' i), ⟨.inl rfl, Nat.le_trans hl hm, fun i hi => (Classical.choose_spec (each' i) hi).1⟩, fun i hi => (Classical.choose_spec (each' i) hi).2⟩

end Go.Proofs.YthglbmnhlnpmkaaGreat
