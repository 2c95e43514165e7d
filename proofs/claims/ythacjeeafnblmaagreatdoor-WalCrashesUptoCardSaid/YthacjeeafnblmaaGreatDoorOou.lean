/- Lists of ops that came in, of bounded bulk. Numbers and types by name. -/
import Derived.Test.YthacjeeafnblmaaGreatDoorRows
import Derived.Test.YthacjeeafnblmaaGreatDoorOo
namespace Go.Proofs.YthacjeeafnblmaaGreatDoor
set_option maxRecDepth 100000
open Go.ChangeShapes Go.WideShapes Go.ChangeAt Go.RowKit Go.Lib Go.Deep

theorem bulk_posU {H : Type} (d : DataW H) : 1 ≤ Rows.uptoBulk d := by
  cases d with
  | lit l => cases l <;> simp [Rows.uptoBulk]
  | _ => simp [Rows.uptoBulk]
theorem bulk_partU {H : Type} {d : DataW H} {l : List (DataW H)} (h : d ∈ l) : Rows.uptoBulk d ≤ Rows.uptoBulkAll l := by
  induction l with
  | nil => cases h
  | cons x r ih =>
    simp only [Rows.uptoBulkAll]
    rcases List.mem_cons.1 h with rfl | h
    · omega
    · have := ih h; omega

/-- The three cells of an op that came in, and how much they weigh. -/
theorem open_opU {H : Type} {enc : TypeId × Value → H} {W : World} {base : Nat} {spare : Nat → Bool} {held : Bool} {fuel : Nat} {cs : List Value} {x : DataW H × List MemPlace} (hl : cs.length = 3)
    (h : DataW.trod enc Tryz.prog W base spare held fuel 68 cs = some x) : ∃ o : Opm, cs = ov o ∧ o.key.size ≤ maxLen ∧ o.val.size ≤ maxLen ∧ 1 + o.key.size + o.val.size ≤ Rows.uptoBulk x.1 := by
  obtain ⟨xs, n, _, hxa, _, hxl, hf⟩ := DataW.trod_struct Tryz.underlying68 h
  have g0 : DataW.trod enc Tryz.prog W base spare held n 4 ((cs.drop 0).take (Tryz.prog.cellsOf 4)) = xs[0]? := hf 0 _ rfl
  have g1 : DataW.trod enc Tryz.prog W base spare held n 9 ((cs.drop 1).take (Tryz.prog.cellsOf 9)) = xs[1]? := hf 1 _ rfl
  have g2 : DataW.trod enc Tryz.prog W base spare held n 9 ((cs.drop 2).take (Tryz.prog.cellsOf 9)) = xs[2]? := hf 2 _ rfl
  have hxl3 : xs.length = 3 := hxl
  rw [cellsBoolK] at g0
  rw [cellsStrK] at g1 g2
  match cs, hl with
  | [u0, u1, u2], _ =>
    match xs, hxl3 with
    | [x0, x1, x2], _ =>
      obtain ⟨b, e0, _⟩ := DataW.trod_bool Tryz.underlying4 g0
      obtain ⟨s, e1, y1, z1⟩ := DataW.trod_string Tryz.underlying9 g1
      obtain ⟨t, e2, y2, z2⟩ := DataW.trod_string Tryz.underlying9 g2
      have k1 : s.data.toList.length = s.size := by rw [Array.length_toList]; rfl
      have k2 : t.data.toList.length = t.size := by rw [Array.length_toList]; rfl
      refine ⟨⟨b, s, t⟩, ?_, z1, z2, ?_⟩
      · simp only [List.drop_zero, List.drop_succ_cons, List.take_succ_cons, List.take_zero, List.cons.injEq, and_true] at e0 e1 e2
        rw [e0, e1, e2]
        rfl
      · rw [hxa, y1, y2]
        simp only [List.map_cons, List.map_nil, Rows.uptoBulk, Rows.uptoBulkAll]
        omega

theorem bulk_range {H : Type} (D : Nat → DataW H) (y : Nat → Opm) : ∀ n, (∀ i, i < n → 1 + (y i).key.size + (y i).val.size ≤ Rows.uptoBulk (D i)) → bulkO ((List.range n).map y) ≤ Rows.uptoBulkAll ((List.range n).map D) := by
  have app : ∀ (l r : List (DataW H)), Rows.uptoBulkAll (l ++ r) = Rows.uptoBulkAll l + Rows.uptoBulkAll r := fun l r => by
    induction l with
    | nil => simp [Rows.uptoBulkAll]
    | cons x l ih => simp only [List.cons_append, Rows.uptoBulkAll, ih]; omega
  intro n
  induction n with
  | zero => intro _; simp [bulkO, Rows.uptoBulkAll]
  | succ n ih =>
    intro h
    rw [List.range_succ, List.map_append, List.map_append, bulkO_append, app]
    have h1 := ih fun i hi => h i (by omega)
    have h2 := h n (by omega)
    simp only [List.map_cons, List.map_nil, bulkO_cons, Rows.uptoBulkAll]
    simp only [bulkO, List.map_nil, List.sum_nil] at *
    omega

/-- A []api.Op that came in reads as ops, of at most the reading's bulk. -/
theorem open_opsU {H : Type} {enc : TypeId × Value → H} {W : World} {base : Nat} {spare : Nat → Bool} {held : Bool} {fuel : Nat} {a0 : Option Addr} {len cap : Nat} {x : DataW H × List MemPlace}
    (h : DataW.trod enc Tryz.prog W base spare held fuel 49 [.slice a0 len cap] = some x) : ∃ L : List Opm, Opr W (.slice a0 len cap) len L ∧ bulkO L ≤ Rows.uptoBulk x.1 := by
  rcases open_slice Tryz.underlying49 h with ⟨hcs, _⟩ | ⟨a, len', cap', m, n, D, Pl, hcs, _, hl, hm, hmm, hxx, hx⟩
  · simp only [List.cons.injEq, Value.slice.injEq, and_true] at hcs
    obtain ⟨rfl, rfl, rfl⟩ := hcs
    exact ⟨[], Opr.nil W, Nat.zero_le _⟩
  · simp only [List.cons.injEq, Value.slice.injEq, and_true] at hcs
    obtain ⟨rfl, rfl, rfl⟩ := hcs
    have hlm : len ≤ m := by rw [hmm]; split <;> omega
    rw [cellsOpK] at hx
    have each : ∀ i, i < len → ∃ o : Opm, (∀ k, k < 3 → W.cell? (a.add (i * 3 + k)) = (ov o)[k]?) ∧ o.key.size ≤ maxLen ∧ o.val.size ≤ maxLen ∧ 1 + o.key.size + o.val.size ≤ Rows.uptoBulk (D i) := by
      intro i hi
      obtain ⟨cs', h1, h2⟩ := hx i (by omega)
      obtain ⟨_, hlen, hcell⟩ := World.cells?_some h1
      obtain ⟨o, rfl, z⟩ := open_opU hlen h2
      exact ⟨o, fun k hk => by have := hcell k hk; rw [Addr.add_add] at this; exact this, z⟩
    obtain ⟨y, hy⟩ := choose_lt each
    refine ⟨(List.range len).map y, ⟨by simp, Nat.le_trans hl hm, ⟨some a, cap, rfl, by rw [ovs_length]; simp, hl, (fun e => by cases e), fun a' ha j u hj => ?_⟩, fun o ho => ?_⟩, ?_⟩
    · cases ha
      have hj1 := (List.getElem?_eq_some_iff.1 hj).1
      rw [ovs_length] at hj1
      simp only [List.length_map, List.length_range] at hj1
      rw [ovs_range y len j hj1] at hj
      have := (hy (j / 3) (by omega)).1 (j % 3) (Nat.mod_lt _ (by omega))
      rw [show j / 3 * 3 + j % 3 = j by omega] at this
      rw [this, hj]
    · simp only [List.mem_map, List.mem_range] at ho
      obtain ⟨i, hi, rfl⟩ := ho
      exact ⟨(hy i hi).2.1, (hy i hi).2.2.1⟩
    · have h1 := bulk_range D y len fun i hi => (hy i hi).2.2.2
      rw [hxx]
      simp only [Rows.uptoBulk]
      omega

end Go.Proofs.YthacjeeafnblmaaGreatDoor
