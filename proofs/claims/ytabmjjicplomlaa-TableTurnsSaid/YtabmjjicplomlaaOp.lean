/- Lists of pairs that came in. Numbers and types by name. -/
import Derived.Test.YtabmjjicplomlaaOo
import Derived.Test.YtabmjjicplomlaaPrl
namespace Go.Proofs.Ytabmjjicplomlaa
open Go.ChangeShapes Go.WideShapes Go.ChangeAt Go.RowKit Go.Lib Go.Deep

instance : Inhabited Prm := ⟨⟨⟨#[]⟩, ⟨#[]⟩⟩⟩

theorem cellsPairK : Try.prog.cellsOf 48 = 2 := by kernel_rfl

/-- The two cells of a pair that came in. -/
theorem open_pair {H : Type} {enc : TypeId × Value → H} {W : World} {base : Nat} {spare : Nat → Bool} {held : Bool} {fuel : Nat} {cs : List Value} {x : DataW H × List MemPlace} (hl : cs.length = 2)
    (h : DataW.trod enc Try.prog W base spare held fuel 48 cs = some x) : ∃ o : Prm, cs = pv o ∧ o.key.size ≤ maxLen ∧ o.val.size ≤ maxLen := by
  obtain ⟨xs, n, _, _, _, hxl, hf⟩ := DataW.trod_struct Try.underlying48 h
  have g0 : DataW.trod enc Try.prog W base spare held n 9 ((cs.drop 0).take (Try.prog.cellsOf 9)) = xs[0]? := hf 0 _ rfl
  have g1 : DataW.trod enc Try.prog W base spare held n 9 ((cs.drop 1).take (Try.prog.cellsOf 9)) = xs[1]? := hf 1 _ rfl
  have hxl2 : xs.length = 2 := hxl
  rw [cellsStrK] at g0 g1
  match cs, hl with
  | [u0, u1], _ =>
    rw [List.getElem?_eq_getElem (by omega)] at g0 g1
    obtain ⟨s, e0, _, z0⟩ := DataW.trod_string Try.underlying9 g0
    obtain ⟨t, e1, _, z1⟩ := DataW.trod_string Try.underlying9 g1
    refine ⟨⟨s, t⟩, ?_, z0, z1⟩
    simp only [List.drop_zero, List.drop_succ_cons, List.take_succ_cons, List.take_zero, List.cons.injEq, and_true] at e0 e1
    rw [e0, e1]
    rfl

theorem pvs_range (y : Nat → Prm) (n j : Nat) (hj : j < n * 2) : (pvs ((List.range n).map y))[j]? = (pv (y (j / 2)))[j % 2]? := by
  have hx : ((List.range n).map y)[j / 2]? = some (y (j / 2)) := by simp [show j / 2 < n by omega]
  have := pvs_at hx (j % 2) (Nat.mod_lt _ (by omega))
  rw [show j / 2 * 2 + j % 2 = j by omega] at this
  exact this

/-- A []api.Pair that came in reads as pairs. -/
theorem open_pairs {H : Type} {enc : TypeId × Value → H} {W : World} {base : Nat} {spare : Nat → Bool} {held : Bool} {fuel : Nat} {a0 : Option Addr} {len cap : Nat} {x : DataW H × List MemPlace}
    (h : DataW.trod enc Try.prog W base spare held fuel 22 [.slice a0 len cap] = some x) : ∃ L : List Prm, Prr W (.slice a0 len cap) len L := by
  rcases open_slice Try.underlying22 h with ⟨hcs, _⟩ | ⟨a, len', cap', m, n, D, Pl, hcs, _, hl, hm, hmm, _, hx⟩
  · simp only [List.cons.injEq, Value.slice.injEq, and_true] at hcs
    obtain ⟨rfl, rfl, rfl⟩ := hcs
    exact ⟨[], Prr.nil W⟩
  · simp only [List.cons.injEq, Value.slice.injEq, and_true] at hcs
    obtain ⟨rfl, rfl, rfl⟩ := hcs
    have hlm : len ≤ m := by rw [hmm]; split <;> omega
    rw [cellsPairK] at hx
    have each : ∀ i, i < len → ∃ o : Prm, (∀ k, k < 2 → W.cell? (a.add (i * 2 + k)) = (pv o)[k]?) ∧ o.key.size ≤ maxLen ∧ o.val.size ≤ maxLen := by
      intro i hi
      obtain ⟨cs', h1, h2⟩ := hx i (by omega)
      obtain ⟨_, hlen, hcell⟩ := World.cells?_some h1
      obtain ⟨o, rfl, z⟩ := open_pair hlen h2
      exact ⟨o, fun k hk => by have := hcell k hk; rw [Addr.add_add] at this; exact this, z⟩
    obtain ⟨y, hy⟩ := choose_lt each
    refine ⟨(List.range len).map y, by simp, Nat.le_trans hl hm, ⟨some a, cap, rfl, by rw [pvs_length]; simp, hl, (fun e => by cases e), fun a' ha j u hj => ?_⟩, fun o ho => ?_⟩
    · cases ha
      have hj1 := (List.getElem?_eq_some_iff.1 hj).1
      rw [pvs_length] at hj1
      simp only [List.length_map, List.length_range] at hj1
      rw [pvs_range y len j hj1] at hj
      have := (hy (j / 2) (by omega)).1 (j % 2) (Nat.mod_lt _ (by omega))
      rw [show j / 2 * 2 + j % 2 = j by omega] at this
      rw [this, hj]
    · simp only [List.mem_map, List.mem_range] at ho
      obtain ⟨i, hi, rfl⟩ := ho
      exact (hy i hi).2

end Go.Proofs.Ytabmjjicplomlaa
