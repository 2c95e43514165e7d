/- Lists of acts of an index that came in. Numbers and types by name. -/
import Derived.Test.YtkeahapgliljoaaOb
import Derived.Test.YtkeahapgliljoaaIac
import Derived.Deep.Fields
namespace Go.Proofs.Ytkeahapgliljoaa
set_option maxRecDepth 100000
open Go.ChangeShapes Go.WideShapes Go.ChangeAt Go.RowKit Go.Lib Go.Deep

instance : Inhabited Iam := ⟨⟨0, ⟨#[]⟩, ⟨#[]⟩⟩⟩

theorem cellsIactK : Try.prog.cellsOf 29 = 3 := by kernel_rfl
theorem cellsIntIK : Try.prog.cellsOf 3 = 1 := by kernel_rfl
theorem cellsStrIK : Try.prog.cellsOf 9 = 1 := by kernel_rfl

/-- The three cells of an op that came in. -/
theorem open_iact {H : Type} {enc : TypeId × Value → H} {W : World} {base : Nat} {spare : Nat → Bool} {held : Bool} {fuel : Nat} {cs : List Value} {x : DataW H × List MemPlace} (hl : cs.length = 3)
    (h : DataW.trod enc Try.prog W base spare held fuel 29 cs = some x) : ∃ o : Iam, cs = iv3 o ∧ o.key.size ≤ maxLen ∧ o.val.size ≤ maxLen := by
  obtain ⟨xs, n, _, _, _, hxl, hf⟩ := DataW.trod_struct Try.underlying29 h
  have g0 : DataW.trod enc Try.prog W base spare held n 3 ((cs.drop 0).take (Try.prog.cellsOf 3)) = xs[0]? := hf 0 _ rfl
  have g1 : DataW.trod enc Try.prog W base spare held n 9 ((cs.drop 1).take (Try.prog.cellsOf 9)) = xs[1]? := hf 1 _ rfl
  have g2 : DataW.trod enc Try.prog W base spare held n 9 ((cs.drop 2).take (Try.prog.cellsOf 9)) = xs[2]? := hf 2 _ rfl
  have hxl3 : xs.length = 3 := hxl
  rw [cellsIntIK] at g0
  rw [cellsStrIK] at g1 g2
  match cs, hl with
  | [u0, u1, u2], _ =>
    rw [List.getElem?_eq_getElem (by omega)] at g0 g1 g2
    obtain ⟨b, e0, _⟩ := DataW.trod_int Try.underlying3 g0
    obtain ⟨s, e1, _, z1⟩ := DataW.trod_string Try.underlying9 g1
    obtain ⟨t, e2, _, z2⟩ := DataW.trod_string Try.underlying9 g2
    refine ⟨⟨b, s, t⟩, ?_, z1, z2⟩
    simp only [List.drop_zero, List.drop_succ_cons, List.take_succ_cons, List.take_zero, List.cons.injEq, and_true] at e0 e1 e2
    rw [e0, e1, e2]
    rfl

theorem ivs3_range (y : Nat → Iam) (n j : Nat) (hj : j < n * 3) : (ivs3 ((List.range n).map y))[j]? = (iv3 (y (j / 3)))[j % 3]? := by
  have hx : ((List.range n).map y)[j / 3]? = some (y (j / 3)) := by simp [show j / 3 < n by omega]
  have := ivs3_at hx (j % 3) (Nat.mod_lt _ (by omega))
  rw [show j / 3 * 3 + j % 3 = j by omega] at this
  exact this

/-- A []api.Op that came in reads as ops. -/
theorem open_iacts {H : Type} {enc : TypeId × Value → H} {W : World} {base : Nat} {spare : Nat → Bool} {held : Bool} {fuel : Nat} {a0 : Option Addr} {len cap : Nat} {x : DataW H × List MemPlace}
    (h : DataW.trod enc Try.prog W base spare held fuel 22 [.slice a0 len cap] = some x) : ∃ L : List Iam, Iar W (.slice a0 len cap) len L := by
  rcases open_slice Try.underlying22 h with ⟨hcs, _⟩ | ⟨a, len', cap', m, n, D, Pl, hcs, _, hl, hm, hmm, _, hx⟩
  · simp only [List.cons.injEq, Value.slice.injEq, and_true] at hcs
    obtain ⟨rfl, rfl, rfl⟩ := hcs
    exact ⟨[], Iar.nil W⟩
  · simp only [List.cons.injEq, Value.slice.injEq, and_true] at hcs
    obtain ⟨rfl, rfl, rfl⟩ := hcs
    have hlm : len ≤ m := by rw [hmm]; split <;> omega
    rw [cellsIactK] at hx
    have each : ∀ i, i < len → ∃ o : Iam, (∀ k, k < 3 → W.cell? (a.add (i * 3 + k)) = (iv3 o)[k]?) ∧ o.key.size ≤ maxLen ∧ o.val.size ≤ maxLen := by
      intro i hi
      obtain ⟨cs', h1, h2⟩ := hx i (by omega)
      obtain ⟨_, hlen, hcell⟩ := World.cells?_some h1
      obtain ⟨o, rfl, z⟩ := open_iact hlen h2
      exact ⟨o, fun k hk => by have := hcell k hk; rw [Addr.add_add] at this; exact this, z⟩
    obtain ⟨y, hy⟩ := choose_lt each
    refine ⟨(List.range len).map y, by simp, Nat.le_trans hl hm, ⟨some a, cap, rfl, by rw [ivs3_length]; simp, hl, (fun e => by cases e), fun a' ha j u hj => ?_⟩, fun o ho => ?_⟩
    · cases ha
      have hj1 := (List.getElem?_eq_some_iff.1 hj).1
      rw [ivs3_length] at hj1
      simp only [List.length_map, List.length_range] at hj1
      rw [ivs3_range y len j hj1] at hj
      have := (hy (j / 3) (by omega)).1 (j % 3) (Nat.mod_lt _ (by omega))
      rw [show j / 3 * 3 + j % 3 = j by omega] at this
      rw [this, hj]
    · simp only [List.mem_map, List.mem_range] at ho
      obtain ⟨i, hi, rfl⟩ := ho
      exact (hy i hi).2

end Go.Proofs.Ytkeahapgliljoaa
