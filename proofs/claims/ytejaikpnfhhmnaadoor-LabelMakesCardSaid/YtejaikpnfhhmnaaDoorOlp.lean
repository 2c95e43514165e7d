/- Lists of params that came in. Numbers and types by name. -/
import Derived.Test.YtejaikpnfhhmnaaDoorOb
import Derived.Test.YtejaikpnfhhmnaaDoorLtc
import Derived.Deep.Fields
namespace Go.Proofs.YtejaikpnfhhmnaaDoor
set_option maxRecDepth 100000
open Go.ChangeShapes Go.WideShapes Go.ChangeAt Go.RowKit Go.Lib Go.Deep

def pv8 (o : Pr8 × Int) : List Value := [.string (tx o.1.1), .string (tx o.1.2), .int .i64 o.2]
theorem pv8s_length (L : List (Pr8 × Int)) : (L.flatMap pv8).length = L.length * 3 := by
  induction L with
  | nil => rfl
  | cons o L ih => simp only [List.flatMap_cons, List.length_append, List.length_cons] at *; rw [ih]; simp [pv8]; omega
theorem pv8s_at {L : List (Pr8 × Int)} {k : Nat} {o : Pr8 × Int} (h : L[k]? = some o) (j : Nat) (hj : j < 3) : (L.flatMap pv8)[k * 3 + j]? = (pv8 o)[j]? := by
  induction L generalizing k with
  | nil => cases h
  | cons p L ih =>
    rw [List.flatMap_cons]
    cases k with
    | zero =>
      simp only [List.getElem?_cons_zero, Option.some.injEq] at h
      subst h
      rw [Nat.zero_mul, Nat.zero_add, List.getElem?_append_left (by simp [pv8]; omega)]
    | succ k =>
      rw [List.getElem?_cons_succ] at h
      rw [List.getElem?_append_right (by simp [pv8]; omega), ← ih h]
      congr 1
      simp [pv8]; omega
theorem pv8s_parts : ∀ (L : List (Pr8 × Int)), Parts 3 PrmR (L.map (·.1)) (L.flatMap pv8)
  | [] => rfl
  | o :: L => ⟨pv8 o, L.flatMap pv8, List.flatMap_cons, rfl, ⟨o.2, rfl⟩, pv8s_parts L⟩

theorem cellsPrmK : Tryd.prog.cellsOf 50 = 3 := by kernel_rfl
theorem cellsIntK8 : Tryd.prog.cellsOf 3 = 1 := by kernel_rfl
theorem cellsStrK8 : Tryd.prog.cellsOf 9 = 1 := by kernel_rfl

/-- The three cells of a param that came in. -/
theorem open_prm {H : Type} {enc : TypeId × Value → H} {W : World} {base : Nat} {spare : Nat → Bool} {held : Bool} {fuel : Nat} {cs : List Value} {x : DataW H × List MemPlace} (hl : cs.length = 3)
    (h : DataW.trod enc Tryd.prog W base spare held fuel 50 cs = some x) : ∃ o : Pr8 × Int, cs = pv8 o := by
  obtain ⟨xs, n, _, _, _, hxl, hf⟩ := DataW.trod_struct Tryd.underlying50 h
  have g0 : DataW.trod enc Tryd.prog W base spare held n 9 ((cs.drop 0).take (Tryd.prog.cellsOf 9)) = xs[0]? := hf 0 _ rfl
  have g1 : DataW.trod enc Tryd.prog W base spare held n 9 ((cs.drop 1).take (Tryd.prog.cellsOf 9)) = xs[1]? := hf 1 _ rfl
  have g2 : DataW.trod enc Tryd.prog W base spare held n 3 ((cs.drop 2).take (Tryd.prog.cellsOf 3)) = xs[2]? := hf 2 _ rfl
  have hxl3 : xs.length = 3 := hxl
  rw [cellsStrK8] at g0 g1
  rw [cellsIntK8] at g2
  match cs, hl with
  | [u0, u1, u2], _ =>
    rw [List.getElem?_eq_getElem (by omega)] at g0 g1 g2
    obtain ⟨s, e0, _, _⟩ := DataW.trod_string Tryd.underlying9 g0
    obtain ⟨t, e1, _, _⟩ := DataW.trod_string Tryd.underlying9 g1
    obtain ⟨z, e2, _⟩ := DataW.trod_int Tryd.underlying3 g2
    obtain ⟨s', rfl⟩ : ∃ l, s = tx l := ⟨_, tx_of rfl⟩
    obtain ⟨t', rfl⟩ : ∃ l, t = tx l := ⟨_, tx_of rfl⟩
    refine ⟨((s', t'), z), ?_⟩
    simp only [List.drop_zero, List.drop_succ_cons, List.take_succ_cons, List.take_zero, List.cons.injEq, and_true] at e0 e1 e2
    rw [e0, e1, e2]
    rfl

/-- A []api.Param that came in reads as pairs. -/
theorem open_prms {H : Type} {enc : TypeId × Value → H} {W : World} {base : Nat} {spare : Nat → Bool} {held : Bool} {fuel : Nat} {a0 : Option Addr} {len cap : Nat} {x : DataW H × List MemPlace}
    (h : DataW.trod enc Tryd.prog W base spare held fuel 22 [.slice a0 len cap] = some x) : ∃ L : List Pr8, TRows W 3 PrmR (.slice a0 len cap) L := by
  rcases open_slice Tryd.underlying22 h with ⟨hcs, _⟩ | ⟨a, len', cap', m, n, D, Pl, hcs, _, hl, hm, hmm, _, hx⟩
  · simp only [List.cons.injEq, Value.slice.injEq, and_true] at hcs
    obtain ⟨rfl, rfl, rfl⟩ := hcs
    exact ⟨[], Nat.zero_le _, [], ⟨none, 0, rfl, rfl, Nat.le_refl _, fun _ => ⟨rfl, rfl⟩, fun a h => by cases h⟩, rfl⟩
  · simp only [List.cons.injEq, Value.slice.injEq, and_true] at hcs
    obtain ⟨rfl, rfl, rfl⟩ := hcs
    have hlm : len ≤ m := by rw [hmm]; split <;> omega
    rw [cellsPrmK] at hx
    have each : ∀ i, i < len → ∃ o : Pr8 × Int, (∀ k, k < 3 → W.cell? (a.add (i * 3 + k)) = (pv8 o)[k]?) := by
      intro i hi
      obtain ⟨cs', h1, h2⟩ := hx i (by omega)
      obtain ⟨_, hlen, hcell⟩ := World.cells?_some h1
      obtain ⟨o, rfl⟩ := open_prm hlen h2
      exact ⟨o, fun k hk => by have := hcell k hk; rw [Addr.add_add] at this; exact this⟩
    haveI : Inhabited (Pr8 × Int) := ⟨(([], []), 0)⟩
    obtain ⟨y, hy⟩ := choose_lt each
    have hlen : ((List.range len).map y).length = len := by simp
    refine ⟨((List.range len).map y).map (·.1), by simp; exact Nat.le_trans hl hm, ((List.range len).map y).flatMap pv8, ?_, pv8s_parts _⟩
    rw [List.length_map, hlen]
    refine ⟨some a, cap, rfl, by rw [pv8s_length, hlen], hl, (fun e => by cases e), fun a' ha j u hj => ?_⟩
    cases ha
    have hj1 := (List.getElem?_eq_some_iff.1 hj).1
    rw [pv8s_length, hlen] at hj1
    have hx : ((List.range len).map y)[j / 3]? = some (y (j / 3)) := by simp [show j / 3 < len by omega]
    have hk := pv8s_at hx (j % 3) (Nat.mod_lt _ (by omega))
    rw [show j / 3 * 3 + j % 3 = j by omega] at hk
    rw [hk] at hj
    have := hy (j / 3) (by omega) (j % 3) (Nat.mod_lt _ (by omega))
    rw [show j / 3 * 3 + j % 3 = j by omega] at this
    rw [this, hj]

end Go.Proofs.YtejaikpnfhhmnaaDoor
