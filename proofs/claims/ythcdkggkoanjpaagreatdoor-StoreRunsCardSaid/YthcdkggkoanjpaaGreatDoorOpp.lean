/- Lists of plans that came in. Numbers and types by name. -/
import Derived.Test.YthcdkggkoanjpaaGreatDoorMvz
namespace Go.Proofs.YthcdkggkoanjpaaGreatDoor
open Go.ChangeShapes Go.WideShapes Go.ChangeAt Go.RowKit Go.Deep
set_option maxRecDepth 100000 in
theorem open_plans {H : Type} {enc : TypeId × Value → H} {W : World} {base : Nat} {spare : Nat → Bool} {held : Bool} {fuel : Nat} {a0 : Option Addr} {len cap : Nat} {x : DataW H × List MemPlace}
    (h : DataW.trod enc Tryz.prog W base spare held fuel 22 [.slice a0 len cap] = some x) : ∃ a P, Plans W a0 a len P := by
  rcases open_slice Tryz.underlying22 h with ⟨hcs, _⟩ | ⟨a, len', cap', m, n, D, Pl, hcs, _, hl, hm, hmm, hx, hi⟩
  · simp only [List.cons.injEq, Value.slice.injEq, and_true] at hcs
    obtain ⟨rfl, rfl, rfl⟩ := hcs
    exact ⟨⟨0, 0, none⟩, fun _ => ⟨0, none, 0, [], 0, false, none, 0, []⟩, .inr ⟨rfl, rfl⟩, Nat.zero_le _, fun i hi => absurd hi (Nat.not_lt_zero _)⟩
  · simp only [List.cons.injEq, Value.slice.injEq, and_true] at hcs
    obtain ⟨rfl, rfl, rfl⟩ := hcs
    have each : ∀ i, i < len → ∃ v : PV, PlanAt W a i v := by
      intro i hil
      have him : i < m := by rw [hmm]; split <;> omega
      obtain ⟨cs', hc, ht'⟩ := hi i him
      rw [cells5] at hc
      obtain ⟨_, hcl, hat⟩ := World.cells?_some hc
      match cs', hcl with
      | [c0, c1, c2, c3, c4], _ =>
        obtain ⟨p, rfl, rfl, rfl, rfl, rfl, hP⟩ := open_plan ht'
        have hat' : ∀ j, j < 5 → W.cell? (a.add (i * 5 + j)) = [Value.int .i64 p.cap, .slice p.aF p.zs.length p.cF, .int .i64 p.cr, .bool p.dn, .slice p.aK p.ks.length p.cK][j]? := by
          intro j hj
          have := hat j hj
          rw [Go.Deep.add_add] at this
          exact this
        exact ⟨p, by simpa using hat' 0 (by omega), by simpa using hat' 1 (by omega), by simpa using hat' 2 (by omega), by simpa using hat' 3 (by omega), by simpa using hat' 4 (by omega), hP⟩
    have each' : ∀ i, ∃ v : PV, i < len → PlanAt W a i v := fun i => by
      by_cases hi : i < len
      · obtain ⟨v, hv⟩ := each i hi
        exact ⟨v, fun _ => hv⟩
      · exact ⟨⟨0, none, 0, [], 0, false, none, 0, []⟩, fun e => absurd e hi⟩
    exact ⟨a, fun i => Classical.choose (each' i), .inl rfl, Nat.le_trans hl hm, fun i => Classical.choose_spec (each' i)⟩
end Go.Proofs.YthcdkggkoanjpaaGreatDoor
