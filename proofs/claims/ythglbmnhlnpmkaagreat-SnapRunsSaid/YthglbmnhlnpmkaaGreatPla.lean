/- Lists of plans that came in; the reference's new disk out of a plan that was there. Numbers and types by name. -/
import Derived.Test.YthglbmnhlnpmkaaGreatOpn
import Derived.Test.YthglbmnhlnpmkaaGreatSnk
import Derived.Test.YthglbmnhlnpmkaaGreatRx
import Derived.Test.YthglbmnhlnpmkaaGreatPr
namespace Go.Proofs.YthglbmnhlnpmkaaGreat
open Go.RowKit Go.Lib
set_option maxRecDepth 100000

/-- What lies at plan i of a row that begins at a. -/
structure PlanAt (w : World) (a : Addr) (i : Nat) (p : PV) : Prop where
  c0 : w.cell? (a.add (i * 5)) = some (.int .i64 p.cap)
  c1 : w.cell? (a.add (i * 5 + 1)) = some (.slice p.aF p.zs.length p.cF)
  c2 : w.cell? (a.add (i * 5 + 2)) = some (.int .i64 p.cr)
  c3 : w.cell? (a.add (i * 5 + 3)) = some (.bool p.dn)
  c4 : w.cell? (a.add (i * 5 + 4)) = some (.slice p.aK p.ks.length p.cK)
  ok : PlanOk w p

/-- A list of plans. -/
structure Plans (w : World) (ao : Option Addr) (a : Addr) (n : Nat) (P : Nat → PV) : Prop where
  addr : ao = some a ∨ ao = none ∧ n = 0
  len : n ≤ maxLen
  at' : ∀ i, i < n → PlanAt w a i (P i)

theorem add_fld5 (a : Addr) (m j : Nat) (hj : 0 < j) : a.add (m + j) = ⟨(a.add m).block, (a.add m).off + j, none⟩ := by
  unfold Addr.add
  rw [if_neg (by omega)]
  by_cases hm : m = 0
  · simp [hm]
  · simp [hm]; omega

theorem drewN_two (w : World) (a b : Nat) : (w.drewN a).drewN b = w.drewN (a + b) := by
  unfold World.drewN
  simp only [Nat.add_assoc]

theorem reads_cell7 {w : World} {ao : Option Addr} {n c k : Nat} {xs : List Value} {u : Value} (h : Reads w (.slice ao n c) xs) (hu : xs[k]? = some u) : ∃ a, ao = some a ∧ w.cell? (a.add k) = some u := by
  obtain ⟨ao', c', e, _, hn, hc⟩ := h
  cases e
  cases ao with
  | none => rw [(hn rfl).1] at hu; cases hu
  | some a => exact ⟨a, rfl, hc a rfl k u hu⟩

theorem drew_turn (w : World) (k : Nat) : Turn [] w (w.drewN k) := (Turn.refl [] w).drewN k

theorem meas7 {a k : Nat} (h : k < a) : a - (RowKit.intOf (.int .i64 ((k : Int) + 1))).toNat < a - (RowKit.intOf (.int .i64 (k : Int))).toNat := by simp [RowKit.intOf]; omega

def planV (p : PV) : Value := .agg #[.int .i64 p.cap, .slice p.aF p.zs.length p.cF, .int .i64 p.cr, .bool p.dn, .slice p.aK p.ks.length p.cK]

theorem PlanAt.cells {w : World} {a : Addr} {i : Nat} {p : PV} (h : PlanAt w a i p) : ∀ w', Grow w w' →
    w'.cell? (a.add (i * 5)) = some (.int .i64 p.cap) ∧ w'.cell? ⟨(a.add (i * 5)).block, (a.add (i * 5)).off + 1, none⟩ = some (.slice p.aF p.zs.length p.cF) ∧ w'.cell? ⟨(a.add (i * 5)).block, (a.add (i * 5)).off + 2, none⟩ = some (.int .i64 p.cr) ∧
      w'.cell? ⟨(a.add (i * 5)).block, (a.add (i * 5)).off + 3, none⟩ = some (.bool p.dn) ∧ w'.cell? ⟨(a.add (i * 5)).block, (a.add (i * 5)).off + 4, none⟩ = some (.slice p.aK p.ks.length p.cK) := fun w' hg => by
  have h1 := h.c1
  have h2 := h.c2
  have h3 := h.c3
  have h4 := h.c4
  rw [add_fld5 _ _ _ (by omega)] at h1 h2 h3 h4
  exact ⟨grow_cell hg h.c0, grow_cell hg h1, grow_cell hg h2, grow_cell hg h3, grow_cell hg h4⟩

/-- The reference's new disk, out of a plan that was there. -/
theorem ref_new_below (cap cr : Int) (dn : Bool) (aF : Option Addr) (cF : Nat) (zs : List Int) (aK : Option Addr) (cK : Nat) (ks : List Int) (w w' : World) (hF : Reads w (.slice aF zs.length cF) (iv zs)) (hK : Reads w (.slice aK ks.length cK) (iv ks)) (hg : Grow w w') :
    Calls Tryz.prog 9 #[.agg #[.int .i64 cap, .slice aF zs.length cF, .int .i64 cr, .bool dn, .slice aK ks.length cK]] w' fun e w'' => ∃ r F G, e = .returned (theRef r) ∧ RD w'' r (MD.new cap cr dn zs ks) F G ∧ (∀ q ∈ F, w'.heap.size ≤ q) ∧ (∀ q ∈ G, q < w.heap.size) ∧ Turn [] w' w'' := by
  have blk : ∀ (ao : Option Addr) (c : Nat) (xs : List Int), Reads w (.slice ao xs.length c) (iv xs) → ∃ Q : List Nat, (xs ≠ [] → ∀ a n c', Value.slice ao xs.length c = .slice (some a) n c' → a.block ∈ Q) ∧ ∀ q ∈ Q, q < w.heap.size := by
    intro ao c xs hr
    cases xs with
    | nil => exact ⟨[], fun h => absurd rfl h, by simp⟩
    | cons x xs =>
      obtain ⟨a, rfl, hc⟩ := reads_cell7 (k := 0) hr rfl
      refine ⟨[a.block], fun _ a' n c' e => by cases e; simp, fun q hq => ?_⟩
      rw [List.mem_singleton.1 hq]
      have := World.block_lt_of_cell? w _ hc
      rwa [add_block] at this
  obtain ⟨Q1, p1, q1⟩ := blk aF cF zs hF
  obtain ⟨Q2, p2, q2⟩ := blk aK cK ks hK
  refine (ref_new cap cr dn _ _ zs ks w' (hF.later hg) (hK.later hg) (Q1 ++ Q2) (fun hz a n c e => List.mem_append.2 (.inl (p1 hz a n c e))) (fun hz a n c e => List.mem_append.2 (.inr (p2 hz a n c e))) (fun q hq => ?_)).mono ?_
  · rcases List.mem_append.1 hq with h | h
    · exact Nat.lt_of_lt_of_le (q1 q h) hg.size
    · exact Nat.lt_of_lt_of_le (q2 q h) hg.size
  · rintro e w'' ⟨r, F, rfl, hD, hF', t⟩
    exact ⟨r, F, Q1 ++ Q2, rfl, hD, hF', fun q hq => (List.mem_append.1 hq).elim (q1 q) (q2 q), t⟩

end Go.Proofs.YthglbmnhlnpmkaaGreat
