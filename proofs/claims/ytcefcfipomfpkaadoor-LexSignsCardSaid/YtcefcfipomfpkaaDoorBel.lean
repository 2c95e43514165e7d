/- An own row of bytes behind other work; an empty one. Numbers and types by name. -/
import Derived.Test.YtcefcfipomfpkaaDoorBas
namespace Go.Proofs.YtcefcfipomfpkaaDoor
open Go.RowKit Go.Lib

theorem Bs.below {w w' : World} {base B : Nat} {v : Value} {n : Nat} {l : List UInt8} (h : Bs w base v n l) (hb : Below B w w') (hB : w.heap.size ≤ B) : Bs w' base v n l := by
  refine ⟨h.1, h.2.1, h.2.2.imp id ?_⟩
  rintro ⟨g, cap, cur, h1, h2, h3, h4⟩
  refine ⟨g, cap, cur, h1, h2, ?_, h4⟩
  rw [hb.block g (by have := (h.2.lt g (by rw [h1]; rfl)).2; omega)]
  exact h3

theorem Bs.empty (w : World) (base : Nat) (hb : base ≤ w.heap.size) : Bs (w.alloc (.cells #[] 5)) base (.slice (some ⟨w.heap.size, 0, none⟩) 0 0) 0 [] :=
  ⟨rfl, rfl, .inr ⟨w.heap.size, 0, #[], rfl, hb, heap_alloc_new w _, Nat.le_refl _, Nat.zero_le _, rfl, rfl⟩⟩


theorem heap_set {w : World} {b : Nat} {cs : Array Value} {t : TypeId} {fr : Nat × Nat} (h : w.heap[b]? = some (.cells cs t fr)) (j : Nat) (v : Value) : (w.setCell ⟨b, j, none⟩ v).heap[b]? = some (.cells (cs.setIfInBounds j v) t fr) := by
  simp [World.setCell, Array.getElem?_modify, h]

theorem bv_set (l : List UInt8) (j : Nat) (x : UInt8) : bv (l.set j x) = (bv l).set j (.int .u8 (x.toNat : Int)) := by simp [bv, List.map_set]

/-- One byte of an own row is written. -/
theorem Bs.set {w : World} {base g n c : Nat} {l : List UInt8} (h : Bs w base (.slice (some ⟨g, 0, none⟩) n c) n l) (j : Nat) (hj : j < n) (x : UInt8) :
    Bs (w.setCell ⟨g, j, none⟩ (.int .u8 (x.toNat : Int))) base (.slice (some ⟨g, 0, none⟩) n c) n (l.set j x) := by
  obtain ⟨hn, h1, h2 | ⟨g', cap, cur, e, hb, hg, hnc, hcm, hcs, ht⟩⟩ := h
  · exact absurd h2.1 (by simp)
  · simp only [Value.slice.injEq, Option.some.injEq, Addr.mk.injEq, and_true] at e
    obtain ⟨rfl, _, rfl⟩ := e
    refine ⟨by rw [List.length_set]; exact hn, by rw [bv_length, List.length_set]; omega, .inr ⟨g, c, cur.setIfInBounds j (.int .u8 (x.toNat : Int)), rfl, hb, heap_set hg _ _, hnc, hcm, by simpa using hcs, ?_⟩⟩
    rw [bv_set, ← ht]
    simp [List.take_set]

/-- Which cells an own row has, and that they may be written. -/
theorem Bs.cell {w : World} {base g n c : Nat} {l : List UInt8} (h : Bs w base (.slice (some ⟨g, 0, none⟩) n c) n l) {j : Nat} {x : UInt8} (hx : l[j]? = some x) :
    w.cell? ⟨g, j, none⟩ = some (.int .u8 (x.toNat : Int)) ∧ w.frozen? ⟨g, j, none⟩ = false := by
  obtain ⟨hn, h1, h2 | ⟨g', cap, cur, e, hb, hg, hnc, hcm, hcs, ht⟩⟩ := h
  · exact absurd h2.1 (by simp)
  · simp only [Value.slice.injEq, Option.some.injEq, Addr.mk.injEq, and_true] at e
    obtain ⟨rfl, _, rfl⟩ := e
    have hj : j < n := by have := (List.getElem?_eq_some_iff.1 hx).1; omega
    have hc : cur[j]? = some (.int .u8 (x.toNat : Int)) := by
      have h3 : (bv l)[j]? = some (.int .u8 (x.toNat : Int)) := by simp [bv, hx]
      rw [← ht, List.getElem?_take, if_pos (by omega)] at h3
      simpa using h3
    constructor
    · simp only [World.cell?, hg]
      simpa using hc
    · simp [World.frozen?, hg]

theorem below_set {w w' : World} {B g : Nat} (h : Below B w w') (hg : B ≤ g) (j : Nat) (v : Value) : Below B w (w'.setCell ⟨g, j, none⟩ v) :=
  ⟨h.os, h.tape, h.output, by simpa [World.setCell] using h.size, fun k hk => (Below.heap_setCell _ _ _ _ (by show k ≠ g; omega)).trans (h.block k hk)⟩

/-- make([]byte, n). -/
theorem wpList_make_zeros {ops : Array Oper} {rest : List Oper} {o : Oper} {a : Act} {w : World} {Q : Exit → Act → World → Prop} (hgd : o.guard = none) (s x : Operand) (ho : o.op = Op.makeSlice 35 s x)
    (base n : Nat) (C D : Int) (hl : a.eval s = .int .i64 D) (hc : a.eval x = .int .i64 C) (hD : D = (n : Int)) (hC : C = (n : Int)) (h63 : Hid (n ≤ 140737488355328)) (hbase : base ≤ w.heap.size)
    (h : ∀ w', Bs w' base (.slice (some ⟨w.heap.size, 0, none⟩) n n) n (List.replicate n 0) → Below base w w' → wpList Tryd.prog ops Q rest (a.put o.dst (.slice (some ⟨w.heap.size, 0, none⟩) n n)) w') : wpList Tryd.prog ops Q (o :: rest) a w := by
  obtain ⟨i0, hi, hz0, hz1, hz2⟩ := info_parts info_byte
  have hm := h63.out
  refine wpList_make_full w hgd s x _ ho base 5 i0 _ 1 Tryd.underlying35 hi hz0 hz1 .i64 .i64 D C n hl hc hD hC (by rw [hz2]; omega) (by unfold maxLen; omega) hbase fun w' hown hg => h w' ⟨by simp, ?_⟩ (below_none hg hbase)
  have e : (madeCells (Value.int .u8 0).cells (n * 1)).toList = bv (List.replicate n 0) := by
    rw [Nat.mul_one]
    have hz : (Value.int .u8 0).cells = #[.int .u8 0] := rfl
    rw [hz]
    unfold madeCells bv
    apply List.ext_getElem?
    intro i
    by_cases hi : i < n
    · simp [hi, Nat.mod_one]
    · simp [hi]
  rw [e] at hown
  exact hown

end Go.Proofs.YtcefcfipomfpkaaDoor
