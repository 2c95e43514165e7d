/- Parts of what can be read; own rows beside others. Numbers and types by name. -/
import Derived.Test.YtlgfijjkbomejaaDoorBas
import Derived.Test.YtlgfijjkbomejaaDoorMov
/- An own row of bytes behind other work; an empty one. Numbers and types by name. -/
namespace Go.Proofs.YtlgfijjkbomejaaDoor
open Go.RowKit Go.Lib

theorem Bs.below {w w' : World} {base B : Nat} {v : Value} {n : Nat} {l : List UInt8} (h : Bs w base v n l) (hb : Below B w w') (hB : w.heap.size ≤ B) : Bs w' base v n l := by
  refine ⟨h.1, h.2.1, h.2.2.imp id ?_⟩
  rintro ⟨g, cap, cur, h1, h2, h3, h4⟩
  refine ⟨g, cap, cur, h1, h2, ?_, h4⟩
  rw [hb.block g (by have := (h.2.lt g (by rw [h1]; rfl)).2; omega)]
  exact h3

theorem Bs.empty (w : World) (base : Nat) (hb : base ≤ w.heap.size) : Bs (w.alloc (.cells #[] 5)) base (.slice (some ⟨w.heap.size, 0, none⟩) 0 0) 0 [] :=
  ⟨rfl, rfl, .inr ⟨w.heap.size, 0, #[], rfl, hb, heap_alloc_new w _, Nat.le_refl _, Nat.zero_le _, rfl, rfl⟩⟩


theorem heap_set {w : World} {b : Nat} {cs : Array Value} {t : TypeId} {fr : Nat × Nat} (h : w.heap[b]? = some (.cells cs t fr)) (j : Nat) (v : Value) : (w.setCell ⟨b, j, none⟩ v).heap[b]? = some (.cells (cs.setIfInBounds j v) t fr) := by
  simp [World.setCell, Array.getElem?_modify, h]

theorem bv_set (l : List UInt8) (j : Nat) (x : UInt8) : bv (l.set j x) = (bv l).set j (.int .u8 (x.toNat : Int)) := by simp [bv, List.map_set]

/-- One byte of an own row is written. -/
theorem Bs.set {w : World} {base g n c : Nat} {l : List UInt8} (h : Bs w base (.slice (some ⟨g, 0, none⟩) n c) n l) (j : Nat) (hj : j < n) (x : UInt8) :
    Bs (w.setCell ⟨g, j, none⟩ (.int .u8 (x.toNat : Int))) base (.slice (some ⟨g, 0, none⟩) n c) n (l.set j x) := by
  obtain ⟨hn, h1, h2 | ⟨g', cap, cur, e, hb, hg, hnc, hcm, hcs, ht⟩⟩ := h
  · exact absurd h2.1 (by simp)
  · simp only [Value.slice.injEq, Option.some.injEq, Addr.mk.injEq, and_true] at e
    obtain ⟨rfl, _, rfl⟩ := e
    refine ⟨by rw [List.length_set]; exact hn, by rw [bv_length, List.length_set]; omega, .inr ⟨g, c, cur.setIfInBounds j (.int .u8 (x.toNat : Int)), rfl, hb, heap_set hg _ _, hnc, hcm, by simpa using hcs, ?_⟩⟩
    rw [bv_set, ← ht]
    simp [List.take_set]

/-- Which cells an own row has, and that they may be written. -/
theorem Bs.cell {w : World} {base g n c : Nat} {l : List UInt8} (h : Bs w base (.slice (some ⟨g, 0, none⟩) n c) n l) {j : Nat} {x : UInt8} (hx : l[j]? = some x) :
    w.cell? ⟨g, j, none⟩ = some (.int .u8 (x.toNat : Int)) ∧ w.frozen? ⟨g, j, none⟩ = false := by
  obtain ⟨hn, h1, h2 | ⟨g', cap, cur, e, hb, hg, hnc, hcm, hcs, ht⟩⟩ := h
  · exact absurd h2.1 (by simp)
  · simp only [Value.slice.injEq, Option.some.injEq, Addr.mk.injEq, and_true] at e
    obtain ⟨rfl, _, rfl⟩ := e
    have hj : j < n := by have := (List.getElem?_eq_some_iff.1 hx).1; omega
    have hc : cur[j]? = some (.int .u8 (x.toNat : Int)) := by
      have h3 : (bv l)[j]? = some (.int .u8 (x.toNat : Int)) := by simp [bv, hx]
      rw [← ht, List.getElem?_take, if_pos (by omega)] at h3
      simpa using h3
    constructor
    · simp only [World.cell?, hg]
      simpa using hc
    · simp [World.frozen?, hg]

theorem below_set {w w' : World} {B g : Nat} (h : Below B w w') (hg : B ≤ g) (j : Nat) (v : Value) : Below B w (w'.setCell ⟨g, j, none⟩ v) :=
  ⟨h.os, h.tape, h.output, by simpa [World.setCell] using h.size, fun k hk => (Below.heap_setCell _ _ _ _ (by show k ≠ g; omega)).trans (h.block k hk)⟩

/-- make([]byte, n). -/
theorem wpList_make_zeros {ops : Array Oper} {rest : List Oper} {o : Oper} {a : Act} {w : World} {Q : Exit → Act → World → Prop} (hgd : o.guard = none) (s x : Operand) (ho : o.op = Op.makeSlice 42 s x)
    (base n : Nat) (C D : Int) (hl : a.eval s = .int .i64 D) (hc : a.eval x = .int .i64 C) (hD : D = (n : Int)) (hC : C = (n : Int)) (h63 : Hid (n ≤ 140737488355328)) (hbase : base ≤ w.heap.size)
    (h : ∀ w', Bs w' base (.slice (some ⟨w.heap.size, 0, none⟩) n n) n (List.replicate n 0) → Below base w w' → wpList Tryd.prog ops Q rest (a.put o.dst (.slice (some ⟨w.heap.size, 0, none⟩) n n)) w') : wpList Tryd.prog ops Q (o :: rest) a w := by
  obtain ⟨i0, hi, hz0, hz1, hz2⟩ := info_parts info_byte
  have hm := h63.out
  refine wpList_make_full w hgd s x _ ho base 5 i0 _ 1 Tryd.underlying42 hi hz0 hz1 .i64 .i64 D C n hl hc hD hC (by rw [hz2]; omega) (by unfold maxLen; omega) hbase fun w' hown hg => h w' ⟨by simp, ?_⟩ (below_none hg hbase)
  have e : (madeCells (Value.int .u8 0).cells (n * 1)).toList = bv (List.replicate n 0) := by
    rw [Nat.mul_one]
    have hz : (Value.int .u8 0).cells = #[.int .u8 0] := rfl
    rw [hz]
    unfold madeCells bv
    apply List.ext_getElem?
    intro i
    by_cases hi : i < n
    · simp [hi, Nat.mod_one]
    · simp [hi]
  rw [e] at hown
  exact hown

end Go.Proofs.YtlgfijjkbomejaaDoor

namespace Go.Proofs.YtlgfijjkbomejaaDoor
open Go.RowKit Go.Lib

theorem Reads.drop {w : World} {a : Addr} {n c : Nat} {l : List UInt8} (h : Reads w (.slice (some a) n c) (bv l)) (k : Nat) (hk : k ≤ n) (b : Addr) (hb : b = a.add k ∨ l.length = k) : Reads w (.slice (some b) (n - k) (c - k)) (bv (l.drop k)) := by
  obtain ⟨ao', c', e, h0, _, h2⟩ := h
  simp only [Value.slice.injEq, bv_length] at e h0
  obtain ⟨e1, rfl, rfl⟩ := e
  refine ⟨some b, c - k, by rw [bv_length, List.length_drop], by rw [bv_length, List.length_drop]; omega, (fun e => by cases e), fun a' ha j u hj => ?_⟩
  cases ha
  have hj2 := (List.getElem?_eq_some_iff.1 hj).1
  rw [bv_length, List.length_drop] at hj2
  rcases hb with rfl | hb
  · rw [Addr.add_add]
    refine h2 a e1.symm (k + j) u ?_
    rw [← hj]
    simp [bv]
  · omega

theorem Reads.prefix {w : World} {ao : Option Addr} {n c : Nat} {l : List UInt8} (h : Reads w (.slice ao n c) (bv l)) (k : Nat) (hk : k ≤ n) : Reads w (.slice ao k c) (bv (l.take k)) := by
  obtain ⟨ao', c', e, h0, h1, h2⟩ := h
  simp only [Value.slice.injEq, bv_length] at e h0
  obtain ⟨rfl, rfl, rfl⟩ := e
  refine ⟨ao, c, by rw [bv_length, List.length_take]; congr 1; omega, by rw [bv_length, List.length_take]; omega, fun e => ?_, fun a ha j u hj => ?_⟩
  · have h3 := h1 e
    have : l = [] := by simpa [bv] using h3.1
    subst this
    exact ⟨by simp [bv], h3.2⟩
  · refine h2 a ha j u ?_
    rw [← hj]
    have hj2 := (List.getElem?_eq_some_iff.1 hj).1
    rw [bv_length, List.length_take] at hj2
    simp [bv, List.getElem?_take, (by omega : j < k)]

theorem Reads.take {w : World} {a : Addr} {n c : Nat} {l : List UInt8} (h : Reads w (.slice (some a) n c) (bv l)) (k : Nat) (hk : k ≤ n) : Reads w (.slice (some a) k c) (bv (l.take k)) := h.prefix k hk

theorem Reads.byte {w : World} {ao : Option Addr} {n c : Nat} {l : List UInt8} (h : Reads w (.slice ao n c) (bv l)) {k : Nat} (hk : k < n) : ∃ a x, ao = some a ∧ l[k]? = some x ∧ w.cell? (a.add k) = some (.int .u8 ((x : UInt8).toNat : Int)) := by
  obtain ⟨ao', c', e, h0, h1, h2⟩ := h
  simp only [Value.slice.injEq, bv_length] at e h0
  obtain ⟨rfl, rfl, rfl⟩ := e
  have hx : l[k]? = some l[k] := List.getElem?_eq_getElem hk
  cases ao with
  | none => have := (h1 rfl).1; have : l = [] := by simpa [bv] using this
            subst this; simp at hk
  | some a => exact ⟨a, l[k], rfl, hx, h2 a rfl k _ (by simp [bv, hx])⟩

theorem Bs.empty_at (w : World) (base z : Nat) (hz : z = w.heap.size) (hb : base ≤ w.heap.size) : Bs (w.alloc (.cells #[] 5)) base (.slice (some ⟨z, 0, none⟩) 0 0) 0 [] := by
  subst hz
  exact Bs.empty w base hb

/-- An own row that is not empty begins its block. -/
theorem Bs.begins {w : World} {base : Nat} {ao : Option Addr} {n c : Nat} {l : List UInt8} (h : Bs w base (.slice ao n c) n l) (h0 : 0 < n) : ∃ g, ao = some ⟨g, 0, none⟩ ∧ base ≤ g ∧ g < w.heap.size ∧ n ≤ c := by
  obtain ⟨hn, h2, h1 | ⟨g, cap, cur, h1, hb, hg, hnc, _⟩⟩ := h
  · omega
  · simp only [Value.slice.injEq] at h1
    obtain ⟨rfl, _, rfl⟩ := h1
    exact ⟨g, rfl, hb, (Array.getElem?_eq_some_iff.1 hg).1, hnc⟩

theorem owns_grown {w w' : World} {base e size : Nat} {v : Value} {n : Nat} {xs : List Value} {row : Option Nat} (h : w.ownsRow base e size v n xs) (hg : w.grownBy w' row) (hne : ∀ g, v.ownBlock = some g → row ≠ some g) : w'.ownsRow base e size v n xs := by
  refine ⟨h.1, h.2.imp id ?_⟩
  rintro ⟨g, cap, cur, h1, h2, h3, h4⟩
  refine ⟨g, cap, cur, h1, h2, ?_, h4⟩
  have hv : v.ownBlock = some g := by rw [h1]; rfl
  rw [hg.block g (h.lt g hv).2 (fun e => hne g hv e.symm)]
  exact h3

/-- Rows of unlike kinds are apart. -/
theorem owns_apart {w : World} {base base' e e' size size' : Nat} {v v' : Value} {n n' : Nat} {xs xs' : List Value} (h : w.ownsRow base e size v n xs) (k : w.ownsRow base' e' size' v' n' xs') (hee : e ≠ e') : ∀ g, v.ownBlock = some g → v'.ownBlock ≠ some g := by
  intro g hv hv'
  rcases h.2 with ⟨rfl, _⟩ | ⟨g1, cap, cur, h1, h2, h3, h4⟩
  · cases hv
  rcases k.2 with ⟨rfl, _⟩ | ⟨g2, cap', cur', k1, k2, k3, k4⟩
  · cases hv'
  have e1 : g1 = g := by rw [h1] at hv; exact Option.some.inj hv
  have e2 : g2 = g := by rw [k1] at hv'; exact Option.some.inj hv'
  subst e1
  subst e2
  rw [h3] at k3
  simp only [Option.some.injEq, Obj.cells.injEq] at k3
  exact hee k3.2.1

/-- append of what can be read to an own row: which blocks it writes. -/
theorem wpList_append_bytes_at {ops : Array Oper} {rest : List Oper} {o : Oper} {a : Act} {w : World} {Q : Exit → Act → World → Prop} (hgd : o.guard = none) (s x : Operand)
    (ho : o.op = .call { callee := .builtin .append, args := #[s, x], argTypes := #[42, 42] })
    (base : Nat) (v : Value) (n : Nat) (l : List UInt8) (hs : a.eval s = v) (hown : Bs w base v n l) (vb : Value) (m : Nat) (k : List UInt8) (hm : m = k.length) (hx : a.eval x = vb) (hr : Reads w vb (bv k))
    (p : Nat) (hp : p = n + m) (h63 : Hid (p ≤ maxLen)) (hbytes : Hid (p * 1 ≤ 140737488355328)) (hbase : base ≤ w.heap.size)
    (h : ∀ ao c w', Bs w' base (.slice ao p c) p (l ++ k) → Below base w w' → w.grownBy w' v.ownBlock → wpList Tryd.prog ops Q rest (a.put o.dst (.slice ao p c)) w') : wpList Tryd.prog ops Q (o :: rest) a w := by
  subst hm hp
  obtain ⟨hn, hown⟩ := hown
  refine wpList_plain hgd fun K hK => ?_
  obtain ⟨ao, c, w', hr', h2, h3, _⟩ := run_append_reads o.type base v n (bv l) w hown vb (bv k) hr (bv_one k) (by rw [bv_length]; exact h63) (by rw [bv_length]; exact hbytes) hbase
  rw [bv_length] at hr' h2
  unfold Oper.wp execOp
  simp only [ho, resolve, invoke, builtin, Sem.run_bind, Sem.run_pure, Result.andThen_ok, List.map_toArray, List.map_cons, List.map_nil, hs, hx, hr']
  refine hK _ _ (h ao c w' ⟨by rw [hn, List.length_append], ?_⟩ (below_grown_own hown h3 hbase) h3)
  simpa [bv] using h2

theorem owns_below {w w' : World} {base B e size : Nat} {v : Value} {n : Nat} {xs : List Value} (h : w.ownsRow base e size v n xs) (hb : Below B w w') (hB : w.heap.size ≤ B) : w'.ownsRow base e size v n xs := by
  refine ⟨h.1, h.2.imp id ?_⟩
  rintro ⟨g, cap, cur, h1, h2, h3, h4⟩
  refine ⟨g, cap, cur, h1, h2, ?_, h4⟩
  rw [hb.block g (by have := (h.lt g (by rw [h1]; rfl)).2; omega)]
  exact h3

end Go.Proofs.YtlgfijjkbomejaaDoor
