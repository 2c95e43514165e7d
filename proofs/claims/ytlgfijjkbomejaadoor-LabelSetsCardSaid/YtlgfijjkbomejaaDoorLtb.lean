/- Tables in memory: read, and orders that are written row by row. Numbers and types by name. -/
import Derived.Test.YtlgfijjkbomejaaDoorLta
import Derived.Test.YtlgfijjkbomejaaDoorChg
import Derived.Test.YtlgfijjkbomejaaDoorSma
namespace Go.Proofs.YtlgfijjkbomejaaDoor
open Go.RowKit Go.Lib
set_option maxRecDepth 100000

theorem Cells.shape {w : World} {v : Value} {size n : Nat} {xs : List Value} (h : Cells w v size n xs) : ∃ ao c, v = .slice ao n c := by
  obtain ⟨ao, c, e, _⟩ := h
  exact ⟨ao, c, e⟩
/-- A table that is read: so many rows of so many cells. -/
def TabV (w : World) (v : Value) (n m : Nat) (g : Nat → Nat → Value) : Prop :=
  ∃ vs, Cells w v 1 n vs ∧ ∀ i vi, vs[i]? = some vi → Cells w vi 1 m ((List.range m).map (g i))
theorem TabV.later {w w' : World} {v : Value} {n m : Nat} {g : Nat → Nat → Value} (h : TabV w v n m g) (hg : Grow w w') : TabV w' v n m g := by
  obtain ⟨vs, h2, h3⟩ := h
  exact ⟨vs, h2.later hg, fun i vi hi => (h3 i vi hi).later hg⟩
theorem TabV.shape {w : World} {v : Value} {n m : Nat} {g : Nat → Nat → Value} (h : TabV w v n m g) : ∃ ao c, v = .slice ao n c := by
  obtain ⟨vs, ⟨ao, c, rfl, _⟩, _⟩ := h
  exact ⟨ao, c, rfl⟩
theorem TabV.row {w : World} {ao : Option Addr} {c n m : Nat} {g : Nat → Nat → Value} (h : TabV w (.slice ao n c) n m g) {i : Nat} (hi : i < n) :
    ∃ a bo d, ao = some a ∧ w.cell? (a.add i) = some (.slice bo m d) ∧ Cells w (.slice bo m d) 1 m ((List.range m).map (g i)) := by
  obtain ⟨vs, ⟨ao', c', e, hl, hc, hz, hat⟩, h3⟩ := h
  simp only [Value.slice.injEq] at e
  obtain ⟨rfl, _, rfl⟩ := e
  obtain ⟨a, rfl⟩ : ∃ a, ao = some a := by
    cases ao with
    | some a => exact ⟨a, rfl⟩
    | none => have := (hz rfl).1; omega
  have hv : vs[i]? = some (vs[i]'(by omega)) := List.getElem?_eq_getElem (by omega)
  have h4 := h3 i _ hv
  obtain ⟨bo, d, e2, _⟩ := h4
  rw [e2] at hv
  have h4 := h3 i _ hv
  exact ⟨a, bo, d, rfl, hat a rfl i _ hv, h4⟩
theorem cells_at {w : World} {ao : Option Addr} {c n : Nat} {g : Nat → Value} (h : Cells w (.slice ao n c) 1 n ((List.range n).map g)) {j : Nat} (hj : j < n) : ∃ a, ao = some a ∧ w.cell? (a.add j) = some (g j) := by
  obtain ⟨ao', c', e, hl, hc, hz, hat⟩ := h
  simp only [Value.slice.injEq] at e
  obtain ⟨rfl, _, rfl⟩ := e
  obtain ⟨a, rfl⟩ : ∃ a, ao = some a := by
    cases ao with
    | some a => exact ⟨a, rfl⟩
    | none => have := (hz rfl).1; omega
  exact ⟨a, rfl, hat a rfl j _ (by rw [List.getElem?_map, List.getElem?_range hj]; rfl)⟩
theorem TabV.at {w : World} {ao : Option Addr} {c n m : Nat} {g : Nat → Nat → Value} (h : TabV w (.slice ao n c) n m g) {i j : Nat} (hi : i < n) (hj : j < m) :
    ∃ a b d, ao = some a ∧ w.cell? (a.add i) = some (.slice (some b) m d) ∧ w.cell? (b.add j) = some (g i j) := by
  obtain ⟨a, bo, d, rfl, h1, h2⟩ := h.row hi
  obtain ⟨b, rfl, h3⟩ := cells_at h2 hj
  exact ⟨a, b, d, rfl, h1, h3⟩
theorem range_congr {α : Type} {n : Nat} {f g : Nat → α} (h : ∀ k, k < n → f k = g k) : (List.range n).map f = (List.range n).map g :=
  List.map_congr_left fun k hk => h k (by simpa using hk)
theorem TabV.congr {w : World} {v : Value} {n m : Nat} {g g' : Nat → Nat → Value} (h : TabV w v n m g) (hg : ∀ i j, i < n → j < m → g i j = g' i j) : TabV w v n m g' := by
  obtain ⟨vs, h2, h3⟩ := h
  refine ⟨vs, h2, fun i vi hi => ?_⟩
  have hl : i < n := by
    have h4 := (List.getElem?_eq_some_iff.1 hi).1
    obtain ⟨_, _, _, h5, _⟩ := h2
    omega
  rw [← range_congr fun k hk => hg i k hl hk]
  exact h3 i vi hi

/-- A table that lies in blocks from lo on. -/
def TabL (lo : Nat) (w : World) (v : Value) (n m : Nat) (g : Nat → Nat → Value) : Prop :=
  ∃ vs, Cells w v 1 n vs ∧ BlkP (fun k => lo ≤ k) v ∧ ∀ i vi, vs[i]? = some vi → Cells w vi 1 m ((List.range m).map (g i)) ∧ BlkP (fun k => lo ≤ k) vi
theorem TabL.toV {lo : Nat} {w : World} {v : Value} {n m : Nat} {g : Nat → Nat → Value} (h : TabL lo w v n m g) : TabV w v n m g := by
  obtain ⟨vs, h1, _, h3⟩ := h
  exact ⟨vs, h1, fun i vi hi => (h3 i vi hi).1⟩
theorem TabL.mono {lo lo' : Nat} {w : World} {v : Value} {n m : Nat} {g : Nat → Nat → Value} (h : TabL lo w v n m g) (hl : lo' ≤ lo) : TabL lo' w v n m g := by
  obtain ⟨vs, h1, h2, h3⟩ := h
  exact ⟨vs, h1, h2.mono fun k hk => Nat.le_trans hl hk, fun i vi hi => ⟨(h3 i vi hi).1, (h3 i vi hi).2.mono fun k hk => Nat.le_trans hl hk⟩⟩
theorem TabL.chg {lo : Nat} {w w' : World} {v : Value} {n m : Nat} {g : Nat → Nat → Value} {F : List Nat} (h : TabL lo w v n m g) (hc : Chg F w w') (hF : ∀ k, k ∈ F → k < lo) : TabL lo w' v n m g := by
  obtain ⟨vs, h1, h2, h3⟩ := h
  have hP : ∀ k, lo ≤ k → k ∉ F := fun k hk hm => by have := hF k hm; omega
  exact ⟨vs, h1.chg h2 hc hP, h2, fun i vi hi => ⟨(h3 i vi hi).1.chg (h3 i vi hi).2 hc hP, (h3 i vi hi).2⟩⟩
theorem TabL.later {lo : Nat} {w w' : World} {v : Value} {n m : Nat} {g : Nat → Nat → Value} (h : TabL lo w v n m g) (hg : Grow w w') : TabL lo w' v n m g := h.chg (F := []) (Chg.of_below hg) (by simp)
theorem Cells.low {w w' : World} {v : Value} {size n : Nat} {xs : List Value} {B : Nat} (h : Cells w v size n xs) (hb : Below B w w') (hlt : BlkP (fun k => k < B) v) : Cells w' v size n xs := by
  obtain ⟨ao, cap, rfl, h0, h1, h2, h3⟩ := h
  refine ⟨ao, cap, rfl, h0, h1, h2, fun a ha j u hj => ?_⟩
  have e : (a.add j).block = a.block := by unfold Addr.add; split <;> rfl
  have hc := h3 a ha j u hj
  rw [World.cell?_of_block (hb.block _ (by rw [e]; exact hlt a _ _ (by rw [ha])))]
  exact hc
theorem own_low {w : World} {base e size : Nat} {v : Value} {n : Nat} {xs : List Value} (h : w.ownsRow base e size v n xs) : BlkP (fun k => base ≤ k) v := by
  intro a m c ev
  rcases h.2 with ⟨rfl, _⟩ | ⟨g, cap, cur, rfl, hb, _⟩
  · cases ev
  · simp only [Value.slice.injEq, Option.some.injEq] at ev
    obtain ⟨rfl, _⟩ := ev
    exact hb

def bB (f : Nat → Nat → Bool) (i j : Nat) : Value := .bool (f i j)
def bI (f : Nat → Nat → Nat) (i j : Nat) : Value := .int .i64 (f i j : Int)
def rowB (n : Nat) (f : Nat → Bool) : List Value := (List.range n).map fun k => .bool (f k)
theorem rowB_length (n : Nat) (f : Nat → Bool) : (rowB n f).length = n := by simp [rowB]
theorem rowB_at {n : Nat} {f : Nat → Bool} {k : Nat} (hk : k < n) : (rowB n f)[k]? = some (.bool (f k)) := by
  unfold rowB
  rw [List.getElem?_map, List.getElem?_range hk]
  rfl

def updB (f : Nat → Nat → Bool) (a b : Nat) (x : Bool) (i j : Nat) : Bool := if i = a ∧ j = b then x else f i j
theorem rowB_set {n : Nat} {f : Nat → Nat → Bool} {a b : Nat} {x : Bool} : (rowB n (f a)).set b (.bool x) = rowB n (updB f a b x a) := by
  apply List.ext_getElem?
  intro k
  by_cases hk : k < n
  · rw [List.getElem?_set, rowB_at hk]
    by_cases e : b = k
    · subst e
      rw [if_pos rfl, if_pos (by rw [rowB_length]; exact hk), rowB_at hk]
      simp [updB]
    · rw [if_neg e, rowB_at hk]
      unfold updB
      rw [if_neg (by omega)]
  · rw [List.getElem?_eq_none (by simp [rowB]; omega), List.getElem?_eq_none (by simp [rowB]; omega)]

/-- One cell of an own row of single cells. -/
theorem own_cell {w : World} {base el g n c : Nat} {xs : List Value} (h : w.ownsRow base el 1 (.slice (some ⟨g, 0, none⟩) n c) n xs) {j : Nat} {x : Value} (hx : xs[j]? = some x) :
    w.cell? ⟨g, j, none⟩ = some x ∧ w.frozen? ⟨g, j, none⟩ = false := by
  obtain ⟨h1, h2 | ⟨g', cap, cur, e, hb, hg, hnc, hcm, hcs, ht⟩⟩ := h
  · exact absurd h2.1 (by simp)
  · simp only [Value.slice.injEq, Option.some.injEq, Addr.mk.injEq, and_true] at e
    obtain ⟨rfl, _, rfl⟩ := e
    have hj : j < n := by have := (List.getElem?_eq_some_iff.1 hx).1; omega
    have hc : cur[j]? = some x := by
      rw [← ht, List.getElem?_take, if_pos (by omega)] at hx
      simpa using hx
    constructor
    · simp only [World.cell?, hg]
      simpa using hc
    · simp [World.frozen?, hg]
theorem own_setV {w : World} {base el g n c : Nat} {xs : List Value} (h : w.ownsRow base el 1 (.slice (some ⟨g, 0, none⟩) n c) n xs) (j : Nat) (x : Value) :
    (w.setCell ⟨g, j, none⟩ x).ownsRow base el 1 (.slice (some ⟨g, 0, none⟩) n c) n (xs.set j x) := by
  obtain ⟨h1, h2 | ⟨g', cap, cur, e, hb, hg, hnc, hcm, hcs, ht⟩⟩ := h
  · exact absurd h2.1 (by simp)
  · simp only [Value.slice.injEq, Option.some.injEq, Addr.mk.injEq, and_true] at e
    obtain ⟨rfl, _, rfl⟩ := e
    refine ⟨by simpa using h1, .inr ⟨g, c, cur.setIfInBounds j x, rfl, hb, heap_set hg _ _, hnc, hcm, by simpa using hcs, ?_⟩⟩
    rw [← ht]
    simp [List.take_set]
/-- It stays where its block is left. -/
theorem own_chg {w w' : World} {base el size : Nat} {v : Value} {n : Nat} {xs : List Value} {F : List Nat} (h : w.ownsRow base el size v n xs) (hc : Chg F w w') (hF : ∀ k, v.ownBlock = some k → k ∉ F) : w'.ownsRow base el size v n xs := by
  refine ⟨h.1, ?_⟩
  rcases h.2 with ⟨rfl, rfl⟩ | ⟨g, cap, cur, rfl, hb, hg, hr⟩
  · exact .inl ⟨rfl, rfl⟩
  · exact .inr ⟨g, cap, cur, rfl, hb, (hc.block g (Array.getElem?_eq_some_iff.1 hg).1 (hF g rfl)).trans hg, hr⟩

/-- An order that is written: the outer row's block, its rows' blocks, unlike. -/
structure Mat (w : World) (base O C n : Nat) (R cp : Nat → Nat) (f : Nat → Nat → Bool) : Prop where
  cap : n ≤ C
  outer : ∀ i, i < n → w.cell? ⟨O, i, none⟩ = some (.slice (some ⟨R i, 0, none⟩) n (cp i))
  row : ∀ i, i < n → w.ownsRow base 4 1 (.slice (some ⟨R i, 0, none⟩) n (cp i)) n (rowB n (f i))
  inj : ∀ i j, i < n → j < n → R i = R j → i = j
  ne : ∀ i, i < n → R i ≠ O
def rowsF (n : Nat) (R : Nat → Nat) : List Nat := (List.range n).map R
theorem rowsF_mem {n : Nat} {R : Nat → Nat} {i : Nat} (hi : i < n) : R i ∈ rowsF n R := List.mem_map.2 ⟨i, by simpa using hi, rfl⟩
theorem Mat.lt {w : World} {base O C n : Nat} {R cp : Nat → Nat} {f : Nat → Nat → Bool} (h : Mat w base O C n R cp f) {i : Nat} (hi : i < n) : base ≤ R i ∧ R i < w.heap.size := by
  have := (h.row i hi).lt (R i) rfl
  exact this
theorem Mat.low {w : World} {base O C n : Nat} {R cp : Nat → Nat} {f : Nat → Nat → Bool} (h : Mat w base O C n R cp f) : ∀ x, x ∈ rowsF n R → base ≤ x := by
  intro x hx
  obtain ⟨i, hi, rfl⟩ := List.mem_map.1 hx
  exact (h.lt (by simpa using hi)).1
theorem Mat.at {w : World} {base O C n : Nat} {R cp : Nat → Nat} {f : Nat → Nat → Bool} (h : Mat w base O C n R cp f) {i j : Nat} (hi : i < n) (hj : j < n) : w.cell? ⟨R i, j, none⟩ = some (.bool (f i j)) ∧ w.frozen? ⟨R i, j, none⟩ = false :=
  own_cell (h.row i hi) (rowB_at hj)
theorem Mat.set {w : World} {base O C n : Nat} {R cp : Nat → Nat} {f : Nat → Nat → Bool} (h : Mat w base O C n R cp f) {a : Nat} (ha : a < n) (b : Nat) (x : Bool) : Mat (w.setCell ⟨R a, b, none⟩ (.bool x)) base O C n R cp (updB f a b x) := by
  refine ⟨h.cap, fun i hi => ?_, fun i hi => ?_, h.inj, h.ne⟩
  · have hc : Chg [R a] w (w.setCell ⟨R a, b, none⟩ (.bool x)) := (Chg.refl _ w).set (.inl (by simp)) _ _
    exact hc.cell (h.outer i hi) (by
      simp only [List.mem_singleton]
      exact fun e => h.ne a ha e.symm)
  · by_cases e : i = a
    · subst e
      have := own_setV (h.row i hi) b (.bool x)
      rw [rowB_set] at this
      exact this
    · have hc : Chg [R a] w (w.setCell ⟨R a, b, none⟩ (.bool x)) := (Chg.refl _ w).set (.inl (by simp)) _ _
      have h2 := own_chg (h.row i hi) hc (by
        intro k hk
        simp only [Value.ownBlock, Option.some.injEq] at hk
        subst hk
        simp only [List.mem_singleton]
        exact fun e2 => e (h.inj i a hi ha e2))
      have h3 : rowB n (updB f a b x i) = rowB n (f i) := by
        unfold rowB
        refine range_congr fun k _ => ?_
        unfold updB
        rw [if_neg (by omega)]
      rw [h3]
      exact h2
theorem Mat.congr {w : World} {base O C n : Nat} {R cp : Nat → Nat} {f g : Nat → Nat → Bool} (h : Mat w base O C n R cp f) (hg : ∀ i j, i < n → j < n → f i j = g i j) : Mat w base O C n R cp g := by
  refine ⟨h.cap, h.outer, fun i hi => ?_, h.inj, h.ne⟩
  have : rowB n (g i) = rowB n (f i) := range_congr fun k hk => by rw [hg i k hi hk]
  rw [this]
  exact h.row i hi
theorem Mat.drewN {w : World} {base O C n : Nat} {R cp : Nat → Nat} {f : Nat → Nat → Bool} (h : Mat w base O C n R cp f) (k : Nat) : Mat (w.drewN k) base O C n R cp f := ⟨h.cap, h.outer, h.row, h.inj, h.ne⟩
theorem Mat.drew {w : World} {base O C n : Nat} {R cp : Nat → Nat} {f : Nat → Nat → Bool} (h : Mat w base O C n R cp f) : Mat w.drew base O C n R cp f := ⟨h.cap, h.outer, h.row, h.inj, h.ne⟩
theorem Mat.later {w w' : World} {base O C n : Nat} {R cp : Nat → Nat} {f : Nat → Nat → Bool} (h : Mat w base O C n R cp f) (hg : Grow w w') : Mat w' base O C n R cp f := by
  refine ⟨h.cap, fun i hi => ?_, fun i hi => ?_, h.inj, h.ne⟩
  · have hc := h.outer i hi
    exact (World.cell?_of_block (hg.block _ (World.block_lt_of_cell? w _ hc))).trans hc
  · exact own_chg (F := []) (h.row i hi) (Chg.of_below hg) (by simp)
theorem Mat.chg {w w' : World} {base O C n : Nat} {R cp : Nat → Nat} {f : Nat → Nat → Bool} {F : List Nat} (h : Mat w base O C n R cp f) (hc : Chg F w w') (hO : O ∉ F) (hR : ∀ i, i < n → R i ∉ F) : Mat w' base O C n R cp f := by
  refine ⟨h.cap, fun i hi => hc.cell (h.outer i hi) hO, fun i hi => ?_, h.inj, h.ne⟩
  refine own_chg (h.row i hi) hc fun k hk => ?_
  simp only [Value.ownBlock, Option.some.injEq] at hk
  subst hk
  exact hR i hi
theorem Mat.tab {w : World} {base O C n : Nat} {R cp : Nat → Nat} {f : Nat → Nat → Bool} (h : Mat w base O C n R cp f) : TabV w (.slice (some ⟨O, 0, none⟩) n C) n n (bB f) := by
  refine ⟨(List.range n).map fun i => .slice (some ⟨R i, 0, none⟩) n (cp i), ⟨some ⟨O, 0, none⟩, C, rfl, by simp, h.cap, (fun e => by cases e), fun a ha j u hj => ?_⟩, fun i vi hi => ?_⟩
  · cases ha
    rw [Addr.add_lit, Nat.zero_add]
    have hl : j < n := by have := (List.getElem?_eq_some_iff.1 hj).1; simpa using this
    rw [List.getElem?_map, List.getElem?_range hl] at hj
    simp only [Option.map_some, Option.some.injEq] at hj
    subst hj
    exact h.outer j hl
  · have hl : i < n := by have := (List.getElem?_eq_some_iff.1 hi).1; simpa using this
    rw [List.getElem?_map, List.getElem?_range hl] at hi
    simp only [Option.map_some, Option.some.injEq] at hi
    subst hi
    exact Cells.own (h.row i hl) (by decide)

theorem elemBool : Elem 38 4 (.bool false) 1 1 := ⟨Tryd.underlying38, by kernel_rfl, by decide, by decide⟩
theorem elemBools : Elem 28 38 (.slice none 0 0) 1 24 := ⟨Tryd.underlying28, by kernel_rfl, by decide, by decide⟩
theorem elemInt1 : Elem 37 3 (.int .i64 0) 1 8 := ⟨Tryd.underlying37, by kernel_rfl, by decide, by decide⟩
theorem elemInt2 : Elem 29 37 (.slice none 0 0) 1 24 := ⟨Tryd.underlying29, by kernel_rfl, by decide, by decide⟩

/-- make of so many noughts, whatever they are (of one cell). -/
theorem wpList_make_gen {sl el : TypeId} {z : Value} {bytes : Nat} (E : Elem sl el z 1 bytes) (hz1 : z.cells = #[z]) {ops : Array Oper} {rest : List Oper} {o : Oper} {a : Act} {w : World} {Q : Exit → Act → World → Prop} (hgd : o.guard = none) (s x : Operand) (ho : o.op = Op.makeSlice sl s x)
    (base n : Nat) (C D : Int) (hl : a.eval s = .int .i64 D) (hc : a.eval x = .int .i64 C) (hD : D = (n : Int)) (hC : C = (n : Int)) (h63 : Hid (n ≤ 1000000)) (hby : bytes ≤ 1000) (hbase : base ≤ w.heap.size)
    (h : ∀ w', w'.ownsRow base el 1 (.slice (some ⟨w.heap.size, 0, none⟩) n n) n (List.replicate n z) → Below base w w' → w.grownBy w' none → w.heap.size < w'.heap.size → wpList Tryd.prog ops Q rest (a.put o.dst (.slice (some ⟨w.heap.size, 0, none⟩) n n)) w') : wpList Tryd.prog ops Q (o :: rest) a w := by
  obtain ⟨i0, hi, hz0, hzs, hz2⟩ := info_parts E.info
  have hm := h63.out
  refine wpList_make_full w hgd s x _ ho base el i0 _ 1 E.under hi hz0 hzs .i64 .i64 D C n hl hc hD hC (by rw [hz2]; exact Nat.le_trans (Nat.mul_le_mul hby hm) (by decide : 1000 * 1000000 ≤ 281474976710656)) (by unfold maxLen; omega) hbase fun w' hown hg => h w' ?_ (below_none hg hbase) hg (hown.lt _ rfl).2
  have e : (madeCells z.cells (n * 1)).toList = List.replicate n z := by
    rw [Nat.mul_one, hz1]
    unfold madeCells
    apply List.ext_getElem?
    intro i
    by_cases hi : i < n
    · simp [hi, Nat.mod_one]
    · simp [hi]
  rw [e] at hown
  exact hown
theorem rowB_false (n : Nat) : List.replicate n (Value.bool false) = rowB n fun _ => false := by
  unfold rowB
  apply List.ext_getElem?
  intro i
  by_cases hi : i < n
  · simp [hi]
  · simp [hi]

end Go.Proofs.YtlgfijjkbomejaaDoor
