/- Lattices in memory; how they are told. Numbers and types by name. -/
import Derived.Test.YtlgfijjkbomejaaDoorLtc
import Derived.Test.YtlgfijjkbomejaaDoorLst
/- The reference's least, turned, joins. Numbers and types by name. -/
namespace Go.Proofs.YtlgfijjkbomejaaDoor
open Go.RowKit Go.Lib
set_option maxRecDepth 100000

/-- What least tells: -1 where there is none. -/
def lstI (n : Nat) (f : Nat → Nat → Bool) (c : Nat → Bool) : Int := match leastP n f c with | some i => (i : Int) | none => -1
theorem lstI_some {n : Nat} {f : Nat → Nat → Bool} {c : Nat → Bool} {i : Nat} (h : leastP n f c = some i) : lstI n f c = i := by unfold lstI; rw [h]
theorem lstI_none {n : Nat} {f : Nat → Nat → Bool} {c : Nat → Bool} (h : leastP n f c = none) : lstI n f c = -1 := by unfold lstI; rw [h]
/-- It is at most all of the set, as far as k. -/
def stepB (f : Nat → Bool) (c : Nat → Bool) (k : Nat) : Bool := (List.range k).all fun j => !c j || f j
theorem stepB_next (f c : Nat → Bool) (k : Nat) : stepB f c (k + 1) = (stepB f c k && (!c k || f k)) := by
  unfold stepB
  rw [List.range_succ, List.all_append]
  simp
theorem stepB_true {f c : Nat → Bool} {k : Nat} (h : stepB f c k = true) : ∀ j, j < k → c j = true → f j = true := by
  intro j hj hc
  unfold stepB at h
  rw [List.all_eq_true] at h
  have := h j (by simpa using hj)
  simpa [hc] using this
theorem stepB_false {f c : Nat → Bool} {k : Nat} (h : stepB f c k = false) : ∃ j, j < k ∧ c j = true ∧ f j = false := by
  unfold stepB at h
  rw [List.all_eq_false] at h
  obtain ⟨j, hj, h2⟩ := h
  refine ⟨j, by simpa using hj, ?_⟩
  simpa using h2

/-- What tells a table: in new memory. -/
def TabTold (w : World) (n m : Nat) (g : Nat → Nat → Value) (e : Ending) (w' : World) : Prop := ∃ ao c, e = .returned (.slice ao n c) ∧ TabL w.heap.size w' (.slice ao n c) n m g ∧ Grow w w'
/-- A row as far as j. -/
def prB (g : Nat → Bool) (j x : Nat) : Bool := if x < j then g x else false
theorem prB_set {n j : Nat} {g : Nat → Bool} (_hj : j < n) : (rowB n (prB g j)).set j (.bool (g j)) = rowB n (prB g (j + 1)) := by
  apply List.ext_getElem?
  intro k
  by_cases hk : k < n
  · rw [List.getElem?_set, rowB_at hk, rowB_at hk]
    by_cases e : j = k
    · subst e
      rw [if_pos rfl, if_pos (by rw [rowB_length]; exact hk)]
      simp [prB]
    · rw [if_neg e]
      unfold prB
      by_cases h : k < j
      · rw [if_pos h, if_pos (by omega)]
      · rw [if_neg h, if_neg (by omega)]
  · rw [List.getElem?_eq_none (by simp [rowB]; omega), List.getElem?_eq_none (by simp [rowB]; omega)]
theorem prB_none (n : Nat) (g : Nat → Bool) : rowB n (fun _ => false) = rowB n (prB g 0) := range_congr fun k _ => by simp [prB]
theorem prB_all (n : Nat) (g : Nat → Bool) : rowB n (prB g n) = rowB n g := range_congr fun k hk => by simp [prB, hk]

def rowI (n : Nat) (g : Nat → Nat) : List Value := (List.range n).map fun k => .int .i64 (g k : Int)
theorem rowI_length (n : Nat) (g : Nat → Nat) : (rowI n g).length = n := by simp [rowI]
theorem rowI_snoc (n : Nat) (g : Nat → Nat) : rowI (n + 1) g = rowI n g ++ [.int .i64 (g n : Int)] := rows_snoc n _
/-- What joins tells. -/
def JoinsTold (w : World) (n : Nat) (f : Nat → Nat → Bool) (e : Ending) (w' : World) : Prop :=
  Grow w w' ∧ ((joinsP n f = false ∧ e = .returned (.tuple #[.slice none 0 0, .bool false])) ∨ (joinsP n f = true ∧ ∃ ao c, e = .returned (.tuple #[.slice ao n c, .bool true]) ∧ TabL w.heap.size w' (.slice ao n c) n n (bI (joinI n f))))
theorem joins_false {n : Nat} {f : Nat → Nat → Bool} {a b : Nat} (ha : a < n) (hb : b < n) (h : joinP n f a b = none) : joinsP n f = false := by
  cases h2 : joinsP n f with
  | false => rfl
  | true =>
    obtain ⟨j, hj⟩ := joinsP_iff.1 h2 a b ha hb
    rw [h] at hj
    cases hj
theorem joinI_some {n : Nat} {f : Nat → Nat → Bool} {a b j : Nat} (h : joinP n f a b = some j) : joinI n f a b = j := by unfold joinI; rw [h]; rfl

end Go.Proofs.YtlgfijjkbomejaaDoor

namespace Go.Proofs.YtlgfijjkbomejaaDoor
open Go.RowKit Go.Lib
set_option maxRecDepth 100000

def lat0 : Value := .agg #[.slice none 0 0, .slice none 0 0, .slice none 0 0, .slice none 0 0, .int .i64 0, .int .i64 0]
/-- A lattice that is read, in blocks from lo on: its names, its order; all else follows. -/
def LatV (lo : Nat) (w : World) (L : List (List UInt8)) (f : Nat → Nat → Bool) (v : Value) : Prop :=
  ∃ aN cN aL cL aJ cJ aM cM n, n = L.length ∧ v = .agg #[.slice aN n cN, .slice aL n cL, .slice aJ n cJ, .slice aM n cM, .int .i64 (lowI n f : Int), .int .i64 (lowI n (flipB f) : Int)] ∧
    (StrV w (.slice aN n cN) n L ∧ BlkP (fun k => lo ≤ k) (.slice aN n cN)) ∧ TabL lo w (.slice aL n cL) n n (bB f) ∧ TabL lo w (.slice aJ n cJ) n n (bI (joinI n f)) ∧ TabL lo w (.slice aM n cM) n n (bI (joinI n (flipB f)))
theorem LatV.chg {lo : Nat} {w w' : World} {L : List (List UInt8)} {f : Nat → Nat → Bool} {v : Value} {F : List Nat} (h : LatV lo w L f v) (hc : Chg F w w') (hF : ∀ k, k ∈ F → k < lo) : LatV lo w' L f v := by
  obtain ⟨aN, cN, aL, cL, aJ, cJ, aM, cM, n, hn, e, h1, h2, h3, h4⟩ := h
  exact ⟨aN, cN, aL, cL, aJ, cJ, aM, cM, n, hn, e, ⟨⟨h1.1.1, h1.1.2.1, h1.1.2.2.chg h1.2 hc fun k hk hm => by have := hF k hm; omega⟩, h1.2⟩, h2.chg hc hF, h3.chg hc hF, h4.chg hc hF⟩
theorem LatV.later {lo : Nat} {w w' : World} {L : List (List UInt8)} {f : Nat → Nat → Bool} {v : Value} (h : LatV lo w L f v) (hg : Grow w w') : LatV lo w' L f v := h.chg (F := []) (Chg.of_below hg) (by simp)
theorem LatV.mono {lo lo' : Nat} {w : World} {L : List (List UInt8)} {f : Nat → Nat → Bool} {v : Value} (h : LatV lo w L f v) (hl : lo' ≤ lo) : LatV lo' w L f v := by
  obtain ⟨aN, cN, aL, cL, aJ, cJ, aM, cM, n, hn, e, h1, h2, h3, h4⟩ := h
  exact ⟨aN, cN, aL, cL, aJ, cJ, aM, cM, n, hn, e, ⟨h1.1, h1.2.mono fun k hk => Nat.le_trans hl hk⟩, h2.mono hl, h3.mono hl, h4.mono hl⟩
/-- What makes a lattice of an order that it closes. -/
def LattTold (lo base : Nat) (w : World) (L : List (List UInt8)) (b : Nat → Nat → Bool) (e : Ending) (w' : World) : Prop :=
  Below base w w' ∧ ∃ f, Clos L.length b f ∧ ((lattP L.length f = false ∧ e = .returned (.tuple #[lat0, .bool false])) ∨ (lattP L.length f = true ∧ ∃ v, e = .returned (.tuple #[v, .bool true]) ∧ LatV lo w' L f v))
theorem Mat.tabL {w : World} {base O C n : Nat} {R cp : Nat → Nat} {f : Nat → Nat → Bool} (h : Mat w base O C n R cp f) (hO : base ≤ O) : TabL base w (.slice (some ⟨O, 0, none⟩) n C) n n (bB f) := by
  refine ⟨(List.range n).map fun i => .slice (some ⟨R i, 0, none⟩) n (cp i), ⟨some ⟨O, 0, none⟩, C, rfl, by simp, h.cap, (fun e => by cases e), fun a ha j u hj => ?_⟩, (fun a m c e => by cases e; exact hO), fun i vi hi => ?_⟩
  · cases ha
    rw [Addr.add_lit, Nat.zero_add]
    have hl : j < n := by have := (List.getElem?_eq_some_iff.1 hj).1; simpa using this
    rw [List.getElem?_map, List.getElem?_range hl] at hj
    simp only [Option.map_some, Option.some.injEq] at hj
    subst hj
    exact h.outer j hl
  · have hl : i < n := by have := (List.getElem?_eq_some_iff.1 hi).1; simpa using this
    rw [List.getElem?_map, List.getElem?_range hl] at hi
    simp only [Option.map_some, Option.some.injEq] at hi
    subst hi
    exact ⟨Cells.own (h.row i hl) (by decide), own_low (h.row i hl)⟩

theorem load_lat {w : World} {M : Nat} {cs : List Value} {t : TypeId} (h : w.heap[M]? = some (.cells cs.toArray t)) (hl : cs.length = 6) : (loadVar 31 ⟨M, 0, none⟩).run Tryd.prog w = .ok (.agg cs.toArray) w := by
  refine run_load_agg w ⟨M, 0, none⟩ 31 cs _ (fun j v hj => ?_) Tryd.underlying31 rfl (by rw [hl]; decide)
  rw [Addr.add_lit, Nat.zero_add]
  exact cellsN h j v (by simpa using hj)
theorem res_lat2 {fn : Func} {p q : Nat} (h : fn.results = #[.cell p 31, .tmp q]) (tmps : Array Value) (w : World) (M : Nat) (cs : List Value) (hl : cs.length = 6) {t : TypeId} (hM : w.heap[M]? = some (.cells cs.toArray t)) (x : Value)
    (h2 : tmps.getD p undef = .pointer (some ⟨M, 0, none⟩)) (h3 : tmps.getD q undef = x) : (results fn tmps).run Tryd.prog w = .ok (.tuple #[.agg cs.toArray, x]) w := by
  have hv := load_lat hM hl
  have h2' : tmps[p]?.getD undef = .pointer (some ⟨M, 0, none⟩) := by simpa using h2
  have h3' : tmps[q]?.getD undef = x := by simpa using h3
  simp [results, h, h2', h3', asAddr, hv]
theorem res_lat3 {fn : Func} {p q r : Nat} (h : fn.results = #[.cell p 31, .tmp q, .tmp r]) (tmps : Array Value) (w : World) (M : Nat) (cs : List Value) (hl : cs.length = 6) {t : TypeId} (hM : w.heap[M]? = some (.cells cs.toArray t)) (x y : Value)
    (h2 : tmps.getD p undef = .pointer (some ⟨M, 0, none⟩)) (h3 : tmps.getD q undef = x) (h4 : tmps.getD r undef = y) : (results fn tmps).run Tryd.prog w = .ok (.tuple #[.agg cs.toArray, x, y]) w := by
  have hv := load_lat hM hl
  have h2' : tmps[p]?.getD undef = .pointer (some ⟨M, 0, none⟩) := by simpa using h2
  have h3' : tmps[q]?.getD undef = x := by simpa using h3
  have h4' : tmps[r]?.getD undef = y := by simpa using h4
  simp [results, h, h2', h3', h4', asAddr, hv]
/-- Six cells are written. -/
theorem lat_set6 {w : World} {M : Nat} {a0 a1 a2 a3 a4 a5 : Value} {t : TypeId} (h : w.heap[M]? = some (.cells #[a0, a1, a2, a3, a4, a5] t)) (b0 b1 b2 b3 b4 b5 : Value) :
    ((((((w.setCell ⟨M, 0, none⟩ b0).setCell ⟨M, 1, none⟩ b1).setCell ⟨M, 2, none⟩ b2).setCell ⟨M, 3, none⟩ b3).setCell ⟨M, 4, none⟩ b4).setCell ⟨M, 5, none⟩ b5).heap[M]? = some (.cells #[b0, b1, b2, b3, b4, b5] t) ∧ Chg [M] w ((((((w.setCell ⟨M, 0, none⟩ b0).setCell ⟨M, 1, none⟩ b1).setCell ⟨M, 2, none⟩ b2).setCell ⟨M, 3, none⟩ b3).setCell ⟨M, 4, none⟩ b4).setCell ⟨M, 5, none⟩ b5) :=
  ⟨heap_setCell_same _ _ _ _ _ _ (heap_setCell_same _ _ _ _ _ _ (heap_setCell_same _ _ _ _ _ _ (heap_setCell_same _ _ _ _ _ _ (heap_setCell_same _ _ _ _ _ _ (heap_setCell_same _ _ _ _ _ _ h))))), (((((((Chg.refl [M] w).set (.inl (by simp)) 0 _).set (.inl (by simp)) 1 _).set (.inl (by simp)) 2 _).set (.inl (by simp)) 3 _).set (.inl (by simp)) 4 _).set (.inl (by simp)) 5 _)⟩
/-- A lattice's cells, and that they may be written. -/
structure LatB (w : World) (M : Nat) (c0 c1 c2 c3 c4 c5 : Value) : Prop where
  h : w.heap[M]? = some (.cells #[c0, c1, c2, c3, c4, c5] 31 (0, 0))
theorem LatB.cells {w : World} {M : Nat} {c0 c1 c2 c3 c4 c5 : Value} (H : LatB w M c0 c1 c2 c3 c4 c5) : (w.cell? ⟨M, 0, none⟩ = some c0 ∧ w.cell? ⟨M, 1, none⟩ = some c1 ∧ w.cell? ⟨M, 2, none⟩ = some c2) ∧ w.cell? ⟨M, 3, none⟩ = some c3 ∧ w.cell? ⟨M, 4, none⟩ = some c4 ∧ w.cell? ⟨M, 5, none⟩ = some c5 :=
  ⟨⟨cellsN H.h 0 _ rfl, cellsN H.h 1 _ rfl, cellsN H.h 2 _ rfl⟩, cellsN H.h 3 _ rfl, cellsN H.h 4 _ rfl, cellsN H.h 5 _ rfl⟩
theorem LatB.free {w : World} {M : Nat} {c0 c1 c2 c3 c4 c5 : Value} (H : LatB w M c0 c1 c2 c3 c4 c5) : (w.frozen? ⟨M, 0, none⟩ = false ∧ w.frozen? ⟨M, 1, none⟩ = false ∧ w.frozen? ⟨M, 2, none⟩ = false) ∧ w.frozen? ⟨M, 3, none⟩ = false ∧ w.frozen? ⟨M, 4, none⟩ = false ∧ w.frozen? ⟨M, 5, none⟩ = false :=
  ⟨⟨frozen_of_row _ _ _ _ _ H.h, frozen_of_row _ _ _ _ _ H.h, frozen_of_row _ _ _ _ _ H.h⟩, frozen_of_row _ _ _ _ _ H.h, frozen_of_row _ _ _ _ _ H.h, frozen_of_row _ _ _ _ _ H.h⟩
theorem LatB.chg {w w' : World} {M : Nat} {c0 c1 c2 c3 c4 c5 : Value} {F : List Nat} (H : LatB w M c0 c1 c2 c3 c4 c5) (hc : Chg F w w') (hF : M ∉ F) : LatB w' M c0 c1 c2 c3 c4 c5 := ⟨(hc.block M (Array.getElem?_eq_some_iff.1 H.h).1 hF).trans H.h⟩
theorem LatB.later {w w' : World} {M : Nat} {c0 c1 c2 c3 c4 c5 : Value} (H : LatB w M c0 c1 c2 c3 c4 c5) (hg : Grow w w') : LatB w' M c0 c1 c2 c3 c4 c5 := H.chg (F := []) (Chg.of_below hg) (by simp)
theorem LatB.new (w : World) (c0 c1 c2 c3 c4 c5 : Value) : LatB (w.alloc (.cells #[c0, c1, c2, c3, c4, c5] 31)) w.heap.size c0 c1 c2 c3 c4 c5 := ⟨heap_alloc_new _ _⟩
theorem LatB.lt {w : World} {M : Nat} {c0 c1 c2 c3 c4 c5 : Value} (H : LatB w M c0 c1 c2 c3 c4 c5) : M < w.heap.size := (Array.getElem?_eq_some_iff.1 H.h).1

end Go.Proofs.YtlgfijjkbomejaaDoor
