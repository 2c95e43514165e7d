/- Lists of texts in memory: read, and own ones. Numbers and types by name. -/
import Derived.Test.YtlgfijjkbomejaaDoorLtb
namespace Go.Proofs.YtlgfijjkbomejaaDoor
open Go.RowKit Go.Lib
set_option maxRecDepth 100000

def sx (L : List (List UInt8)) : List Value := L.map fun s => .string (tx s)
theorem sx_length (L : List (List UInt8)) : (sx L).length = L.length := by simp [sx]
theorem sx_at {L : List (List UInt8)} {k : Nat} {s : List UInt8} (h : L[k]? = some s) : (sx L)[k]? = some (.string (tx s)) := by simp [sx, h]
theorem sx_one (L : List (List UInt8)) : ∀ u ∈ sx L, u.oneCell' = true := by
  intro u hu
  obtain ⟨s, _, rfl⟩ := List.mem_map.1 hu
  rfl
/-- A list of texts that is read. -/
def StrV (w : World) (v : Value) (n : Nat) (L : List (List UInt8)) : Prop := n = L.length ∧ n ≤ 1000000 ∧ Cells w v 1 n (sx L)
theorem StrV.shape {w : World} {v : Value} {n : Nat} {L : List (List UInt8)} (h : StrV w v n L) : ∃ ao c, v = .slice ao n c := by
  obtain ⟨_, _, ao, c, rfl, _⟩ := h
  exact ⟨ao, c, rfl⟩
theorem StrV.later {w w' : World} {v : Value} {n : Nat} {L : List (List UInt8)} (h : StrV w v n L) (hg : Grow w w') : StrV w' v n L := ⟨h.1, h.2.1, h.2.2.later hg⟩
theorem StrV.nil (w : World) : StrV w (.slice none 0 0) 0 [] := ⟨rfl, Nat.zero_le _, none, 0, rfl, rfl, Nat.le_refl _, fun _ => ⟨rfl, rfl⟩, fun a h => by cases h⟩
theorem StrV.at {w : World} {ao : Option Addr} {n c : Nat} {L : List (List UInt8)} (h : StrV w (.slice ao n c) n L) {k : Nat} (hk : k < n) : ∃ a s, ao = some a ∧ L[k]? = some s ∧ w.cell? (a.add k) = some (.string (tx s)) := by
  obtain ⟨h1, h2, ao', c', e, h0, hnc, hn, hc⟩ := h
  simp only [Value.slice.injEq] at e
  obtain ⟨rfl, _, rfl⟩ := e
  have hx : L[k]? = some (L[k]'(by omega)) := List.getElem?_eq_getElem (by omega)
  generalize L[k]'(by omega) = o at hx
  cases ao with
  | none => have := (hn rfl).1; omega
  | some a => exact ⟨a, o, rfl, hx, hc a rfl k _ (sx_at hx)⟩
/-- An own list of texts. -/
def OwnS (w : World) (base : Nat) (v : Value) (n : Nat) (L : List (List UInt8)) : Prop := n = L.length ∧ w.ownsRow base 9 1 v n (sx L)
theorem OwnS.nil (w : World) (base : Nat) : OwnS w base (.slice none 0 0) 0 [] := ⟨rfl, World.ownsRow_nil _ _ _ _⟩
theorem OwnS.read {w : World} {base : Nat} {v : Value} {n : Nat} {L : List (List UInt8)} (h : OwnS w base v n L) (hn : n ≤ 1000000) : StrV w v n L := ⟨h.1, hn, Cells.own h.2 (by decide)⟩
theorem OwnS.shape {w : World} {base : Nat} {v : Value} {n : Nat} {L : List (List UInt8)} (h : OwnS w base v n L) : ∃ ao c, v = .slice ao n c := owns_shape h.2
theorem OwnS.later {w w' : World} {base : Nat} {v : Value} {n : Nat} {L : List (List UInt8)} (h : OwnS w base v n L) (hg : Grow w w') : OwnS w' base v n L := ⟨h.1, own_chg (F := []) h.2 (Chg.of_below hg) (by simp)⟩
theorem OwnS.chg {w w' : World} {base : Nat} {v : Value} {n : Nat} {L : List (List UInt8)} {F : List Nat} (h : OwnS w base v n L) (hc : Chg F w w') (hF : ∀ k, v.ownBlock = some k → k ∉ F) : OwnS w' base v n L := ⟨h.1, own_chg h.2 hc hF⟩
theorem OwnS.base {w : World} {base base' : Nat} {v : Value} {n : Nat} {L : List (List UInt8)} (h : OwnS w base v n L) (hb : base' ≤ base) : OwnS w base' v n L := ⟨h.1, owns_base h.2 hb⟩
/-- The block of a row, or that there is none. -/
theorem OwnS.block {w : World} {base : Nat} {ao : Option Addr} {n c : Nat} {L : List (List UInt8)} (h : OwnS w base (.slice ao n c) n L) (hn : 0 < n) : ∃ g, ao = some ⟨g, 0, none⟩ ∧ base ≤ g ∧ g < w.heap.size := by
  rcases h.2.2 with ⟨e, rfl⟩ | ⟨g, cap, cur, e, hb, hg, _⟩
  · omega
  · cases e
    exact ⟨g, rfl, hb, (Array.getElem?_eq_some_iff.1 hg).1⟩
theorem OwnS.set {w : World} {base g n c : Nat} {L : List (List UInt8)} (h : OwnS w base (.slice (some ⟨g, 0, none⟩) n c) n L) (j : Nat) (s : List UInt8) : OwnS (w.setCell ⟨g, j, none⟩ (.string (tx s))) base (.slice (some ⟨g, 0, none⟩) n c) n (L.set j s) := by
  refine ⟨by rw [List.length_set]; exact h.1, ?_⟩
  have := own_setV h.2 j (.string (tx s))
  rw [show sx (L.set j s) = (sx L).set j (.string (tx s)) by simp [sx, List.map_set]]
  exact this
theorem OwnS.cell {w : World} {base g n c : Nat} {L : List (List UInt8)} (h : OwnS w base (.slice (some ⟨g, 0, none⟩) n c) n L) {j : Nat} {s : List UInt8} (hj : L[j]? = some s) : w.cell? ⟨g, j, none⟩ = some (.string (tx s)) ∧ w.frozen? ⟨g, j, none⟩ = false := own_cell h.2 (sx_at hj)

/-- What place tells: -1 where it is not there. -/
def plcT (L : List (List UInt8)) (s : List UInt8) : Int := if s ∈ L then (idxT L s : Int) else -1
theorem plcT_in {L : List (List UInt8)} {s : List UInt8} (h : s ∈ L) : plcT L s = idxT L s := if_pos h
theorem plcT_out {L : List (List UInt8)} {s : List UInt8} (h : s ∉ L) : plcT L s = -1 := if_neg h

/-- What lies between, in a row that gets one text more. -/
def midT (L : List (List UInt8)) (k : Nat) (x : List UInt8) : List (List UInt8) := L.take k ++ x :: L.drop k
theorem midT_set {L : List (List UInt8)} {k : Nat} {x y : List UInt8} (hk : k ≤ L.length) : (midT L k x).set k y = midT L k y := by
  unfold midT
  rw [List.set_append_right _ _ (by simp; omega)]
  simp [Nat.min_eq_left hk]
theorem midT_down {L : List (List UInt8)} {k : Nat} {x : List UInt8} (hx : L[k]? = some x) : midT L (k + 1) x = midT L k x := by
  unfold midT
  have h1 := take_next hx
  obtain ⟨hl, he⟩ := List.getElem?_eq_some_iff.1 hx
  rw [h1, List.drop_eq_getElem_cons hl, he]
  simp
theorem midT_get {L : List (List UInt8)} {k j : Nat} {x y : List UInt8} (hj : j < k) (hy : L[j]? = some y) : (midT L k x)[j]? = some y := by
  have hl := (List.getElem?_eq_some_iff.1 hy).1
  unfold midT
  rw [List.getElem?_append_left (by simp; omega), List.getElem?_take, if_pos hj, hy]
theorem midT_here {L : List (List UInt8)} {k : Nat} {x : List UInt8} (hk : k ≤ L.length) : (midT L k x)[k]? = some x := by
  unfold midT
  rw [List.getElem?_append_right (by simp; omega)]
  simp [Nat.min_eq_left hk]
theorem midT_length (L : List (List UInt8)) (k : Nat) (x : List UInt8) : (midT L k x).length = L.length + 1 := by
  unfold midT
  simp
  omega
theorem midT_end (L : List (List UInt8)) (x : List UInt8) : midT L L.length x = L ++ [x] := by
  unfold midT
  simp

end Go.Proofs.YtlgfijjkbomejaaDoor
