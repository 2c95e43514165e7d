/- The copies of lists: 'copied' at int and at byte; what a slice value reads as. Numbers and types by name. -/
import Derived.Test.YthcdkggkoanjpaaGreatDoorOpr
import Derived.ProofKit
import Derived.Deep.Slices
import Derived.Deep.Fields
import Derived.Test.YthcdkggkoanjpaaGreatDoorMov
import Derived.Test.YthcdkggkoanjpaaGreatDoorKeys
import Derived.BigRegion
import Derived.RegionTactic
import Derived.ChangeAlike
namespace Go.Proofs.YthcdkggkoanjpaaGreatDoor
set_option maxRecDepth 100000
open Go.ChangeShapes Go.WideShapes Go.ChangeAt Go.RowKit Go.Lib Go.Deep
instance : Inhabited Opm := ⟨⟨false, ⟨#[]⟩, ⟨#[]⟩⟩⟩
theorem cellsOpK : Tryz.prog.cellsOf 65 = 3 := by kernel_rfl
theorem cellsBoolK : Tryz.prog.cellsOf 4 = 1 := by kernel_rfl
theorem cellsStrK : Tryz.prog.cellsOf 9 = 1 := by kernel_rfl
theorem open_op {H : Type} {enc : TypeId × Value → H} {W : World} {base : Nat} {spare : Nat → Bool} {held : Bool} {fuel : Nat} {cs : List Value} {x : DataW H × List MemPlace} (hl : cs.length = 3)
    (h : DataW.trod enc Tryz.prog W base spare held fuel 65 cs = some x) : ∃ o : Opm, cs = ov o ∧ o.key.size ≤ maxLen ∧ o.val.size ≤ maxLen := by
  obtain ⟨xs, n, _, _, _, hxl, hf⟩ := DataW.trod_struct Tryz.underlying65 h
  have g0 : DataW.trod enc Tryz.prog W base spare held n 4 ((cs.drop 0).take (Tryz.prog.cellsOf 4)) = xs[0]? := hf 0 _ rfl
  have g1 : DataW.trod enc Tryz.prog W base spare held n 9 ((cs.drop 1).take (Tryz.prog.cellsOf 9)) = xs[1]? := hf 1 _ rfl
  have g2 : DataW.trod enc Tryz.prog W base spare held n 9 ((cs.drop 2).take (Tryz.prog.cellsOf 9)) = xs[2]? := hf 2 _ rfl
  have hxl3 : xs.length = 3 := hxl
  rw [cellsBoolK] at g0
  rw [cellsStrK] at g1 g2
  match cs, hl with
  | [u0, u1, u2], _ =>
    rw [List.getElem?_eq_getElem (by omega)] at g0 g1 g2
    obtain ⟨b, e0, _⟩ := DataW.trod_bool Tryz.underlying4 g0
    obtain ⟨s, e1, _, z1⟩ := DataW.trod_string Tryz.underlying9 g1
    obtain ⟨t, e2, _, z2⟩ := DataW.trod_string Tryz.underlying9 g2
    refine ⟨⟨b, s, t⟩, ?_, z1, z2⟩
    simp only [List.drop_zero, List.drop_succ_cons, List.take_succ_cons, List.take_zero, List.cons.injEq, and_true] at e0 e1 e2
    rw [e0, e1, e2]
    rfl
theorem ovs_range (y : Nat → Opm) (n j : Nat) (hj : j < n * 3) : (ovs ((List.range n).map y))[j]? = (ov (y (j / 3)))[j % 3]? := by
  have hx : ((List.range n).map y)[j / 3]? = some (y (j / 3)) := by simp [show j / 3 < n by omega]
  have := ovs_at hx (j % 3) (Nat.mod_lt _ (by omega))
  rw [show j / 3 * 3 + j % 3 = j by omega] at this
  exact this
theorem open_ops {H : Type} {enc : TypeId × Value → H} {W : World} {base : Nat} {spare : Nat → Bool} {held : Bool} {fuel : Nat} {a0 : Option Addr} {len cap : Nat} {x : DataW H × List MemPlace}
    (h : DataW.trod enc Tryz.prog W base spare held fuel 52 [.slice a0 len cap] = some x) : ∃ L : List Opm, Opr W (.slice a0 len cap) len L := by
  rcases open_slice Tryz.underlying52 h with ⟨hcs, _⟩ | ⟨a, len', cap', m, n, D, Pl, hcs, _, hl, hm, hmm, _, hx⟩
  · simp only [List.cons.injEq, Value.slice.injEq, and_true] at hcs
    obtain ⟨rfl, rfl, rfl⟩ := hcs
    exact ⟨[], Opr.nil W⟩
  · simp only [List.cons.injEq, Value.slice.injEq, and_true] at hcs
    obtain ⟨rfl, rfl, rfl⟩ := hcs
    have hlm : len ≤ m := by rw [hmm]; split <;> omega
    rw [cellsOpK] at hx
    have each : ∀ i, i < len → ∃ o : Opm, (∀ k, k < 3 → W.cell? (a.add (i * 3 + k)) = (ov o)[k]?) ∧ o.key.size ≤ maxLen ∧ o.val.size ≤ maxLen := by
      intro i hi
      obtain ⟨cs', h1, h2⟩ := hx i (by omega)
      obtain ⟨_, hlen, hcell⟩ := World.cells?_some h1
      obtain ⟨o, rfl, z⟩ := open_op hlen h2
      exact ⟨o, fun k hk => by have := hcell k hk; rw [Addr.add_add] at this; exact this, z⟩
    obtain ⟨y, hy⟩ := choose_lt each
    refine ⟨(List.range len).map y, by simp, Nat.le_trans hl hm, ⟨some a, cap, rfl, by rw [ovs_length]; simp, hl, (fun e => by cases e), fun a' ha j u hj => ?_⟩, fun o ho => ?_⟩
    · cases ha
      have hj1 := (List.getElem?_eq_some_iff.1 hj).1
      rw [ovs_length] at hj1
      simp only [List.length_map, List.length_range] at hj1
      rw [ovs_range y len j hj1] at hj
      have := (hy (j / 3) (by omega)).1 (j % 3) (Nat.mod_lt _ (by omega))
      rw [show j / 3 * 3 + j % 3 = j by omega] at this
      rw [this, hj]
    · simp only [List.mem_map, List.mem_range] at ho
      obtain ⟨i, hi, rfl⟩ := ho
      exact (hy i hi).2
end Go.Proofs.YthcdkggkoanjpaaGreatDoor
namespace Go.Proofs.YthcdkggkoanjpaaGreatDoor
open Go.RowKit Go.Lib
def OpVals (w : World) (vs : List Value) (LL : List (List Opm)) : Prop :=
  vs.length = LL.length ∧ ∀ (j : Nat) (L : List Opm), LL[j]? = some L → ∃ ao c, vs[j]? = some (Value.slice ao L.length c) ∧ Opr w (.slice ao L.length c) L.length L
theorem OpVals.later {w w' : World} {vs : List Value} {LL : List (List Opm)} (h : OpVals w vs LL) (hg : Grow w w') : OpVals w' vs LL :=
  ⟨h.1, fun j L hj => by obtain ⟨ao, c, e1, e2⟩ := h.2 j L hj; exact ⟨ao, c, e1, e2.later hg⟩⟩
def Obs (w : World) (v : Value) (n : Nat) (LL : List (List Opm)) : Prop := n = LL.length ∧ n ≤ maxLen ∧ ∃ vs : List Value, Reads w v vs ∧ vs.length = n ∧ OpVals w vs LL
theorem Obs.shape {w : World} {v : Value} {n : Nat} {LL : List (List Opm)} (h : Obs w v n LL) : ∃ ao c, v = .slice ao n c := by
  obtain ⟨_, _, vs, ⟨ao, c, rfl, _⟩, hl, _⟩ := h
  exact ⟨ao, c, by rw [hl]⟩
theorem Obs.later {w w' : World} {v : Value} {n : Nat} {LL : List (List Opm)} (h : Obs w v n LL) (hg : Grow w w') : Obs w' v n LL := by
  obtain ⟨h1, h2, vs, hr, hl, hp⟩ := h
  exact ⟨h1, h2, vs, hr.later hg, hl, hp.later hg⟩
theorem Obs.nil (w : World) : Obs w (.slice none 0 0) 0 [] := ⟨rfl, Nat.zero_le _, [], Reads.nil w, rfl, rfl, fun j p h => by cases h⟩
theorem Obs.at {w : World} {ao : Option Addr} {n c : Nat} {LL : List (List Opm)} (h : Obs w (.slice ao n c) n LL) {k : Nat} (hk : k < n) :
    ∃ a L ap cp, ao = some a ∧ LL[k]? = some L ∧ w.cell? (a.add k) = some (.slice ap L.length cp) ∧ Opr w (.slice ap L.length cp) L.length L := by
  obtain ⟨h1, h2, vs, ⟨ao', c', e, _, hn, hc⟩, hl, hp⟩ := h
  simp only [Value.slice.injEq] at e
  obtain ⟨rfl, _, _⟩ := e
  have hx : LL[k]? = some (LL[k]'(by omega)) := List.getElem?_eq_getElem (by omega)
  obtain ⟨ap, cp, e1, e2⟩ := hp.2 k _ hx
  cases ao with
  | none => have := (hn rfl).1; subst this; simp at hl; omega
  | some a => exact ⟨a, _, ap, cp, rfl, hx, hc a rfl k _ e1, e2⟩
end Go.Proofs.YthcdkggkoanjpaaGreatDoor
namespace Go.Proofs.YthcdkggkoanjpaaGreatDoor
open Go.ChangeShapes Go.WideShapes Go.ChangeAt Go.RowKit Go.Lib Go.Deep
theorem cellsOpsK : Tryz.prog.cellsOf 52 = 1 := by kernel_rfl
theorem open_batches {H : Type} {enc : TypeId × Value → H} {W : World} {base : Nat} {spare : Nat → Bool} {held : Bool} {fuel : Nat} {a0 : Option Addr} {len cap : Nat} {x : DataW H × List MemPlace}
    (h : DataW.trod enc Tryz.prog W base spare held fuel 23 [.slice a0 len cap] = some x) : ∃ LL : List (List Opm), Obs W (.slice a0 len cap) len LL := by
  rcases open_slice1 Tryz.underlying23 cellsOpsK h with ⟨hcs, _⟩ | ⟨a, len', cap', m, n, V, D, Pl, hcs, _, hl, hm, hmm, _, hcell⟩
  · simp only [List.cons.injEq, Value.slice.injEq, and_true] at hcs
    obtain ⟨rfl, rfl, rfl⟩ := hcs
    exact ⟨[], Obs.nil W⟩
  · simp only [List.cons.injEq, Value.slice.injEq, and_true] at hcs
    obtain ⟨rfl, rfl, rfl⟩ := hcs
    have hlm : len ≤ m := by rw [hmm]; split <;> omega
    have each : ∀ i, i < len → ∃ y : Option Addr × Nat × List Opm, V i = .slice y.1 y.2.2.length y.2.1 ∧ Opr W (.slice y.1 y.2.2.length y.2.1) y.2.2.length y.2.2 := by
      intro i hi
      have h2 := (hcell i (by omega)).2
      obtain ⟨ai, li, ci, hv⟩ : ∃ ai li ci, V i = .slice ai li ci := by
        rcases open_slice Tryz.underlying52 h2 with ⟨e, _⟩ | ⟨b, l2, c2, _, _, _, _, e, _⟩
        · exact ⟨none, 0, 0, by simpa using e⟩
        · exact ⟨some b, l2, c2, by simpa using e⟩
      rw [hv] at h2
      obtain ⟨L, hL⟩ := open_ops h2
      have e := hL.1
      subst e
      exact ⟨(ai, ci, L), hv, hL⟩
    obtain ⟨y, hy⟩ := choose_lt each
    refine ⟨(List.range len).map fun i => (y i).2.2, by simp, Nat.le_trans hl hm, (List.range len).map V, ⟨some a, cap, by simp, by simpa using hl, (fun e => by cases e), fun a' ha j u hj => ?_⟩, by simp, by simp, fun j p hj => ?_⟩
    · cases ha
      have hj1 : j < len := by
        have := (List.getElem?_eq_some_iff.1 hj).1
        simpa using this
      rw [(hcell j (by omega)).1]
      simpa [hj1] using hj
    · have hj1 : j < len := by
        have := (List.getElem?_eq_some_iff.1 hj).1
        simpa using this
      have e : (y j).2.2 = p := by simpa [hj1] using hj
      obtain ⟨e1, e2⟩ := hy j hj1
      rw [e] at e1 e2
      exact ⟨(y j).1, (y j).2.1, by simp [hj1, e1], e2⟩
end Go.Proofs.YthcdkggkoanjpaaGreatDoor
namespace Go.Proofs.YthcdkggkoanjpaaGreatDoor
open Go.RowKit Go.Lib
theorem Bs.below {w w' : World} {base B : Nat} {v : Value} {n : Nat} {l : List UInt8} (h : Bs w base v n l) (hb : Below B w w') (hB : w.heap.size ≤ B) : Bs w' base v n l := by
  refine ⟨h.1, h.2.1, h.2.2.imp id ?_⟩
  rintro ⟨g, cap, cur, h1, h2, h3, h4⟩
  refine ⟨g, cap, cur, h1, h2, ?_, h4⟩
  rw [hb.block g (by have := (h.2.lt g (by rw [h1]; rfl)).2; omega)]
  exact h3
theorem Bs.empty (w : World) (base : Nat) (hb : base ≤ w.heap.size) : Bs (w.alloc (.cells #[] 5)) base (.slice (some ⟨w.heap.size, 0, none⟩) 0 0) 0 [] :=
  ⟨rfl, rfl, .inr ⟨w.heap.size, 0, #[], rfl, hb, heap_alloc_new w _, Nat.le_refl _, Nat.zero_le _, rfl, rfl⟩⟩
theorem heap_set {w : World} {b : Nat} {cs : Array Value} {t : TypeId} {fr : Nat × Nat} (h : w.heap[b]? = some (.cells cs t fr)) (j : Nat) (v : Value) : (w.setCell ⟨b, j, none⟩ v).heap[b]? = some (.cells (cs.setIfInBounds j v) t fr) := by
  simp [World.setCell, Array.getElem?_modify, h]
theorem below_set {w w' : World} {B g : Nat} (h : Below B w w') (hg : B ≤ g) (j : Nat) (v : Value) : Below B w (w'.setCell ⟨g, j, none⟩ v) :=
  ⟨h.os, h.tape, h.output, by simpa [World.setCell] using h.size, fun k hk => (Below.heap_setCell _ _ _ _ (by show k ≠ g; omega)).trans (h.block k hk)⟩
end Go.Proofs.YthcdkggkoanjpaaGreatDoor
namespace Go.Proofs.YthcdkggkoanjpaaGreatDoor
open Go.RowKit
structure DS where
  cap : Int
  cr : Int
  sz : Int
  ca : Int
  dn : Bool
  dw : Bool
  fl : Value
  kp : Value
  fs : Value
def DS.cells (s : DS) : Array Value := #[.int .i64 s.cap, s.fl, .int .i64 s.cr, .bool s.dn, s.kp, s.fs, .int .i64 s.sz, .int .i64 s.ca, .bool s.dw]
def DiskC (w : World) (b : Nat) (s : DS) : Prop := w.heap[b]? = some (.cells s.cells 76 (0, 0))
theorem cells_of {w : World} {b : Nat} {cs : Array Value} {t : TypeId} (h : w.heap[b]? = some (.cells cs t (0, 0))) (j : Nat) (v : Value) (hj : cs[j]? = some v) : w.cell? ⟨b, j, none⟩ = some v := by
  simp only [World.cell?, h]
  simpa using hj
theorem free_of {w : World} {b : Nat} {cs : Array Value} {t : TypeId} (h : w.heap[b]? = some (.cells cs t (0, 0))) (j : Nat) : w.frozen? ⟨b, j, none⟩ = false := by
  simp [World.frozen?, h]
theorem lt_of {w : World} {b : Nat} {o : Obj} (h : w.heap[b]? = some o) : b < w.heap.size := (Array.getElem?_eq_some_iff.1 h).1
theorem heap_set_ne {w : World} {b c : Nat} {o : Option Obj} (h : w.heap[b]? = o) (hne : b ≠ c) (j : Nat) (v : Value) : (w.setCell ⟨c, j, none⟩ v).heap[b]? = o := by
  rw [← h]; exact Below.heap_setCell _ _ _ _ hne
structure Turn (F : List Nat) (w w' : World) : Prop where
  os : w'.os = w.os
  tape : w'.tape = w.tape
  output : w'.output = w.output
  size : w.heap.size ≤ w'.heap.size
  block : ∀ k, k < w.heap.size → k ∉ F → w'.heap[k]? = w.heap[k]?
theorem Reads.turn {w w' : World} {v : Value} {xs : List Value} {F : List Nat} (h : Reads w v xs) (t : Turn F w w') (hF : xs ≠ [] → ∀ a n c, v = .slice (some a) n c → a.block ∉ F) : Reads w' v xs := by
  obtain ⟨ao, cap, rfl, h0, h1, h2⟩ := h
  refine ⟨ao, cap, rfl, h0, h1, fun a ha j u hj => ?_⟩
  have h3 := h2 a ha j u hj
  have hb : (a.add j).block = a.block := by unfold Addr.add; split <;> rfl
  have hlt := World.block_lt_of_cell? w _ h3
  rw [hb] at hlt
  rw [← h3]
  exact World.cell?_of_block (by rw [hb]; exact t.block a.block hlt (hF (by rintro rfl; cases hj) a _ _ (by rw [ha])))
theorem Reads.lt {w : World} {v : Value} {xs : List Value} (h : Reads w v xs) (hx : xs ≠ []) : ∀ a n c, v = .slice (some a) n c → a.block < w.heap.size := by
  obtain ⟨ao, cap, rfl, h0, h1, h2⟩ := h
  intro a n c e
  simp only [Value.slice.injEq] at e
  match xs, hx with
  | u :: xs, _ =>
    have h3 := h2 a e.1 0 u rfl
    have hlt := World.block_lt_of_cell? w _ h3
    have hb : (a.add 0).block = a.block := by unfold Addr.add; split <;> rfl
    rw [hb] at hlt
    exact hlt
theorem Reads.taken {w : World} {ao : Option Addr} {len c : Nat} {xs : List Value} (h : Reads w (.slice ao len c) xs) (n : Nat) (hn : n ≤ len) : Reads w (.slice ao n c) (xs.take n) := by
  obtain ⟨ao', cap, e, h0, h1, h2⟩ := h
  simp only [Value.slice.injEq] at e
  obtain ⟨rfl, rfl, rfl⟩ := e
  refine ⟨ao, c, by simp [Nat.min_eq_left hn], by rw [List.length_take]; omega, fun e => ?_, fun a ha j u hj => ?_⟩
  · obtain ⟨h3, h4⟩ := h1 e
    exact ⟨by simp [h3], h4⟩
  · rw [List.getElem?_take] at hj
    split at hj
    · exact h2 a ha j u hj
    · cases hj
theorem Turn.refl (F : List Nat) (w : World) : Turn F w w := ⟨rfl, rfl, rfl, Nat.le_refl _, fun _ _ _ => rfl⟩
theorem Turn.of_grown {w w' : World} {row : Option Nat} {F : List Nat} (h : w.grownBy w' row) (hr : ∀ k, row = some k → k ∈ F) : Turn F w w' :=
  ⟨h.os, h.tape, h.output, h.size, fun k hk hn => h.block k hk (fun e => hn (hr k e.symm))⟩
theorem Turn.of_none {w w' : World} {F : List Nat} (h : w.grownBy w' none) : Turn F w w' := Turn.of_grown h (by intro k e; cases e)
theorem Turn.trans' {F G : List Nat} {a b c : World} (h : Turn F a b) (k : Turn G b c) (hG : ∀ x, x ∈ G → x ∈ F ∨ a.heap.size ≤ x) : Turn F a c :=
  ⟨k.os.trans h.os, k.tape.trans h.tape, k.output.trans h.output, Nat.le_trans h.size k.size, fun i hi hn =>
    (k.block i (Nat.lt_of_lt_of_le hi h.size) (fun hm => (hG i hm).elim hn (fun e => by omega))).trans (h.block i hi hn)⟩
theorem Turn.trans {F : List Nat} {a b c : World} (h : Turn F a b) (k : Turn F b c) : Turn F a c := h.trans' k fun _ hx => .inl hx
theorem Turn.mono {F G : List Nat} {a b : World} (h : Turn F a b) (hFG : ∀ x, x ∈ F → x ∈ G) : Turn G a b := ⟨h.os, h.tape, h.output, h.size, fun k hk hn => h.block k hk fun e => hn (hFG k e)⟩
theorem Turn.set {F : List Nat} {a w : World} (h : Turn F a w) {c : Nat} (hc : c ∈ F ∨ a.heap.size ≤ c) (j : Nat) (v : Value) : Turn F a (w.setCell ⟨c, j, none⟩ v) :=
  ⟨h.os, h.tape, h.output, by have := h.size; simpa [World.setCell] using this, fun i hi hn => (Below.heap_setCell _ _ _ _ (by show i ≠ c; rintro rfl; exact hc.elim hn (fun e => by omega))).trans (h.block i hi hn)⟩
theorem Turn.alloc {F : List Nat} {a w : World} (h : Turn F a w) (o : Obj) : Turn F a (w.alloc o) := h.trans (Turn.of_none (World.grownBy_alloc w o none))
theorem Turn.drew {F : List Nat} {a w : World} (h : Turn F a w) : Turn F a w.drew := ⟨h.os, h.tape, h.output, h.size, h.block⟩
theorem Turn.drewN {F : List Nat} {a w : World} (h : Turn F a w) (n : Nat) : Turn F a (w.drewN n) := ⟨h.os, h.tape, h.output, h.size, h.block⟩
theorem Turn.heap {F : List Nat} {a w : World} (h : Turn F a w) {k : Nat} {o : Obj} (hk : a.heap[k]? = some o) (hn : k ∉ F) : w.heap[k]? = some o := (h.block k (lt_of hk) hn).trans hk
theorem Turn.below {F : List Nat} {a w : World} (h : Turn F a w) {B : Nat} (hB : B ≤ a.heap.size) (hF : ∀ x, x ∈ F → B ≤ x) : Below B a w :=
  ⟨h.os, h.tape, h.output, h.size, fun k hk => h.block k (by omega) (fun e => by have := hF k e; omega)⟩
theorem DiskC.c0 {w : World} {b : Nat} {s : DS} (h : DiskC w b s) : w.cell? ⟨b, 0, none⟩ = some (.int .i64 s.cap) := cells_of h 0 _ rfl
theorem DiskC.c1 {w : World} {b : Nat} {s : DS} (h : DiskC w b s) : w.cell? ⟨b, 1, none⟩ = some (s.fl) := cells_of h 1 _ rfl
theorem DiskC.c2 {w : World} {b : Nat} {s : DS} (h : DiskC w b s) : w.cell? ⟨b, 2, none⟩ = some (.int .i64 s.cr) := cells_of h 2 _ rfl
theorem DiskC.c3 {w : World} {b : Nat} {s : DS} (h : DiskC w b s) : w.cell? ⟨b, 3, none⟩ = some (.bool s.dn) := cells_of h 3 _ rfl
theorem DiskC.c4 {w : World} {b : Nat} {s : DS} (h : DiskC w b s) : w.cell? ⟨b, 4, none⟩ = some (s.kp) := cells_of h 4 _ rfl
theorem DiskC.c5 {w : World} {b : Nat} {s : DS} (h : DiskC w b s) : w.cell? ⟨b, 5, none⟩ = some (s.fs) := cells_of h 5 _ rfl
theorem DiskC.c6 {w : World} {b : Nat} {s : DS} (h : DiskC w b s) : w.cell? ⟨b, 6, none⟩ = some (.int .i64 s.sz) := cells_of h 6 _ rfl
theorem DiskC.c7 {w : World} {b : Nat} {s : DS} (h : DiskC w b s) : w.cell? ⟨b, 7, none⟩ = some (.int .i64 s.ca) := cells_of h 7 _ rfl
theorem DiskC.c8 {w : World} {b : Nat} {s : DS} (h : DiskC w b s) : w.cell? ⟨b, 8, none⟩ = some (.bool s.dw) := cells_of h 8 _ rfl
theorem DiskC.free {w : World} {b : Nat} {s : DS} (h : DiskC w b s) (j : Nat) : w.frozen? ⟨b, j, none⟩ = false := free_of h j
theorem DiskC.lt {w : World} {b : Nat} {s : DS} (h : DiskC w b s) : b < w.heap.size := lt_of h
theorem DiskC.turn {F : List Nat} {w w' : World} {b : Nat} {s : DS} (h : DiskC w b s) (t : Turn F w w') (hb : b ∉ F) : DiskC w' b s := t.heap h hb
theorem DiskC.setNe {w : World} {b : Nat} {s : DS} (h : DiskC w b s) {c : Nat} (hc : b ≠ c) (j : Nat) (v : Value) : DiskC (w.setCell ⟨c, j, none⟩ v) b s := heap_set_ne h hc j v
theorem DiskC.set0 {w : World} {b : Nat} {s : DS} (h : DiskC w b s) (x : Int) : DiskC (w.setCell ⟨b, 0, none⟩ (.int .i64 x)) b { s with cap := x } := by
  have := heap_set h 0 (.int .i64 x)
  simpa [DiskC, DS.cells] using this
theorem DiskC.set1 {w : World} {b : Nat} {s : DS} (h : DiskC w b s) (x : Value) : DiskC (w.setCell ⟨b, 1, none⟩ (x)) b { s with fl := x } := by
  have := heap_set h 1 (x)
  simpa [DiskC, DS.cells] using this
theorem DiskC.set2 {w : World} {b : Nat} {s : DS} (h : DiskC w b s) (x : Int) : DiskC (w.setCell ⟨b, 2, none⟩ (.int .i64 x)) b { s with cr := x } := by
  have := heap_set h 2 (.int .i64 x)
  simpa [DiskC, DS.cells] using this
theorem DiskC.set3 {w : World} {b : Nat} {s : DS} (h : DiskC w b s) (x : Bool) : DiskC (w.setCell ⟨b, 3, none⟩ (.bool x)) b { s with dn := x } := by
  have := heap_set h 3 (.bool x)
  simpa [DiskC, DS.cells] using this
theorem DiskC.set4 {w : World} {b : Nat} {s : DS} (h : DiskC w b s) (x : Value) : DiskC (w.setCell ⟨b, 4, none⟩ (x)) b { s with kp := x } := by
  have := heap_set h 4 (x)
  simpa [DiskC, DS.cells] using this
theorem DiskC.set5 {w : World} {b : Nat} {s : DS} (h : DiskC w b s) (x : Value) : DiskC (w.setCell ⟨b, 5, none⟩ (x)) b { s with fs := x } := by
  have := heap_set h 5 (x)
  simpa [DiskC, DS.cells] using this
theorem DiskC.set6 {w : World} {b : Nat} {s : DS} (h : DiskC w b s) (x : Int) : DiskC (w.setCell ⟨b, 6, none⟩ (.int .i64 x)) b { s with sz := x } := by
  have := heap_set h 6 (.int .i64 x)
  simpa [DiskC, DS.cells] using this
theorem DiskC.set7 {w : World} {b : Nat} {s : DS} (h : DiskC w b s) (x : Int) : DiskC (w.setCell ⟨b, 7, none⟩ (.int .i64 x)) b { s with ca := x } := by
  have := heap_set h 7 (.int .i64 x)
  simpa [DiskC, DS.cells] using this
theorem DiskC.set8 {w : World} {b : Nat} {s : DS} (h : DiskC w b s) (x : Bool) : DiskC (w.setCell ⟨b, 8, none⟩ (.bool x)) b { s with dw := x } := by
  have := heap_set h 8 (.bool x)
  simpa [DiskC, DS.cells] using this
end Go.Proofs.YthcdkggkoanjpaaGreatDoor
namespace Go.Proofs.YthcdkggkoanjpaaGreatDoor
open Go.RowKit Go.Maps Go.Sort
theorem grown_of_below {w w' : World} (h : Below w.heap.size w w') : w.grownBy w' none := ⟨h.os, h.tape, h.output, h.size, fun k hk _ => h.block k hk⟩
set_option maxHeartbeats 1000000 in
theorem names_some {H : Type} (b m nn : Nat) (s : DS) (D0 : DataW H) (R : Value → Option (DataW H × List MemPlace)) (w : World) (hd : DiskC w b s) (hs : s.fs = .map (some m)) (hown : w.ownsMap Tryz.prog 9 R m nn D0)
    (hmax : Maps.size D0 ≤ maxLen) (hbytes : Maps.size D0 * 16 ≤ 140737488355328) :
    Calls Tryz.prog 42 #[.pointer (some ⟨b, 0, none⟩)] w fun e w' => ∃ (v : Value) (ss : List (List UInt8)), e = .returned v ∧ ss.Perm (strKeys D0) ∧
      w'.ownsRow w.heap.size 9 1 v ss.length ((ss.mergeSort (fun x y => decide (x ≤ y))).map encStr) ∧ (v = .slice none 0 0 ↔ ss = []) ∧ w.grownBy w' none := by
  have c5 := cells_of hd 5 (.map (some m)) (by simp [DS.cells, hs])
  have H1 : Hid (Maps.size D0 ≤ maxLen) := Lib.hid hmax
  have H2 : Hid (Maps.size D0 * 16 ≤ 140737488355328) := Lib.hid hbytes
  clear hmax hbytes hs hd
  go_enter Tryz.func42, Tryz.ntmps42
  go_wp2_with (first
    | (go_at_call 80; refine (callsIn_wide.1 (Tryz.maps_Keys_80 _ _)).mono ?_; rintro e w' ⟨rfl, rfl⟩)
    | (go_at_call 79; refine (callsIn_wide.1 (Tryz.slices_Sorted_keys_79_80 m nn D0 R w hown H1.out H2.out)).mono ?_; rintro e w' ⟨v, ss, rfl, hS, hrow, hnil, hb⟩))
  go_ret
  exact ⟨v, ss, rfl, hS, owns_base hrow (by simp), hnil, grown_of_below (((Below.refl _ w).alloc (Nat.le_refl _) _).trans (hb.mono (by simp)))⟩
set_option maxHeartbeats 1000000 in
theorem names_none (b : Nat) (s : DS) (w : World) (hd : DiskC w b s) (hs : s.fs = .map none) :
    Calls Tryz.prog 42 #[.pointer (some ⟨b, 0, none⟩)] w fun e w' => e = .returned (.slice none 0 0) ∧ w.grownBy w' none := by
  have c5 := cells_of hd 5 (.map none) (by simp [DS.cells, hs])
  clear hs hd
  go_enter Tryz.func42, Tryz.ntmps42
  go_wp2_with (first
    | (go_at_call 80; refine (callsIn_wide.1 (Tryz.maps_Keys_80 _ _)).mono ?_; rintro e w' ⟨rfl, rfl⟩)
    | (go_at_call 79; refine (callsIn_wide.1 (Tryz.slices_Sorted_keys_nil_79_80 w)).mono ?_; rintro e w' ⟨v, ss, rfl, hS, hrow, hnil, hb⟩))
  go_ret
  exact ⟨by rw [hnil.2 hS]; rfl, grown_of_below (((Below.refl _ w).alloc (Nat.le_refl _) _).trans (hb.mono (by simp)))⟩
def FileC (w : World) (f : Nat) (v : Value) (sy : Int) : Prop := w.heap[f]? = some (.cells #[v, .int .i64 sy] 101 (0, 0))
theorem FileC.c0 {w : World} {f : Nat} {v : Value} {sy : Int} (h : FileC w f v sy) : w.cell? ⟨f, 0, none⟩ = some v := cells_of h 0 _ rfl
theorem FileC.c1 {w : World} {f : Nat} {v : Value} {sy : Int} (h : FileC w f v sy) : w.cell? ⟨f, 1, none⟩ = some (.int .i64 sy) := cells_of h 1 _ rfl
theorem FileC.free {w : World} {f : Nat} {v : Value} {sy : Int} (h : FileC w f v sy) (j : Nat) : w.frozen? ⟨f, j, none⟩ = false := free_of h j
theorem FileC.lt {w : World} {f : Nat} {v : Value} {sy : Int} (h : FileC w f v sy) : f < w.heap.size := lt_of h
theorem FileC.turn {F : List Nat} {w w' : World} {f : Nat} {v : Value} {sy : Int} (h : FileC w f v sy) (t : Turn F w w') (hb : f ∉ F) : FileC w' f v sy := t.heap h hb
theorem FileC.setNe {w : World} {f : Nat} {v : Value} {sy : Int} (h : FileC w f v sy) {c : Nat} (hc : f ≠ c) (j : Nat) (x : Value) : FileC (w.setCell ⟨c, j, none⟩ x) f v sy := heap_set_ne h hc j x
theorem FileC.set0 {w : World} {f : Nat} {v : Value} {sy : Int} (h : FileC w f v sy) (x : Value) : FileC (w.setCell ⟨f, 0, none⟩ x) f x sy := by
  have := heap_set h 0 x
  simpa [FileC] using this
theorem FileC.set1 {w : World} {f : Nat} {v : Value} {sy : Int} (h : FileC w f v sy) (x : Int) : FileC (w.setCell ⟨f, 1, none⟩ (.int .i64 x)) f v x := by
  have := heap_set h 1 (.int .i64 x)
  simpa [FileC] using this
theorem shorten_any (b f : Nat) (s : DS) (ao : Option Addr) (len cap : Nat) (sy : Int) (n : Nat) (w : World) (hd : DiskC w b s) (hf : FileC w f (.slice ao len cap) sy) (hn : n ≤ len) (hc : len ≤ cap) (_hm : cap ≤ 9223372036854775807) (hne : b ≠ f)
    (hs0 : (len : Int) - n ≤ s.sz) (hs1 : s.sz ≤ 9223372036854775807) :
    Calls Tryz.prog 43 #[.pointer (some ⟨b, 0, none⟩), .pointer (some ⟨f, 0, none⟩), .int .i64 n] w fun e w' => e = .returned (.tuple #[]) ∧
      DiskC w' b { s with sz := s.sz - (len - n) } ∧ FileC w' f (.slice ao n cap) (min sy n) ∧ Turn [b, f] w w' := by
  have d6 := hd.c6
  have e6 := hd.free 6
  have f0 := cells_of hf 0 (.slice ao len cap) rfl
  have f1 := cells_of hf 1 (.int .i64 sy) rfl
  have g0 := free_of hf 0
  have g1 := free_of hf 1
  have hne' : ¬ b = f := hne
  have hne2 : ¬ f = b := fun h => hne h.symm
  go_enter Tryz.func43, Tryz.ntmps43
  go_wp2
  go_region
  all_goals go_wp2
  all_goals go_end0
  have k1 : DiskC (w.setCell ⟨b, 6, none⟩ (.int .i64 (s.sz - (len - n)))) b { s with sz := s.sz - (len - n) } := hd.set6 _
  have k2 : FileC (w.setCell ⟨b, 6, none⟩ (.int .i64 (s.sz - (len - n)))) f (.slice ao len cap) sy := hf.setNe hne2 _ _
  exact ⟨rfl, (k1.setNe hne 0 _).setNe hne 1 _, (k2.set0 _).set1 _, ((((Turn.refl _ _).set (.inl (by simp)) _ _).set (.inl (by simp)) _ _).set (.inl (by simp)) _ _).drew⟩
end Go.Proofs.YthcdkggkoanjpaaGreatDoor
namespace Go.Proofs.YthcdkggkoanjpaaGreatDoor
open Go.RowKit
theorem copied_int (v : Value) (zs : List Int) (w : World) (hr : Reads w v (iv zs)) (hz : zs.length * 8 ≤ 140737488355328) :
    Calls Tryz.prog 62 #[v] w fun e w' => ∃ ao c, e = .returned (.slice ao zs.length c) ∧ w'.ownsRow w.heap.size 3 1 (.slice ao zs.length c) zs.length (iv zs) ∧ w.grownBy w' none := by
  obtain ⟨i0, hi, hz0, hz1, hz2⟩ := info_parts info_int
  obtain ⟨ao, cap, rfl, _, hn, hc⟩ := hr
  rw [iv_length]
  cases ao with
  | none =>
    obtain ⟨h0, rfl⟩ := hn rfl
    obtain rfl : zs = [] := by simpa [iv] using h0
    have hrun := fun ty => run_append_owned_none (P := Tryz.prog) w w.heap.size 29 ty 3 i0 1 Tryz.underlying29 hi (.slice none 0 0) 0 [] (World.ownsRow_nil _ _ _ _)
    clear hn hc
    go_enter Tryz.func62, Tryz.ntmps62
    go_wp2
    go_ret
    exact ⟨none, 0, rfl, World.ownsRow_nil _ _ _ _, ⟨rfl, rfl, rfl, Nat.le_refl _, fun _ _ _ => rfl⟩⟩
  | some a =>
    have hc' := hc a rfl
    have hl := iv_length zs
    have H1 : Hid ((iv zs).length = zs.length * 1) := Lib.hid (by rw [hl]; omega)
    have H2 : Hid (0 + zs.length ≤ maxLen) := Lib.hid (by unfold maxLen; omega)
    have H3 : Hid ((0 + zs.length) * 8 ≤ 140737488355328) := Lib.hid (by omega)
    clear hn hc hl hz
    have h1 := iv_one zs
    generalize iv zs = xs at *
    go_enter Tryz.func62, Tryz.ntmps62
    go_wp2_with (at_builtin; refine wpList_append_own _ rfl _ _ 29 rfl w.heap.size 3 i0 (.int .i64 0) 1 8 Tryz.underlying29 hi hz0 hz1 hz2 rfl (by decide) _ 0 [] rfl (World.ownsRow_nil _ _ _ _) a zs.length cap xs rfl H1.out hc' h1 H2.out H3.out (Nat.le_refl _) ?_; intro v' w1 hown hgrow _)
    go_ret
    simp only [Nat.zero_add, List.nil_append] at hown
    obtain ⟨ao, c, rfl⟩ := owns_shape hown
    exact ⟨ao, c, rfl, hown, hgrow⟩
theorem copied_byte (v : Value) (l : List UInt8) (w : World) (hr : Reads w v (bv l)) (hz : l.length ≤ 140737488355328) :
    Calls Tryz.prog 59 #[v] w fun e w' => ∃ ao c, e = .returned (.slice ao l.length c) ∧ w'.ownsRow w.heap.size 5 1 (.slice ao l.length c) l.length (bv l) ∧ w.grownBy w' none := by
  obtain ⟨i0, hi, hz0, hz1, hz2⟩ := info_parts info_byte
  obtain ⟨ao, cap, rfl, _, hn, hc⟩ := hr
  rw [bv_length]
  cases ao with
  | none =>
    obtain ⟨h0, rfl⟩ := hn rfl
    obtain rfl : l = [] := by simpa [bv] using h0
    have hrun := fun ty => run_append_owned_none (P := Tryz.prog) w w.heap.size 24 ty 5 i0 1 Tryz.underlying24 hi (.slice none 0 0) 0 [] (World.ownsRow_nil _ _ _ _)
    clear hn hc
    go_enter Tryz.func59, Tryz.ntmps59
    go_wp2
    go_ret
    exact ⟨none, 0, rfl, World.ownsRow_nil _ _ _ _, ⟨rfl, rfl, rfl, Nat.le_refl _, fun _ _ _ => rfl⟩⟩
  | some a =>
    have hc' := hc a rfl
    have hl := bv_length l
    have H1 : Hid ((bv l).length = l.length * 1) := Lib.hid (by rw [hl]; omega)
    have H2 : Hid (0 + l.length ≤ maxLen) := Lib.hid (by unfold maxLen; omega)
    have H3 : Hid ((0 + l.length) * 1 ≤ 140737488355328) := Lib.hid (by omega)
    clear hn hc hl hz
    have h1 := bv_one l
    generalize bv l = xs at *
    go_enter Tryz.func59, Tryz.ntmps59
    go_wp2_with (at_builtin; refine wpList_append_own _ rfl _ _ 24 rfl w.heap.size 5 i0 (.int .u8 0) 1 1 Tryz.underlying24 hi hz0 hz1 hz2 rfl (by decide) _ 0 [] rfl (World.ownsRow_nil _ _ _ _) a l.length cap xs rfl H1.out hc' h1 H2.out H3.out (Nat.le_refl _) ?_; intro v' w1 hown hgrow _)
    go_ret
    simp only [Nat.zero_add, List.nil_append] at hown
    obtain ⟨ao, c, rfl⟩ := owns_shape hown
    exact ⟨ao, c, rfl, hown, hgrow⟩
end Go.Proofs.YthcdkggkoanjpaaGreatDoor
