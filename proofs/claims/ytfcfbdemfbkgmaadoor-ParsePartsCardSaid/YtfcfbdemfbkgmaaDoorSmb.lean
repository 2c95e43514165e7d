/- The reference's comparing of trees: nodes, texts, expressions. Numbers and types by name. -/
import Derived.Test.YtfcfbdemfbkgmaaDoorSma
import Derived.Test.YtfcfbdemfbkgmaaDoorPer
namespace Go.Proofs.YtfcfbdemfbkgmaaDoor
open Go.RowKit Go.Lib
set_option maxRecDepth 100000

/-- What comparing tells. -/
def Cmp (X : Prop) (w : World) (e : Ending) (w' : World) : Prop := ∃ b : Bool, e = .returned (.bool b) ∧ (b = true ↔ X) ∧ Grow w w'
theorem er_take_next {α β : Type} (f : α → β) {a b : List α} {k : Nat} {x y : α} (hx : a[k]? = some x) (hy : b[k]? = some y) (h : (a.take k).map f = (b.take k).map f) (hf : f x = f y) : (a.take (k + 1)).map f = (b.take (k + 1)).map f := by
  rw [take_next hx, take_next hy, List.map_append, List.map_append, h]
  simp [hf]
theorem map_at {α β : Type} (f : α → β) {a b : List α} {k : Nat} {x y : α} (hx : a[k]? = some x) (hy : b[k]? = some y) (h : a.map f = b.map f) : f x = f y := by
  have := congrArg (·[k]?) h
  simpa [List.getElem?_map, hx, hy] using this

theorem two_new (w : World) (o p : Obj) : ((w.alloc o).alloc p).drew.heap[w.heap.size]? = some o ∧ ((w.alloc o).alloc p).drew.heap[w.heap.size + 1]? = some p ∧ Grow w ((w.alloc o).alloc p).drew := by
  have hsz : (w.alloc o).heap.size = w.heap.size + 1 := by simp
  refine ⟨(heap_alloc_old (w.alloc o) p (by rw [hsz]; exact Nat.lt_succ_self _)).trans (heap_alloc_new w o), ?_, (((Below.refl _ w).alloc (Nat.le_refl _) _).alloc (by simp) _).drew⟩
  have := heap_alloc_new (w.alloc o) p
  rw [hsz] at this
  exact this
set_option maxHeartbeats 4000000 in
theorem cmp_nodes (t1 t2 : Bool) (v1 v2 : Value) (a b : List Nd) (w : World) (h1 : NodesT t1 w v1 a) (h2 : NodesT t2 w v2 b) :
    Calls Tryd.prog 55 #[v1, v2] w (Cmp (a.map Nd.er = b.map Nd.er) w) := by
  obtain ⟨a1, c1, rfl⟩ := h1.shape
  obtain ⟨a2, c2, rfl⟩ := h2.shape
  have m1 := h1.1
  have m2 := h2.1
  have hml : a.length ≤ 9223372036854775807 := Nat.le_trans m1 (by decide)
  have H1 := Lib.hid h1
  have H2 := Lib.hid h2
  clear h1 h2
  obtain ⟨n, hn⟩ : ∃ n, a.length = n := ⟨_, rfl⟩
  obtain ⟨m, hm⟩ : ∃ n, b.length = n := ⟨_, rfl⟩
  rw [hn] at H1 m1 hml ⊢
  rw [hm] at H2 m2 ⊢
  have HN := Lib.hid (And.intro hn hm)
  clear hn hm
  by_cases hne : n = m
  · subst hne
    go_enter Tryd.func55, Tryd.ntmps55
    go_wp2_with fail
    go_loopw [5] (fun i wr => ∃ k : Nat, k ≤ n ∧ i = .int .i64 k ∧ Hid (Grow w wr ∧ (a.take k).map Nd.er = (b.take k).map Nd.er))
      (fun i _ => n - (RowKit.intOf i).toNat)
    case atStart => exact ⟨0, Nat.zero_le _, rfl, Lib.hid ⟨Grow.refl w, rfl⟩⟩
    case round =>
      obtain ⟨k, hk, rfl, hG⟩ := hrel
      by_cases h1 : k < n
      · have h3 : (k : Int) < (n : Int) := by omega
        obtain ⟨x1, o1, s1, rfl, e1, ⟨z1, rfl, _⟩, _, g1⟩ := (H1.out.later hG.out.1).at h1
        obtain ⟨x2, o2, s2, rfl, e2, ⟨z2, rfl, _⟩, _, g2⟩ := (H2.out.later hG.out.1).at h1
        have HE := Lib.hid (And.intro e1 e2)
        clear e1 e2
        have r1 := fun o : Obj => g1.later ((Below.refl _ wr).alloc (Nat.le_refl _) o)
        have r2 := fun o : Obj => g2.later ((Below.refl _ wr).alloc (Nat.le_refl _) o)
        have q1 := fun o p : Obj => (r1 o).later ((Below.refl _ (wr.alloc o)).alloc (Nat.le_refl _) p)
        have q2 := fun o p : Obj => (r2 o).later ((Below.refl _ (wr.alloc o)).alloc (Nat.le_refl _) p)
        obtain ⟨k1, m1, n1, l1, i1, j1, p1⟩ := o1
        obtain ⟨k2, m2, n2, l2, i2, j2, p2⟩ := o2
        have a0 := g1.1 _ rfl
        have a1 := g1.2 1 _ (by decide) rfl
        have a2 := g1.2 2 _ (by decide) rfl
        have a3 := g1.2 3 _ (by decide) rfl
        have a4 := g1.2 4 _ (by decide) rfl
        have a5 := g1.2 5 _ (by decide) rfl
        have a6 := g1.2 6 _ (by decide) rfl
        have b0 := g2.1 _ rfl
        have b1 := g2.2 1 _ (by decide) rfl
        have b2 := g2.2 2 _ (by decide) rfl
        have b3 := g2.2 3 _ (by decide) rfl
        have b4 := g2.2 4 _ (by decide) rfl
        have b5 := g2.2 5 _ (by decide) rfl
        have b6 := g2.2 6 _ (by decide) rfl
        have c0 := fun o : Obj => (r1 o).1 _ rfl
        have c1 := fun o : Obj => (r1 o).2 1 _ (by decide) rfl
        have c2 := fun o : Obj => (r1 o).2 2 _ (by decide) rfl
        have c3 := fun o : Obj => (r1 o).2 3 _ (by decide) rfl
        have c4 := fun o : Obj => (r1 o).2 4 _ (by decide) rfl
        have c5 := fun o : Obj => (r1 o).2 5 _ (by decide) rfl
        have c6 := fun o : Obj => (r1 o).2 6 _ (by decide) rfl
        have d0 := fun o : Obj => (r2 o).1 _ rfl
        have d1 := fun o : Obj => (r2 o).2 1 _ (by decide) rfl
        have d2 := fun o : Obj => (r2 o).2 2 _ (by decide) rfl
        have d3 := fun o : Obj => (r2 o).2 3 _ (by decide) rfl
        have d4 := fun o : Obj => (r2 o).2 4 _ (by decide) rfl
        have d5 := fun o : Obj => (r2 o).2 5 _ (by decide) rfl
        have d6 := fun o : Obj => (r2 o).2 6 _ (by decide) rfl
        have e0 := fun o p : Obj => (q1 o p).1 _ rfl
        have e1 := fun o p : Obj => (q1 o p).2 1 _ (by decide) rfl
        have e2 := fun o p : Obj => (q1 o p).2 2 _ (by decide) rfl
        have e3 := fun o p : Obj => (q1 o p).2 3 _ (by decide) rfl
        have e4 := fun o p : Obj => (q1 o p).2 4 _ (by decide) rfl
        have e5 := fun o p : Obj => (q1 o p).2 5 _ (by decide) rfl
        have e6 := fun o p : Obj => (q1 o p).2 6 _ (by decide) rfl
        have f0 := fun o p : Obj => (q2 o p).1 _ rfl
        have f1 := fun o p : Obj => (q2 o p).2 1 _ (by decide) rfl
        have f2 := fun o p : Obj => (q2 o p).2 2 _ (by decide) rfl
        have f3 := fun o p : Obj => (q2 o p).2 3 _ (by decide) rfl
        have f4 := fun o p : Obj => (q2 o p).2 4 _ (by decide) rfl
        have f5 := fun o p : Obj => (q2 o p).2 5 _ (by decide) rfl
        have f6 := fun o p : Obj => (q2 o p).2 6 _ (by decide) rfl
        simp only at a0 a1 a2 a3 a4 a5 a6 b0 b1 b2 b3 b4 b5 b6 c0 c1 c2 c3 c4 c5 c6 d0 d1 d2 d3 d4 d5 d6 e0 e1 e2 e3 e4 e5 e6 f0 f1 f2 f3 f4 f5 f6
        clear g1 g2 q1 q2 r1 r2
        go_upto_region 6 with fail
        go_region
        · as_aux_lemma =>
          obtain ⟨W5, hW5⟩ : ∃ W5, ((wr.alloc (.cells #[.int .i64 k1, .int .i64 m1, .string (tx n1), .string (tx l1), .int .i64 i1, .int .i64 j1, .int .i64 z1] 97)).alloc (.cells #[.int .i64 k2, .int .i64 m2, .string (tx n2), .string (tx l2), .int .i64 i2, .int .i64 j2, .int .i64 z2] 97)).drew = W5 := ⟨_, rfl⟩
          have h1' : W5.heap[wr.heap.size]? = some (.cells #[.int .i64 k1, .int .i64 m1, .string (tx n1), .string (tx l1), .int .i64 i1, .int .i64 j1, .int .i64 z1] 97) := by rw [← hW5]; exact two_new wr _ _ |>.1
          have h2 : W5.heap[wr.heap.size + 1]? = some (.cells #[.int .i64 k2, .int .i64 m2, .string (tx n2), .string (tx l2), .int .i64 i2, .int .i64 j2, .int .i64 z2] 97) := by rw [← hW5]; exact two_new wr _ _ |>.2.1
          have hgr : Grow wr W5 := by rw [← hW5]; exact (two_new wr _ _).2.2
          have hne1 : wr.heap.size ≠ wr.heap.size + 1 := by omega
          have hne2 : wr.heap.size + 1 ≠ wr.heap.size := by omega
          rw [hW5]
          have FIN : Hid (Grow w ((W5.setCell ⟨wr.heap.size, 6, none⟩ (.int .i64 0)).setCell ⟨wr.heap.size + 1, 6, none⟩ (.int .i64 0))) := Lib.hid (hG.out.1.trans ((hgr.setCell (p := ⟨wr.heap.size, 6, none⟩) (by show wr.heap.size ≤ wr.heap.size; omega) _).setCell (p := ⟨wr.heap.size + 1, 6, none⟩) (by show wr.heap.size ≤ wr.heap.size + 1; omega) _))
          have x10 : W5.cell? ⟨wr.heap.size, 0, none⟩ = some (.int .i64 k1) := cellsN h1' 0 _ rfl
          have x11 : W5.cell? ⟨wr.heap.size, 1, none⟩ = some (.int .i64 m1) := cellsN h1' 1 _ rfl
          have x12 : W5.cell? ⟨wr.heap.size, 2, none⟩ = some (.string (tx n1)) := cellsN h1' 2 _ rfl
          have x13 : W5.cell? ⟨wr.heap.size, 3, none⟩ = some (.string (tx l1)) := cellsN h1' 3 _ rfl
          have x14 : W5.cell? ⟨wr.heap.size, 4, none⟩ = some (.int .i64 i1) := cellsN h1' 4 _ rfl
          have x15 : W5.cell? ⟨wr.heap.size, 5, none⟩ = some (.int .i64 j1) := cellsN h1' 5 _ rfl
          have x16 : W5.cell? ⟨wr.heap.size, 6, none⟩ = some (.int .i64 z1) := cellsN h1' 6 _ rfl
          have y1 : W5.frozen? ⟨wr.heap.size, 6, none⟩ = false := frozen_of_row W5 (wr.heap.size) 6 _ _ h1'
          have x20 : W5.cell? ⟨wr.heap.size + 1, 0, none⟩ = some (.int .i64 k2) := cellsN h2 0 _ rfl
          have x21 : W5.cell? ⟨wr.heap.size + 1, 1, none⟩ = some (.int .i64 m2) := cellsN h2 1 _ rfl
          have x22 : W5.cell? ⟨wr.heap.size + 1, 2, none⟩ = some (.string (tx n2)) := cellsN h2 2 _ rfl
          have x23 : W5.cell? ⟨wr.heap.size + 1, 3, none⟩ = some (.string (tx l2)) := cellsN h2 3 _ rfl
          have x24 : W5.cell? ⟨wr.heap.size + 1, 4, none⟩ = some (.int .i64 i2) := cellsN h2 4 _ rfl
          have x25 : W5.cell? ⟨wr.heap.size + 1, 5, none⟩ = some (.int .i64 j2) := cellsN h2 5 _ rfl
          have x26 : W5.cell? ⟨wr.heap.size + 1, 6, none⟩ = some (.int .i64 z2) := cellsN h2 6 _ rfl
          have y2 : W5.frozen? ⟨wr.heap.size + 1, 6, none⟩ = false := frozen_of_row W5 (wr.heap.size + 1) 6 _ _ h2
          clear hgr h1' h2 hW5 a0 a1 a2 a3 a4 a5 a6 b0 b1 b2 b3 b4 b5 b6 c0 c1 c2 c3 c4 c5 c6 d0 d1 d2 d3 d4 d5 d6 e0 e1 e2 e3 e4 e5 e6 f0 f1 f2 f3 f4 f5 f6
          generalize wr.heap.size + 1 = U' at *
          generalize wr.heap.size = U at *
          go_wp2_with fail
          all_goals first
            | (go_ret
               refine ⟨false, rfl, ⟨(fun h => by cases h), fun h => ?_⟩, FIN.out⟩
               have he := map_at Nd.er HE.out.1 HE.out.2 h
               simp only [Nd.er, Nd.mk.injEq] at he
               obtain ⟨rfl, rfl, rfl, rfl, rfl, rfl, _⟩ := he
               contradiction)
            | (refine ⟨⟨k + 1, by omega, by go_num, Lib.hid ⟨FIN.out, er_take_next Nd.er HE.out.1 HE.out.2 hG.out.2 ?_⟩⟩, by simp [RowKit.intOf]; omega⟩
               simp only [tx_list] at *
               simp only [Nd.er, *])
        · as_aux_lemma =>
          obtain ⟨W5, hW5⟩ : ∃ W5, ((wr.alloc (.cells #[.int .i64 k2, .int .i64 m2, .string (tx n2), .string (tx l2), .int .i64 i2, .int .i64 j2, .int .i64 z2] 97)).alloc (.cells #[.int .i64 k1, .int .i64 m1, .string (tx n1), .string (tx l1), .int .i64 i1, .int .i64 j1, .int .i64 z1] 97)).drew = W5 := ⟨_, rfl⟩
          have h2 : W5.heap[wr.heap.size]? = some (.cells #[.int .i64 k2, .int .i64 m2, .string (tx n2), .string (tx l2), .int .i64 i2, .int .i64 j2, .int .i64 z2] 97) := by rw [← hW5]; exact two_new wr _ _ |>.1
          have h1' : W5.heap[wr.heap.size + 1]? = some (.cells #[.int .i64 k1, .int .i64 m1, .string (tx n1), .string (tx l1), .int .i64 i1, .int .i64 j1, .int .i64 z1] 97) := by rw [← hW5]; exact two_new wr _ _ |>.2.1
          have hgr : Grow wr W5 := by rw [← hW5]; exact (two_new wr _ _).2.2
          have hne1 : wr.heap.size ≠ wr.heap.size + 1 := by omega
          have hne2 : wr.heap.size + 1 ≠ wr.heap.size := by omega
          rw [hW5]
          have FIN : Hid (Grow w ((W5.setCell ⟨wr.heap.size + 1, 6, none⟩ (.int .i64 0)).setCell ⟨wr.heap.size, 6, none⟩ (.int .i64 0))) := Lib.hid (hG.out.1.trans ((hgr.setCell (p := ⟨wr.heap.size + 1, 6, none⟩) (by show wr.heap.size ≤ wr.heap.size + 1; omega) _).setCell (p := ⟨wr.heap.size, 6, none⟩) (by show wr.heap.size ≤ wr.heap.size; omega) _))
          have x10 : W5.cell? ⟨wr.heap.size + 1, 0, none⟩ = some (.int .i64 k1) := cellsN h1' 0 _ rfl
          have x11 : W5.cell? ⟨wr.heap.size + 1, 1, none⟩ = some (.int .i64 m1) := cellsN h1' 1 _ rfl
          have x12 : W5.cell? ⟨wr.heap.size + 1, 2, none⟩ = some (.string (tx n1)) := cellsN h1' 2 _ rfl
          have x13 : W5.cell? ⟨wr.heap.size + 1, 3, none⟩ = some (.string (tx l1)) := cellsN h1' 3 _ rfl
          have x14 : W5.cell? ⟨wr.heap.size + 1, 4, none⟩ = some (.int .i64 i1) := cellsN h1' 4 _ rfl
          have x15 : W5.cell? ⟨wr.heap.size + 1, 5, none⟩ = some (.int .i64 j1) := cellsN h1' 5 _ rfl
          have x16 : W5.cell? ⟨wr.heap.size + 1, 6, none⟩ = some (.int .i64 z1) := cellsN h1' 6 _ rfl
          have y1 : W5.frozen? ⟨wr.heap.size + 1, 6, none⟩ = false := frozen_of_row W5 (wr.heap.size + 1) 6 _ _ h1'
          have x20 : W5.cell? ⟨wr.heap.size, 0, none⟩ = some (.int .i64 k2) := cellsN h2 0 _ rfl
          have x21 : W5.cell? ⟨wr.heap.size, 1, none⟩ = some (.int .i64 m2) := cellsN h2 1 _ rfl
          have x22 : W5.cell? ⟨wr.heap.size, 2, none⟩ = some (.string (tx n2)) := cellsN h2 2 _ rfl
          have x23 : W5.cell? ⟨wr.heap.size, 3, none⟩ = some (.string (tx l2)) := cellsN h2 3 _ rfl
          have x24 : W5.cell? ⟨wr.heap.size, 4, none⟩ = some (.int .i64 i2) := cellsN h2 4 _ rfl
          have x25 : W5.cell? ⟨wr.heap.size, 5, none⟩ = some (.int .i64 j2) := cellsN h2 5 _ rfl
          have x26 : W5.cell? ⟨wr.heap.size, 6, none⟩ = some (.int .i64 z2) := cellsN h2 6 _ rfl
          have y2 : W5.frozen? ⟨wr.heap.size, 6, none⟩ = false := frozen_of_row W5 (wr.heap.size) 6 _ _ h2
          clear hgr h1' h2 hW5 a0 a1 a2 a3 a4 a5 a6 b0 b1 b2 b3 b4 b5 b6 c0 c1 c2 c3 c4 c5 c6 d0 d1 d2 d3 d4 d5 d6 e0 e1 e2 e3 e4 e5 e6 f0 f1 f2 f3 f4 f5 f6
          generalize wr.heap.size + 1 = U' at *
          generalize wr.heap.size = U at *
          go_wp2_with fail
          all_goals first
            | (go_ret
               refine ⟨false, rfl, ⟨(fun h => by cases h), fun h => ?_⟩, FIN.out⟩
               have he := map_at Nd.er HE.out.1 HE.out.2 h
               simp only [Nd.er, Nd.mk.injEq] at he
               obtain ⟨rfl, rfl, rfl, rfl, rfl, rfl, _⟩ := he
               contradiction)
            | (refine ⟨⟨k + 1, by omega, by go_num, Lib.hid ⟨FIN.out, er_take_next Nd.er HE.out.1 HE.out.2 hG.out.2 ?_⟩⟩, by simp [RowKit.intOf]; omega⟩
               simp only [tx_list] at *
               simp only [Nd.er, *])
      · have h3 : ¬ (k : Int) < (n : Int) := by omega
        obtain rfl : k = n := by omega
        go_wp2_with fail
        go_ret
        refine ⟨true, rfl, ⟨fun _ => ?_, fun _ => rfl⟩, hG.out.1⟩
        have := hG.out.2
        rw [List.take_of_length_le (by rw [HN.out.1]; exact Nat.le_refl _), List.take_of_length_le (by rw [HN.out.2]; exact Nat.le_refl _)] at this
        exact this
  · have h3 : ¬ (n : Int) = (m : Int) := by omega
    have h4 : ((n : Int) != (m : Int)) = true := by simpa using h3
    go_enter Tryd.func55, Tryd.ntmps55
    go_wp2_with fail
    go_ret
    refine ⟨false, rfl, ⟨fun h => (by cases h), fun h => ?_⟩, Grow.refl w⟩
    have := congrArg List.length h
    rw [List.length_map, List.length_map, HN.out.1, HN.out.2] at this
    exact absurd this hne

theorem txs_at {w : World} {ao : Option Addr} {n c : Nat} {l : List (List UInt8)} (h : TRows w 1 TxtT (.slice ao n c) l) {k : Nat} (hk : k < n) : ∃ a o, ao = some a ∧ l[k]? = some o ∧ w.cell? (a.add k) = some (.string (tx o)) := by
  obtain ⟨a, o, cs, rfl, ho, rfl, _, h1, _⟩ := h.at hk
  exact ⟨a, o, rfl, ho, by have := h1 _ rfl; rwa [Nat.mul_one] at this⟩
theorem cmp_texts (v1 v2 : Value) (a b : List (List UInt8)) (w : World) (h1 : TRows w 1 TxtT v1 a) (h2 : TRows w 1 TxtT v2 b) :
    Calls Tryd.prog 35 #[v1, v2] w (Cmp (a = b) w) := by
  obtain ⟨a1, c1, rfl⟩ := h1.shape
  obtain ⟨a2, c2, rfl⟩ := h2.shape
  have m1 := h1.1
  have hml : a.length ≤ 9223372036854775807 := Nat.le_trans m1 (by decide)
  have H1 := Lib.hid h1
  have H2 := Lib.hid h2
  clear h1 h2
  obtain ⟨n, hn⟩ : ∃ n, a.length = n := ⟨_, rfl⟩
  obtain ⟨m, hm⟩ : ∃ n, b.length = n := ⟨_, rfl⟩
  rw [hn] at H1 m1 hml ⊢
  rw [hm] at H2 ⊢
  have HN := Lib.hid (And.intro hn hm)
  clear hn hm
  by_cases hne : n = m
  · subst hne
    go_enter Tryd.func35, Tryd.ntmps35
    go_wp2_with fail
    go_loopw [5] (fun i wr => ∃ k : Nat, k ≤ n ∧ i = .int .i64 k ∧ Hid (Grow w wr ∧ a.take k = b.take k))
      (fun i _ => n - (RowKit.intOf i).toNat)
    case atStart => exact ⟨0, Nat.zero_le _, rfl, Lib.hid ⟨Grow.refl w, rfl⟩⟩
    case round =>
      obtain ⟨k, hk, rfl, hG⟩ := hrel
      by_cases h1 : k < n
      · have h3 : (k : Int) < (n : Int) := by omega
        obtain ⟨x1, o1, rfl, e1, g1⟩ := txs_at (TRows.imp H1.out hG.out.1 fun _ _ h => h) h1
        obtain ⟨x2, o2, rfl, e2, g2⟩ := txs_at (TRows.imp H2.out hG.out.1 fun _ _ h => h) h1
        have HE := Lib.hid (And.intro e1 e2)
        clear e1 e2
        by_cases ho : o1 = o2
        · subst ho
          have HG : Hid (Grow w wr ∧ a.take (k + 1) = b.take (k + 1)) := Lib.hid ⟨hG.out.1, by rw [take_next HE.out.1, take_next HE.out.2, hG.out.2]⟩
          go_wp2_with fail
          go_quiet (fail)
          go_wp2
          case roundEnd => exact ⟨⟨k + 1, by omega, by go_num, Lib.hid ⟨below_drewN HG.out.1 _, HG.out.2⟩⟩, by simp [RowKit.intOf]; omega⟩
        · have y1 := tx_list o1
          have y2 := tx_list o2
          have ho2 : (o1 == o2) = false := by simpa using ho
          have ho3 : (o1 != o2) = true := by simpa using ho
          have HX : Hid (a ≠ b) := Lib.hid (by
            rintro rfl
            have e := HE.out.1.symm.trans HE.out.2
            simp only [Option.some.injEq] at e
            exact ho e)
          go_wp2_with fail
          go_quiet (fail)
          go_wp2
          go_ret
          exact ⟨false, rfl, ⟨(fun h => by cases h), fun h => absurd h HX.out⟩, below_drewN hG.out.1 _⟩
      · have h3 : ¬ (k : Int) < (n : Int) := by omega
        obtain rfl : k = n := by omega
        go_wp2_with fail
        go_ret
        refine ⟨true, rfl, ⟨fun _ => ?_, fun _ => rfl⟩, hG.out.1⟩
        have := hG.out.2
        rw [List.take_of_length_le (by rw [HN.out.1]; exact Nat.le_refl _), List.take_of_length_le (by rw [HN.out.2]; exact Nat.le_refl _)] at this
        exact this
  · have h3 : ¬ (n : Int) = (m : Int) := by omega
    have h4 : ((n : Int) != (m : Int)) = true := by simpa using h3
    go_enter Tryd.func35, Tryd.ntmps35
    go_wp2_with fail
    go_ret
    refine ⟨false, rfl, ⟨(fun h => by cases h), fun h => ?_⟩, Grow.refl w⟩
    have := congrArg List.length h
    rw [HN.out.1, HN.out.2] at this
    exact absurd this hne

/-- But for places, or with them. -/
def Nd.nrm (t : Bool) (o : Nd) : Nd := if t = true then o else o.er
theorem Nd.nrm_er {t : Bool} {o p : Nd} (h : o.nrm t = p.nrm t) : o.er = p.er := by
  unfold Nd.nrm at h
  split at h
  · rw [h]
  · exact h
theorem cmp_exprs (t : Bool) (v1 v2 : Value) (a b : List Nd) (w : World) (h1 : NodesT t w v1 a) (h2 : NodesT t w v2 b) :
    Calls Tryd.prog 49 #[v1, v2, .bool t] w (Cmp (a.map (Nd.nrm t) = b.map (Nd.nrm t)) w) := by
  have P := cmp_nodes t t v1 v2 a b w h1 h2
  obtain ⟨a1, c1, rfl⟩ := h1.shape
  obtain ⟨a2, c2, rfl⟩ := h2.shape
  have m1 := h1.1
  have hml : a.length ≤ 9223372036854775807 := Nat.le_trans m1 (by decide)
  have H1 := Lib.hid h1
  have H2 := Lib.hid h2
  clear h1 h2
  obtain ⟨n, hn⟩ : ∃ n, a.length = n := ⟨_, rfl⟩
  obtain ⟨m, hm⟩ : ∃ n, b.length = n := ⟨_, rfl⟩
  rw [hn] at P H1 m1 hml ⊢
  rw [hm] at P H2 ⊢
  have HN := Lib.hid (And.intro hn hm)
  clear hn hm
  go_enter Tryd.func49, Tryd.ntmps49
  go_wp2_with fail
  refine P.mono ?_
  rintro e w1 ⟨bb, rfl, hb, hg⟩
  have H6 := Lib.hid (And.intro hb hg)
  clear hb hg P
  cases bb with
  | false =>
    go_wp2_with fail
    go_ret
    refine ⟨false, rfl, ⟨(fun h => by cases h), fun h => ?_⟩, H6.out.2⟩
    have : a.map Nd.er = b.map Nd.er := by
      have e := congrArg (List.map Nd.er) h
      rw [List.map_map, List.map_map] at e
      have e2 : Nd.er ∘ Nd.nrm t = Nd.er := by
        funext o
        show (Nd.nrm t o).er = o.er
        unfold Nd.nrm
        split <;> rfl
      rw [e2] at e
      exact e
    exact absurd (H6.out.1.2 this) (by simp)
  | true =>
    have hx := H6.out.1.1 rfl
    obtain rfl : n = m := by
      have := congrArg List.length hx
      rw [List.length_map, List.length_map, HN.out.1, HN.out.2] at this
      exact this
    have HX := Lib.hid hx
    clear hx
    cases t with
    | false =>
      go_wp2_with fail
      go_loopw [7] (fun i wr => i = .int .i64 0 ∧ wr = w1) (fun _ _ => 0)
      case atStart => exact ⟨rfl, rfl⟩
      case round =>
        obtain ⟨rfl, rfl⟩ := hrel
        go_wp2_with fail
        all_goals go_ret
        all_goals exact ⟨true, rfl, ⟨fun _ => HX.out, fun _ => rfl⟩, H6.out.2⟩
    | true =>
      go_wp2_with fail
      go_loopw [7] (fun i wr => ∃ k : Nat, k ≤ n ∧ i = .int .i64 k ∧ Hid (Grow w wr ∧ a.take k = b.take k))
        (fun i _ => n - (RowKit.intOf i).toNat)
      case atStart => exact ⟨0, Nat.zero_le _, rfl, Lib.hid ⟨H6.out.2, rfl⟩⟩
      case round =>
        obtain ⟨k, hk, rfl, hG⟩ := hrel
        by_cases h1 : k < n
        · have h3 : (k : Int) < (n : Int) := by omega
          obtain ⟨x1, o1, s1, rfl, e1, ⟨z1, rfl, p1⟩, _, g1⟩ := (H1.out.later hG.out.1).at h1
          obtain ⟨x2, o2, s2, rfl, e2, ⟨z2, rfl, p2⟩, _, g2⟩ := (H2.out.later hG.out.1).at h1
          have HE := Lib.hid (And.intro e1 e2)
          obtain rfl := p1 rfl
          obtain rfl := p2 rfl
          have a6 := g1.2 6 _ (by decide) rfl
          have b6 := g2.2 6 _ (by decide) rfl
          clear e1 e2 g1 g2 p1 p2
          by_cases ho : (o1.pos : Int) = (o2.pos : Int)
          · have HG : Hid (Grow w wr ∧ a.take (k + 1) = b.take (k + 1)) := Lib.hid ⟨hG.out.1, by
              have he := map_at Nd.er HE.out.1 HE.out.2 HX.out
              have : o1 = o2 := by
                obtain ⟨k1, m1, n1, l1, i1, j1, q1⟩ := o1
                obtain ⟨k2, m2, n2, l2, i2, j2, q2⟩ := o2
                simp only [Nd.er, Nd.mk.injEq] at he ho ⊢
                refine ⟨he.1, he.2.1, he.2.2.1, he.2.2.2.1, he.2.2.2.2.1, he.2.2.2.2.2.1, by omega⟩
              rw [take_next HE.out.1, take_next HE.out.2, hG.out.2, this]⟩
            rw [← ho] at b6
            go_wp2_with fail
            go_quiet (fail)
            go_wp2
            exact ⟨⟨k + 1, by omega, by go_num, Lib.hid ⟨below_drewN HG.out.1 _, HG.out.2⟩⟩, by simp [RowKit.intOf]; omega⟩
          · have h9 : ((o1.pos : Int) != (o2.pos : Int)) = true := by simpa using ho
            have HX2 : Hid (a.map (Nd.nrm true) ≠ b.map (Nd.nrm true)) := Lib.hid (fun h => by
              have e := map_at (Nd.nrm true) HE.out.1 HE.out.2 h
              have e : o1 = o2 := e
              rw [e] at ho
              exact ho rfl)
            go_wp2_with fail
            go_quiet (fail)
            go_wp2
            go_ret
            exact ⟨false, rfl, ⟨(fun h => by cases h), fun h => absurd h HX2.out⟩, below_drewN hG.out.1 _⟩
        · have h3 : ¬ (k : Int) < (n : Int) := by omega
          obtain rfl : k = n := by omega
          go_wp2_with fail
          go_ret
          refine ⟨true, rfl, ⟨fun _ => ?_, fun _ => rfl⟩, hG.out.1⟩
          have := hG.out.2
          rw [List.take_of_length_le (by rw [HN.out.1]; exact Nat.le_refl _), List.take_of_length_le (by rw [HN.out.2]; exact Nat.le_refl _)] at this
          rw [this]

end Go.Proofs.YtfcfbdemfbkgmaaDoor
