/- A plain record under way; the reference's variable. Numbers and types by name. -/
import Derived.Test.YtfcfbdemfbkgmaaDoorPbf
/- The reference's call: its arguments. Numbers and types by name. -/
namespace Go.Proofs.YtfcfbdemfbkgmaaDoor
open Go.RowKit Go.Lib
set_option maxRecDepth 100000

theorem elemArgs : Elem 86 85 (.slice none 0 0) 1 24 := ⟨Tryd.underlying86, by kernel_rfl, by decide, by decide⟩
def NewC (w wr : World) (T U : Nat) (v : Value) (k : Nat) : Prop := w.heap.size ≤ k ∧ k < wr.heap.size ∧ k ≠ T ∧ k ≠ U ∧ v.ownBlock ≠ some k
/-- Within a call's arguments. -/
structure CAt (w0 w wr : World) (b n : Nat) (vl : Value) (L : List Tk) (T U : Nat) (h : SH) (v : Value) (m : Nat) (s : PS) (acc : List (List Nd)) : Prop where
  r : Rdr w0 wr b n vl L s
  c : Chg [b] w wr
  sb : SBlk wr T h (.slice none 0 0) v (.slice none 0 0) (.slice none 0 0)
  z : SBlk wr U (sh0 0) (.slice none 0 0) (.slice none 0 0) (.slice none 0 0) (.slice none 0 0)
  o : ∃ cs, wr.ownsRow w.heap.size 85 1 v m cs ∧ Parts 1 (ArgV wr (NewC w wr T U v)) acc cs
  em : m = acc.length
  bw : b < w.heap.size
  wT : w.heap.size ≤ T
  wU : w.heap.size ≤ U
  tu : T ≠ U
  vT : v.ownBlock ≠ some T
  vU : v.ownBlock ≠ some U
theorem ArgV.chg {w w' : World} {P Q : Nat → Prop} {F : List Nat} (hc : Chg F w w') (hP : ∀ k, P k → k ∉ F) (hQ : ∀ k, P k → Q k) : ∀ (l : List Nd) (c : List Value), ArgV w P l c → ArgV w' Q l c :=
  fun _ _ ⟨v, n, e, h⟩ => ⟨v, n, e, h.chg hc hP hQ⟩
theorem CAt.keep {w0 w wr w1 : World} {b n : Nat} {vl : Value} {L : List Tk} {T U : Nat} {h : SH} {v : Value} {m : Nat} {s s1 : PS} {acc : List (List Nd)} (H : CAt w0 w wr b n vl L T U h v m s acc) (hr : Rdr w0 w1 b n vl L s1) (hc : Chg [b] wr w1) : CAt w0 w w1 b n vl L T U h v m s1 acc := by
  obtain ⟨cs, h1, h2⟩ := H.o
  have hb := H.bw
  have hT := H.wT
  have hU := H.wU
  exact ⟨hr, H.c.trans hc, H.sb.chg hc (by simp only [List.mem_singleton]; omega), H.z.chg hc (by simp only [List.mem_singleton]; omega), ⟨cs, owns_chg h1 hc (fun k hk hm => by have := (h1.lt k hk).1; simp only [List.mem_singleton] at hm; omega), h2.imp (ArgV.chg hc (fun k hk hm => by have := hk.1; simp only [List.mem_singleton] at hm; omega) (fun k hk => ⟨hk.1, Nat.lt_of_lt_of_le hk.2.1 hc.size, hk.2.2⟩))⟩, H.em, hb, hT, hU, H.tu, H.vT, H.vU⟩
/-- An argument is appended, and the slice put back. -/
theorem CAt.next {w0 w wr w5 w7 : World} {b n : Nat} {vl : Value} {L : List Tk} {T U : Nat} {h : SH} {v : Value} {ao7 ao5 : Option Addr} {m c7 m5 c5 : Nat} {s : PS} {acc : List (List Nd)} {o : Obj} {cs : List Value} (H : CAt w0 w wr b n vl L T U h v m s acc) (h1 : wr.ownsRow w.heap.size 85 1 v m cs) (h2 : Parts 1 (ArgV wr (NewC w wr T U v)) acc cs)
    (o5 : OwnN w5 (b + 1) (.slice ao5 m5 c5) m5 (exprN L s).1) (r5 : Rdr w0 w5 b n vl L (exprN L s).2) (c5' : Chg [b] wr w5) (f5 : ∀ k, (Value.slice ao5 m5 c5).ownBlock = some k → wr.heap.size ≤ k) (hm5 : m5 ≤ 20000)
    (h7 : w7.ownsRow w.heap.size 85 1 (.slice ao7 (m + 1) c7) (m + 1) (cs ++ [.slice ao5 m5 c5])) (hg : (w5.alloc o).grownBy w7 v.ownBlock) (ho : (Value.slice ao7 (m + 1) c7).ownBlock = v.ownBlock ∨ (Value.slice ao7 (m + 1) c7).ownBlock = some (w5.alloc o).heap.size) :
    SBlk w7 T h (.slice none 0 0) v (.slice none 0 0) (.slice none 0 0) ∧ CAt w0 w (w7.setCell ⟨T, 9, none⟩ (.slice ao7 (m + 1) c7)) b n vl L T U h (.slice ao7 (m + 1) c7) (m + 1) (exprN L s).2 (acc ++ [(exprN L s).1]) := by
  have hbw := H.bw
  have hT := H.wT
  have hU := H.wU
  have c7' : Chg (rowF v) w5 w7 := ((Chg.refl (rowF v) w5).alloc o).trans' (Chg.of_grown (F := rowF v) hg (fun k hk => rowF_mem.2 hk)) fun x hx => .inl hx
  have hv : ∀ k, v.ownBlock = some k → w.heap.size ≤ k ∧ k < wr.heap.size := fun k hk => h1.lt k hk
  have hs7 : (w5.alloc o).heap.size = w5.heap.size + 1 := by simp
  have hnew : ∀ k, k < w5.heap.size → v.ownBlock ≠ some k → (Value.slice ao7 (m + 1) c7).ownBlock ≠ some k := fun k hk hne e => by
    rcases ho with ho | ho
    · exact hne (ho ▸ e)
    · rw [ho] at e
      cases e
      omega
  have hs := H.sb.chg c5' (by simp only [List.mem_singleton]; omega)
  have hs2 := hs.chg c7' (fun hx => H.vT (rowF_mem.1 hx))
  have hz2 := (H.z.chg c5' (by simp only [List.mem_singleton]; omega)).chg c7' (fun hx => H.vU (rowF_mem.1 hx))
  have ct : Chg [T] w7 (w7.setCell ⟨T, 9, none⟩ (.slice ao7 (m + 1) c7)) := (Chg.refl [T] w7).set (.inl (by simp)) 9 _
  have r7 : Rdr w0 w7 b n vl L (exprN L s).2 := r5.chg c7' (fun x hx => by have := (hv x (rowF_mem.1 hx)).1; omega) (r5.r.chg c7' (fun hx => by have := (hv b (rowF_mem.1 hx)).1; omega)) r5.lt r5.deep
  have r8 : Rdr w0 (w7.setCell ⟨T, 9, none⟩ (.slice ao7 (m + 1) c7)) b n vl L (exprN L s).2 := r7.chg ct (fun x hx => by simp only [List.mem_singleton] at hx; omega) (r7.r.chg ct (by simp only [List.mem_singleton]; omega)) r7.lt r7.deep
  refine ⟨hs2, ?_⟩
  have hTw := H.sb.lt
  have hUw := H.z.lt
  have p1 : Parts 1 (ArgV (w7.setCell ⟨T, 9, none⟩ (.slice ao7 (m + 1) c7)) (NewC w (w7.setCell ⟨T, 9, none⟩ (.slice ao7 (m + 1) c7)) T U (.slice ao7 (m + 1) c7))) (acc ++ [(exprN L s).1]) (cs ++ [.slice ao5 m5 c5]) := by
    refine Parts.imp (ArgV.chg ct (P := NewC w w7 T U (.slice ao7 (m + 1) c7)) (fun k hk hm => hk.2.2.1 (by simpa using hm)) (fun k hk => ⟨hk.1, Nat.lt_of_lt_of_le hk.2.1 ct.size, hk.2.2⟩)) ?_
    refine Parts.snoc (size := 1) (c := [.slice ao5 m5 c5]) rfl ?_ (h2.imp fun a c h => ?_)
    · refine ⟨_, m5, rfl, ?_⟩
      have hn5 : NodesP w5 (fun k => wr.heap.size ≤ k ∧ k < w5.heap.size) (.slice ao5 m5 c5) m5 (exprN L s).1 := o5.nodes (by omega) fun k hk => ⟨f5 k hk, (o5.2.lt k hk).2⟩
      exact hn5.chg c7' (fun k hk hm => by have := (hv k (rowF_mem.1 hm)).2; have := hk.1; omega) fun k hk => ⟨Nat.le_trans H.c.size hk.1, Nat.lt_of_lt_of_le hk.2 c7'.size, by have := hk.1; omega, by have := hk.1; omega, hnew k hk.2 fun e => by have := (hv k e).2; have := hk.1; omega⟩
    · have h' := ArgV.chg c5' (Q := NewC w w5 T U v) (fun k hk hm => by have := hk.1; simp only [List.mem_singleton] at hm; omega) (fun k hk => ⟨hk.1, Nat.lt_of_lt_of_le hk.2.1 c5'.size, hk.2.2⟩) a c h
      exact ArgV.chg c7' (fun k hk hm => hk.2.2.2.2 (rowF_mem.1 hm)) (fun k hk => ⟨hk.1, Nat.lt_of_lt_of_le hk.2.1 c7'.size, hk.2.2.1, hk.2.2.2.1, hnew k hk.2.1 hk.2.2.2.2⟩) a c h'
  have h7T : (Value.slice ao7 (m + 1) c7).ownBlock ≠ some T := hnew T (Nat.lt_of_lt_of_le hTw c5'.size) H.vT
  have h7U : (Value.slice ao7 (m + 1) c7).ownBlock ≠ some U := hnew U (Nat.lt_of_lt_of_le hUw c5'.size) H.vU
  exact ⟨r8, ((H.c.trans c5').trans' c7' (fun x hx => .inr (hv x (rowF_mem.1 hx)).1)).trans' ct (fun x hx => by simp only [List.mem_singleton] at hx; subst hx; exact .inr hT), hs2.set 9 _ rfl, hz2.chg ct (by simp only [List.mem_singleton]; exact fun h => H.tu h.symm), ⟨_, owns_chg h7 ct (fun k hk hm => h7T (by simp only [List.mem_singleton] at hm; rw [← hm]; exact hk)), p1⟩, by rw [List.length_append, ← H.em]; rfl, hbw, hT, hU, H.tu, h7T, h7U⟩
theorem CAt.field {w0 w wr : World} {b n : Nat} {vl : Value} {L : List Tk} {T U : Nat} {h : SH} {v : Value} {m : Nat} {s : PS} {acc : List (List Nd)} (H : CAt w0 w wr b n vl L T U h v m s acc) (j : Nat) (x : Value) (h' : SH) (e : (stmHead h (.slice none 0 0) v (.slice none 0 0) (.slice none 0 0)).toArray.setIfInBounds j x = (stmHead h' (.slice none 0 0) v (.slice none 0 0) (.slice none 0 0)).toArray) : CAt w0 w (wr.setCell ⟨T, j, none⟩ x) b n vl L T U h' v m s acc := by
  have hT := H.wT
  have hb := H.bw
  have ct : Chg [T] wr (wr.setCell ⟨T, j, none⟩ x) := (Chg.refl [T] wr).set (.inl (by simp)) j x
  obtain ⟨cs, h1, h2⟩ := H.o
  exact ⟨H.r.chg ct (fun y hy => by simp only [List.mem_singleton] at hy; omega) (H.r.r.chg ct (by simp only [List.mem_singleton]; omega)) H.r.lt H.r.deep, H.c.trans' ct (fun y hy => by simp only [List.mem_singleton] at hy; subst hy; exact .inr hT), H.sb.set j x e, H.z.chg ct (by simp only [List.mem_singleton]; exact fun h => H.tu h.symm), ⟨cs, owns_chg h1 ct (fun k hk hm => H.vT (by simp only [List.mem_singleton] at hm; rw [← hm]; exact hk)), h2.imp (ArgV.chg ct (fun k hk hm => hk.2.2.1 (by simpa using hm)) (fun k hk => ⟨hk.1, Nat.lt_of_lt_of_le hk.2.1 ct.size, hk.2.2⟩))⟩, H.em, hb, hT, H.wU, H.tu, H.vT, H.vU⟩
theorem CAt.ones {w0 w wr : World} {b n : Nat} {vl : Value} {L : List Tk} {T U : Nat} {h : SH} {ao : Option Addr} {m c : Nat} {s : PS} {acc : List (List Nd)} (_ : CAt w0 w wr b n vl L T U h (.slice ao m c) m s acc) : (stmHead h (.slice none 0 0) (.slice ao m c) (.slice none 0 0) (.slice none 0 0)).toArray.all (·.oneCell') = true := by
  rw [Array.all_eq_true_iff_forall_mem]
  intro v hv
  have hv' := hv
  simp only [stmHead, List.mem_toArray, List.mem_cons, List.not_mem_nil, or_false] at hv'
  rcases hv' with rfl | rfl | rfl | rfl | rfl | rfl | rfl | rfl | rfl | rfl | rfl | rfl <;> rfl
theorem CAt.told {w0 w wr : World} {b n : Nat} {vl : Value} {L : List Tk} {T U : Nat} {h : SH} {ao : Option Addr} {m c : Nat} {s : PS} {acc : List (List Nd)} (H : CAt w0 w wr b n vl L T U h (.slice ao m c) m s acc) (hm : m ≤ 100000) (h' : SH) (e : stmHead h (.slice none 0 0) (.slice ao m c) (.slice none 0 0) (.slice none 0 0) = stmHead h' (.slice none 0 0) (.slice ao m c) (.slice none 0 0) (.slice none 0 0)) (he : h'.e = []) (ha : h'.args = acc) :
    CaTold w0 w b n vl L (h', s) (.returned (.agg (stmHead h (.slice none 0 0) (.slice ao m c) (.slice none 0 0) (.slice none 0 0)).toArray)) (wr.setRow U (stmHead h (.slice none 0 0) (.slice ao m c) (.slice none 0 0) (.slice none 0 0)).toArray) := by
  have hU := H.wU
  have hb := H.bw
  have hc : Chg [U] wr (wr.setRow U (stmHead h (.slice none 0 0) (.slice ao m c) (.slice none 0 0) (.slice none 0 0)).toArray) := ⟨rfl, rfl, rfl, by simp, fun k _ hk => setRow_other wr U k _ (by simpa using hk)⟩
  obtain ⟨cs, h1, h2⟩ := H.o
  have h1' := owns_chg h1 hc (fun k hk hm => H.vU (by simp only [List.mem_singleton] at hm; rw [← hm]; exact hk))
  refine ⟨_, m, by rw [e], he, ?_, H.r.chg hc (fun x hx => by simp only [List.mem_singleton] at hx; omega) (H.r.r.chg hc (by simp only [List.mem_singleton]; omega)) H.r.lt H.r.deep, H.c.trans' hc (fun x hx => by simp only [List.mem_singleton] at hx; subst hx; exact .inr hU)⟩
  rw [ha]
  refine ⟨H.em, hm, fun a n' c' e => ?_, cs, Cells.own h1' (by decide), h2.imp (ArgV.chg hc (fun k hk hm => hk.2.2.2.1 (by simpa using hm)) (fun k hk => ⟨hk.1, Nat.lt_of_lt_of_le hk.2.1 hc.size⟩))⟩
  rcases h1'.2 with ⟨e2, _⟩ | ⟨g, cap, cur, e2, hb2, hg, _⟩
  · rw [e2] at e
    cases e
  · rw [e2] at e
    simp only [Value.slice.injEq, Option.some.injEq] at e
    obtain ⟨rfl, _⟩ := e
    exact ⟨hb2, (Array.getElem?_eq_some_iff.1 hg).1⟩

end Go.Proofs.YtfcfbdemfbkgmaaDoor

/- The reference's call. Numbers and types by name. -/
namespace Go.Proofs.YtfcfbdemfbkgmaaDoor
open Go.RowKit Go.Lib
set_option maxRecDepth 100000

/-- The arguments, from the bracket on: what the model makes of them. -/
def argsOf (L : List Tk) (s : PS) : List (List Nd) × PS := if isT L s [41] = true then ([], s) else listLoop L (exprN L) (L.length + 1) s []
theorem list_args (L : List Tk) (s : PS) : listT L (exprN L) s [41] = ((argsOf L s).1, wantT L (argsOf L s).2 [41]) := rfl

end Go.Proofs.YtfcfbdemfbkgmaaDoor

/- The reference's blocks, whole. Numbers and types by name. -/
namespace Go.Proofs.YtfcfbdemfbkgmaaDoor
open Go.RowKit Go.Lib
set_option maxRecDepth 100000

end Go.Proofs.YtfcfbdemfbkgmaaDoor

namespace Go.Proofs.YtfcfbdemfbkgmaaDoor
open Go.RowKit Go.Lib
set_option maxRecDepth 100000

theorem numV_few (l : List UInt8) (hl : l.length ≤ 9) (hd : ∀ c ∈ l, isDig c = true) : numV l < 1000000000 := by
  have hb9 : ∀ k, k ≤ 9 → k ≤ l.length → numV (l.take k) < 10 ^ k := by
    intro k
    induction k with
    | zero => intro _ _; exact Nat.one_pos
    | succ k ih =>
      intro h1 h2
      have := ih (by omega) (by omega)
      obtain ⟨c, hc⟩ : ∃ c, l[k]? = some c := ⟨_, List.getElem?_eq_getElem (by omega)⟩
      rw [List.take_add_one, hc]
      show (l.take k ++ [c]).foldl _ 0 < _
      rw [List.foldl_append]
      have hcd := hd c (List.mem_of_getElem? hc)
      unfold isDig at hcd
      simp only [Bool.and_eq_true, decide_eq_true_eq] at hcd
      change 10 * numV (l.take k) + (c.toNat - 48) < _
      rw [Nat.pow_succ]
      omega
  have := hb9 l.length hl (Nat.le_refl _)
  rw [List.take_length] at this
  exact Nat.lt_of_lt_of_le this (Nat.pow_le_pow_right (by decide) hl)

/-- A record under way: the reader, its own block, the block of the result. -/
structure RcAt (t : TypeId) (w0 w wr : World) (b n : Nat) (vl : Value) (L : List Tk) (T U : Nat) (xs zs : List Value) (s : PS) : Prop where
  r : Rdr w0 wr b n vl L s
  c : Chg [b] w wr
  sb : wr.heap[T]? = some (.cells xs.toArray t (0, 0))
  z : wr.heap[U]? = some (.cells zs.toArray t (0, 0))
  bw : b < w.heap.size
  wT : w.heap.size ≤ T
  wU : w.heap.size ≤ U
  tu : T ≠ U
theorem RcAt.keep {t : TypeId} {w0 w wr w1 : World} {b n : Nat} {vl : Value} {L : List Tk} {T U : Nat} {xs zs : List Value} {s s1 : PS} (H : RcAt t w0 w wr b n vl L T U xs zs s) (hr : Rdr w0 w1 b n vl L s1) (hc : Chg [b] wr w1) : RcAt t w0 w w1 b n vl L T U xs zs s1 := by
  have hb := H.bw
  have hT := H.wT
  have hU := H.wU
  exact ⟨hr, H.c.trans hc, (hc.block T (Array.getElem?_eq_some_iff.1 H.sb).1 (by simp only [List.mem_singleton]; omega)).trans H.sb, (hc.block U (Array.getElem?_eq_some_iff.1 H.z).1 (by simp only [List.mem_singleton]; omega)).trans H.z, hb, hT, hU, H.tu⟩
theorem RcAt.field {t : TypeId} {w0 w wr : World} {b n : Nat} {vl : Value} {L : List Tk} {T U : Nat} {xs zs : List Value} {s : PS} (H : RcAt t w0 w wr b n vl L T U xs zs s) (j : Nat) (x : Value) (xs' : List Value) (e : xs.toArray.setIfInBounds j x = xs'.toArray) : RcAt t w0 w (wr.setCell ⟨T, j, none⟩ x) b n vl L T U xs' zs s := by
  have hb := H.bw
  have hT := H.wT
  have hU := H.wU
  have ct : Chg [T] wr (wr.setCell ⟨T, j, none⟩ x) := (Chg.refl [T] wr).set (.inl (by simp)) j x
  exact ⟨H.r.chg ct (fun y hy => by simp only [List.mem_singleton] at hy; omega) (H.r.r.chg ct (by simp only [List.mem_singleton]; omega)) H.r.lt H.r.deep, H.c.trans' ct (fun y hy => by simp only [List.mem_singleton] at hy; subst hy; exact .inr hT), by rw [heap_set H.sb, e], (ct.block U (Array.getElem?_eq_some_iff.1 H.z).1 (by simp only [List.mem_singleton]; exact fun h => H.tu h.symm)).trans H.z, hb, hT, hU, H.tu⟩
theorem RcAt.cell {t : TypeId} {w0 w wr : World} {b n : Nat} {vl : Value} {L : List Tk} {T U : Nat} {xs zs : List Value} {s : PS} (H : RcAt t w0 w wr b n vl L T U xs zs s) (j : Nat) (v : Value) (hj : xs[j]? = some v) : wr.cell? ⟨T, j, none⟩ = some v :=
  cellsN H.sb j v (by rw [List.getElem?_toArray]; exact hj)
theorem RcAt.free {t : TypeId} {w0 w wr : World} {b n : Nat} {vl : Value} {L : List Tk} {T U : Nat} {xs zs : List Value} {s : PS} (H : RcAt t w0 w wr b n vl L T U xs zs s) (j : Nat) : wr.frozen? ⟨T, j, none⟩ = false := by
  simp only [World.frozen?]
  rw [H.sb]
  simp
theorem RcAt.last {t : TypeId} {w0 w wr : World} {b n : Nat} {vl : Value} {L : List Tk} {T U : Nat} {xs zs : List Value} {s : PS} (H : RcAt t w0 w wr b n vl L T U xs zs s) : Rdr w0 (wr.setRow U xs.toArray) b n vl L s ∧ Chg [b] w (wr.setRow U xs.toArray) := by
  have hb := H.bw
  have hU := H.wU
  have hc : Chg [U] wr (wr.setRow U xs.toArray) := ⟨rfl, rfl, rfl, by simp, fun k _ hk => setRow_other wr U k _ (by simpa using hk)⟩
  exact ⟨H.r.chg hc (fun x hx => by simp only [List.mem_singleton] at hx; omega) (H.r.r.chg hc (by simp only [List.mem_singleton]; omega)) H.r.lt H.r.deep, H.c.trans' hc (fun x hx => by simp only [List.mem_singleton] at hx; subst hx; exact .inr hU)⟩

/-- What a variable's reader leaves. -/
def varV (v : Vrb) : List Value := [.string (tx v.name), .string (tx v.label), .int .i64 v.init, .int .i64 (v.pos : Int)]
def VaTold (w0 w : World) (b n : Nat) (vl : Value) (L : List Tk) (r : Vrb × PS) (e : Ending) (w' : World) : Prop :=
  e = .returned (.agg (varV r.1).toArray) ∧ Rdr w0 w' b n vl L r.2 ∧ Chg [b] w w'
theorem var_info (v : Vrb) : (Tryd.prog.info? 41).map (·.size) = some (varV v).toArray.size := by
  show _ = some 4
  kernel_rfl
theorem var_ones (v : Vrb) : (varV v).toArray.all (·.oneCell') = true := by
  simp [varV, Value.oneCell']
def vrb0 : Vrb := ⟨[], [], 0, 0⟩

end Go.Proofs.YtfcfbdemfbkgmaaDoor
