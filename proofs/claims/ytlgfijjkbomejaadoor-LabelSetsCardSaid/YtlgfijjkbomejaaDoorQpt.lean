/- The code's Module and Labels: what starts, what is recovered. Numbers and types by name. -/
import Derived.Test.YtlgfijjkbomejaaDoorQps
import Derived.Test.YtlgfijjkbomejaaDoorLcd
import Derived.Tactics
import Derived.Tactics2
import Derived.Defers
import Derived.Recover
namespace Go.Proofs.YtlgfijjkbomejaaDoor
open Go.RowKit Go.Lib
set_option maxRecDepth 100000

/-- What start leaves. -/
def StartC (w : World) (l : List UInt8) (e : Ending) (w' : World) : Prop := Below w.heap.size w w' ∧ ((((lexP l).e = 0 ∧ ∃ w1 b, Below w.heap.size w w1 ∧ w.heap.size ≤ b ∧ e = .returned (.pointer (some ⟨b, 0, none⟩)) ∧ Psr w1 w' b (lexP l).l ps0)) ∨ ((lexP l).e ≠ 0 ∧ e = .panicked [{ v := .iface 64 (fltV (lexP l).e (lexP l).pos), recovered := false }]))
theorem code_start (l : List UInt8) (w : World) (ht : SgW w) :
    Calls Tryd.prog 26 #[.string (tx l)] w (StartC w l) := by
  have P := lexK.lex l w ht
  have hL := fun he => lexP_tokL (b := l) he
  obtain ⟨R, hR⟩ : ∃ R, lexP l = R := ⟨_, rfl⟩
  rw [hR] at P hL
  have HL := Lib.hid hL
  have HR := Lib.hid hR
  clear hR ht hL
  obtain ⟨L, x, p⟩ := R
  simp only at HL
  go_enter Tryd.func26, Tryd.ntmps26
  go_wp2_with fail
  refine P.mono ?_
  rintro e1 w1 ⟨ao, n, c, rfl, hT, hb⟩
  clear P
  simp only at hT
  by_cases hx : x = 0
  · subst hx
    obtain ⟨h1, h2⟩ := HL.out rfl
    have hn := hT.1
    have hpos := h1.pos
    have hnc : n ≤ c := by
      obtain ⟨_, _, ao', c', e, _, hnc, _⟩ := hT
      cases e
      exact hnc
    obtain ⟨a, rfl⟩ : ∃ a, ao = some a := by
      cases ao with
      | some a => exact ⟨a, rfl⟩
      | none =>
        obtain ⟨_, _, ao', c', e, _, _, h0, _⟩ := hT
        cases e
        have := (h0 rfl).1
        omega
    have HF : Hid (Below w.heap.size w (w1.alloc (.cells #[.slice (some a) n c, .int .i64 0] 77)) ∧ Below w.heap.size w w1 ∧ w.heap.size ≤ w1.heap.size ∧ Psr w1 (w1.alloc (.cells #[.slice (some a) n c, .int .i64 0] 77)) w1.heap.size L ps0) := Lib.hid
      ⟨hb.alloc hb.size _, hb, hb.size, ⟨a, n, c, ⟨cellsN (heap_alloc_new _ _) 0 _ rfl, cellsN (heap_alloc_new _ _) 1 _ rfl, fun k => frozen_of_row _ _ _ _ _ (heap_alloc_new _ _)⟩, by show n + 0 = _; omega, hnc, by show Tkr w1 _ n (L.drop 0); rw [List.drop_zero]; exact hT⟩, rfl, Nat.le_refl _, (Below.refl _ w1).alloc (Nat.le_refl _) _, hpos, h1, h2, Nat.zero_le _⟩
    clear hT hb h1 h2 hn hpos hnc
    go_wp2_with fail
    go_ret
    unfold StartC
    rw [HR.out]
    exact ⟨HF.out.1, .inl ⟨rfl, w1, w1.heap.size, HF.out.2.1, HF.out.2.2.1, rfl, HF.out.2.2.2⟩⟩
  · have hxb : (x == 0) = false := by simpa using hx
    have HB := Lib.hid hb
    clear hT hb HL
    go_wp2_with fail
    unfold StartC
    rw [HR.out]
    exact ⟨rfl, HB.out, .inr ⟨hx, rfl⟩⟩

/-- Blocks of the results. -/
structure RsB (w : World) (M E A : Nat) (cs : Array Value) (t : TypeId) (x : Int) (p : Int) : Prop where
  m : w.heap[M]? = some (.cells cs t)
  e : w.heap[E]? = some (.cells #[.int .i64 x] 32)
  a : w.heap[A]? = some (.cells #[.int .i64 p] 3)
  me : M ≠ E
  ma : M ≠ A
  ea : E ≠ A
def mod0 : Array Value := #[.string ⟨#[]⟩, .int .i64 0, .slice none 0 0, .slice none 0 0, .slice none 0 0]

def lab0 : Array Value := #[.slice none 0 0]
theorem lab_idle (M E A : Nat) (w : World) :
    CallsD Tryd.prog 25 #[.pointer (some ⟨M, 0, none⟩), .pointer (some ⟨E, 0, none⟩), .pointer (some ⟨A, 0, none⟩)] .returning w fun e u' w' =>
      e = .returned (.tuple #[]) ∧ u' = .returning ∧ Chg [] w w' := by
  have hta : ∀ w : World, (Instr.typeAssert .nilIface 20 64 true).run Tryd.prog w = .ok (.tuple #[.agg #[.int .i64 0, .int .i64 0], .bool false]) w := fun _ => by kernel_rfl
  refine callsD_of_wpS Tryd.func25 rfl fun c₀ cs hu => ?_
  apply wpS_seq
  apply wpS_region
  simp [wpOpsS, go_sem, recoverD, hu, hta, Tryd.ntmps25, Exit.thenS]
  refine wpS_of_wp ?_
  simp only [Array.replicate, List.replicate, Array.setIfInBounds]
  go_wp2_with fail
  refine ⟨rfl, .returning, by rw [← hu], _, results_none rfl _ _ _, rfl, rfl, (Chg.refl [] w).alloc _⟩

theorem lab_caught (M E A : Nat) (w : World) (x x0 y0 : Int) (p : Nat) (H : RsB w M E A lab0 23 x0 y0) :
    CallsD Tryd.prog 25 #[.pointer (some ⟨M, 0, none⟩), .pointer (some ⟨E, 0, none⟩), .pointer (some ⟨A, 0, none⟩)] (.panicking ({ v := .iface 64 (fltV x p), recovered := false } :: [])) w fun e u' w' =>
      e = .returned (.tuple #[]) ∧ u' = .panicking ({ v := .iface 64 (fltV x p), recovered := true } :: []) ∧ Chg [M, E, A] w w' ∧ RsB w' M E A lab0 23 x p := by
  have hta : ∀ (v : Value) (w : World), (Instr.typeAssert (.iface 64 v) 20 64 true).run Tryd.prog w = .ok (.tuple #[v, .bool true]) w := fun _ _ => by kernel_rfl
  unfold fltV at *
  have H1 := Lib.hid H
  clear H
  refine callsD_of_wpS Tryd.func25 rfl fun c₀ cs hu => ?_
  apply wpS_seq
  apply wpS_region
  simp [wpOpsS, go_sem, recoverD, hu, hta, Tryd.ntmps25, Exit.thenS]
  refine wpS_of_wp ?_
  simp only [Array.replicate, List.replicate, Array.setIfInBounds]
  have hF := heap_alloc_new w (.cells #[.int .i64 x, .int .i64 (p : Int)] 64)
  have hM := (heap_alloc_old _ (.cells #[.int .i64 x, .int .i64 (p : Int)] 64) (Array.getElem?_eq_some_iff.1 H1.out.m).1).trans H1.out.m
  have hE := (heap_alloc_old _ (.cells #[.int .i64 x, .int .i64 (p : Int)] 64) (Array.getElem?_eq_some_iff.1 H1.out.e).1).trans H1.out.e
  have hA := (heap_alloc_old _ (.cells #[.int .i64 x, .int .i64 (p : Int)] 64) (Array.getElem?_eq_some_iff.1 H1.out.a).1).trans H1.out.a
  have l1 := (Array.getElem?_eq_some_iff.1 H1.out.m).1
  have l2 := (Array.getElem?_eq_some_iff.1 H1.out.e).1
  have l3 := (Array.getElem?_eq_some_iff.1 H1.out.a).1
  have n1 : w.heap.size ≠ M := by omega
  have n2 : w.heap.size ≠ E := by omega
  have n3 : w.heap.size ≠ A := by omega
  have hcg : Chg [M, E, A] w (w.alloc (.cells #[.int .i64 x, .int .i64 (p : Int)] 64)) := (Chg.refl _ w).alloc _
  go_upto_region 2 with fail
  generalize w.alloc (.cells #[.int .i64 x, .int .i64 (p : Int)] 64) = W at *
  generalize w.heap.size = F at *
  have d0 : W.cell? ⟨F, 0, none⟩ = some (.int .i64 x) := cellsN hF 0 _ rfl
  have d1 : W.cell? ⟨F, 1, none⟩ = some (.int .i64 (p : Int)) := cellsN hF 1 _ rfl
  have m0 : W.cell? ⟨M, 0, none⟩ = some (.slice none 0 0) := cellsN hM 0 _ rfl
  have e0 : W.cell? ⟨E, 0, none⟩ = some (.int .i64 x0) := cellsN hE 0 _ rfl
  have a0 : W.cell? ⟨A, 0, none⟩ = some (.int .i64 y0) := cellsN hA 0 _ rfl
  have fm0 := frozen_of_row W M 0 _ _ hM
  have fe := frozen_of_row W E 0 _ _ hE
  have fa := frozen_of_row W A 0 _ _ hA
  have q1 : M ≠ F := n1.symm
  have q2 : E ≠ F := n2.symm
  have q3 : A ≠ F := n3.symm
  have q4 := H1.out.me
  have q5 := H1.out.ma
  have q6 := H1.out.ea
  have q7 := q4.symm
  have q8 := q5.symm
  have q9 := q6.symm
  have HZ := Lib.hid (And.intro hM (And.intro hE (And.intro hA hcg)))
  clear hM hE hA hF hcg l1 l2 l3
  go_region
  obtain ⟨hM, hE, hA, hcg⟩ := HZ.out
  refine ⟨rfl, .panicking [{ v := .iface 64 (.agg #[.int .i64 x, .int .i64 (p : Int)]), recovered := true }], rfl, _, results_none rfl _ _ _, rfl, rfl, ?_, ?_⟩
  · exact (((hcg.set (.inl (by simp)) 0 _).set (.inl (by simp)) 0 _).set (.inl (by simp)) 0 _).drew
  · refine ⟨?_, ?_, ?_, q4, q5, q6⟩
    · rw [heap_drew, heap_setCell_other _ _ _ _ q5, heap_setCell_other _ _ _ _ q4]
      exact heap_setCell_same _ _ _ _ _ _ hM
    · rw [heap_drew, heap_setCell_other _ _ _ _ q6]
      refine heap_setCell_same _ _ _ #[.int .i64 x0] _ _ ?_
      rw [heap_setCell_other _ _ _ _ q7]
      exact hE
    · rw [heap_drew]
      refine heap_setCell_same _ _ _ #[.int .i64 y0] _ _ ?_
      rw [heap_setCell_other _ _ _ _ q9, heap_setCell_other _ _ _ _ q8]
      exact hA


theorem res_three {fn : Func} {t : TypeId} (h : fn.results = #[.cell 2 t, .cell 3 32, .cell 4 3]) (tmps : Array Value) (w : World) (M E A : Nat) (cs : Array Value) (x p : Int) (v : Value) (H : RsB w M E A cs t x p)
    (h2 : tmps.getD 2 undef = .pointer (some ⟨M, 0, none⟩)) (h3 : tmps.getD 3 undef = .pointer (some ⟨E, 0, none⟩)) (h4 : tmps.getD 4 undef = .pointer (some ⟨A, 0, none⟩)) (hv : (loadVar t ⟨M, 0, none⟩).run Tryd.prog w = .ok v w) :
    (results fn tmps).run Tryd.prog w = .ok (.tuple #[v, .int .i64 x, .int .i64 p]) w := by
  have e0 : w.cell? ⟨E, 0, none⟩ = some (.int .i64 x) := cellsN H.e 0 _ rfl
  have a0 : w.cell? ⟨A, 0, none⟩ = some (.int .i64 p) := cellsN H.a 0 _ rfl
  have h2' : tmps[2]?.getD undef = .pointer (some ⟨M, 0, none⟩) := by simpa using h2
  have h3' : tmps[3]?.getD undef = .pointer (some ⟨E, 0, none⟩) := by simpa using h3
  have h4' : tmps[4]?.getD undef = .pointer (some ⟨A, 0, none⟩) := by simpa using h4
  have he : (loadVar 32 ⟨E, 0, none⟩).run Tryd.prog w = .ok (.int .i64 x) w := by simp [go_sem, e0]
  have ha : (loadVar 3 ⟨A, 0, none⟩).run Tryd.prog w = .ok (.int .i64 p) w := by simp [go_sem, a0]
  simp [results, h, h2', h3', h4', asAddr, hv, he, ha]

/-- What Module tells: the tree in new memory, the error, its place. -/
def ModTold (w : World) (R : Mdl × Int × Nat) (e : Ending) (w' : World) : Prop :=
  ∃ vI vV vP, e = .returned (.tuple #[.agg #[.string (tx R.1.name), .int .i64 (R.1.pos : Int), vI, vV, vP], .int .i64 R.2.1, .int .i64 (R.2.2 : Int)]) ∧ ModV w' (NewW w w') R.1 (mdlV R.1 vI vV vP) ∧ Below w.heap.size w w'
def LabTold (w : World) (R : List Par × Int × Nat) (e : Ending) (w' : World) : Prop :=
  ∃ ao m c, e = .returned (.tuple #[.slice ao m c, .int .i64 R.2.1, .int .i64 (R.2.2 : Int)]) ∧ RowsP w' (NewW w w') 3 (fun p c => c = parV p) (.slice ao m c) m R.1 ∧ Below w.heap.size w w'
theorem rs_kept {w w' : World} {M E A : Nat} {cs : Array Value} {t : TypeId} {x p : Int} {F : List Nat} (H : RsB w M E A cs t x p) (hc : Chg F w w') (hM : M ∉ F) (hE : E ∉ F) (hA : A ∉ F) : RsB w' M E A cs t x p :=
  ⟨(hc.block M (Array.getElem?_eq_some_iff.1 H.m).1 hM).trans H.m, (hc.block E (Array.getElem?_eq_some_iff.1 H.e).1 hE).trans H.e, (hc.block A (Array.getElem?_eq_some_iff.1 H.a).1 hA).trans H.a, H.me, H.ma, H.ea⟩

/-- A struct is loaded from its cells. -/
theorem run_load_agg (w : World) (a : Addr) (ty : TypeId) (cs : List Value) (d : TypeDesc) (hc : ∀ j v, cs[j]? = some v → w.cell? (a.add j) = some v)
    (hu : Tryd.prog.underlying ty = some d) (hd : (match d with | .struct _ | .array _ _ => true | _ => false) = true) (hi : (Tryd.prog.info? ty).map (·.size) = some cs.length) :
    (loadVar ty a).run Tryd.prog w = .ok (.agg cs.toArray) w := by
  have hl : (loadCells a cs.length).run Tryd.prog w = .ok cs.toArray w := run_loadCells_list (P := Tryd.prog) w a cs hc
  cases hq : Tryd.prog.info? ty with
  | none => simp [hq] at hi
  | some i =>
    have hs : i.size = cs.length := by simpa [hq] using hi
    have hagg : (isAgg ty).run Tryd.prog w = .ok true w := by
      unfold isAgg
      rw [Sem.run_bind, run_underlying hu w]
      cases d <;> simp_all
    simp [loadVar, Sem.run_bind, hagg, sizeOf, typeInfo, hq, hs, hl]
theorem load_pars {w : World} {M : Nat} {v : Value} {t : TypeId} (h : w.heap[M]? = some (.cells #[v] t)) : (loadVar 23 ⟨M, 0, none⟩).run Tryd.prog w = .ok v w := by
  have h0 : w.cell? ⟨M, 0, none⟩ = some v := cellsN h 0 _ rfl
  simp [go_sem, h0]

/-- Deferred: the closure over the results. -/
def dfr (f : FuncId) (M E A : Nat) : Deferred := { target := .fn (.func f) #[.pointer (some ⟨M, 0, none⟩), .pointer (some ⟨E, 0, none⟩), .pointer (some ⟨A, 0, none⟩)], args := #[] }
theorem lab_fell (tmps : Array Value) (R : Ending → World → Prop) (w : World) (M E A : Nat) (x x0 y0 : Int) (p : Nat) (H : RsB w M E A lab0 23 x0 y0)
    (h2 : tmps.getD 2 undef = .pointer (some ⟨M, 0, none⟩)) (h3 : tmps.getD 3 undef = .pointer (some ⟨E, 0, none⟩)) (h4 : tmps.getD 4 undef = .pointer (some ⟨A, 0, none⟩))
    (h : ∀ w', Chg [M, E, A] w w' → R (.returned (.tuple #[.slice none 0 0, .int .i64 x, .int .i64 (p : Int)])) w') :
    Leaves Tryd.prog Tryd.f21 tmps R [dfr 25 M E A] (.panicking [{ v := .iface 64 (fltV x p), recovered := false }]) w := by
  refine leaves_cons (f := 25) (args := #[.pointer (some ⟨M, 0, none⟩), .pointer (some ⟨E, 0, none⟩), .pointer (some ⟨A, 0, none⟩)]) (by simp) rfl ((lab_caught M E A w x x0 y0 p H).mono ?_)
  rintro e u w' ⟨rfl, rfl, hc, hr⟩
  exact ⟨_, res_three rfl tmps w' M E A lab0 x p _ hr h2 h3 h4 (load_pars hr.m), h w' hc⟩
theorem lab_rest (tmps : Array Value) (R : Ending → World → Prop) (w : World) (M E A : Nat) (v : Value) (x p : Int) (H : RsB w M E A #[v] 23 x p)
    (h2 : tmps.getD 2 undef = .pointer (some ⟨M, 0, none⟩)) (h3 : tmps.getD 3 undef = .pointer (some ⟨E, 0, none⟩)) (h4 : tmps.getD 4 undef = .pointer (some ⟨A, 0, none⟩))
    (h : ∀ w', Chg [] w w' → R (.returned (.tuple #[v, .int .i64 x, .int .i64 p])) w') :
    Leaves Tryd.prog Tryd.f21 tmps R [dfr 25 M E A] .returning w := by
  refine leaves_cons (f := 25) (args := #[.pointer (some ⟨M, 0, none⟩), .pointer (some ⟨E, 0, none⟩), .pointer (some ⟨A, 0, none⟩)]) (by simp) rfl ((lab_idle M E A w).mono ?_)
  rintro e u w' ⟨rfl, rfl, hc⟩
  have hr := rs_kept H hc (by simp) (by simp) (by simp)
  exact ⟨_, res_three rfl tmps w' M E A #[v] x p _ hr h2 h3 h4 (load_pars hr.m), h w' hc⟩

/-- Where the three results lie, in new memory. -/
structure Thr (w W : World) (M E A : Nat) (cs : Array Value) (t : TypeId) : Prop where
  b : RsB W M E A cs t 0 0
  o : Below w.heap.size w W
  m : w.heap.size ≤ M
  e : w.heap.size ≤ E
  a : w.heap.size ≤ A
theorem thr_new (w : World) (cs : Array Value) (t : TypeId) : Thr w (((w.alloc (.cells cs t)).alloc (.cells #[.int .i64 0] 32)).alloc (.cells #[.int .i64 0] 3)) w.heap.size (w.heap.size + 1) (w.heap.size + 1 + 1) cs t := by
  refine ⟨⟨?_, ?_, ?_, by omega, by omega, by omega⟩, (((Below.refl _ w).alloc (Nat.le_refl _) _).alloc (by simp) _).alloc (by simp; omega) _, by omega, by omega, by omega⟩
  · rw [heap_alloc_old _ _ (by simp; omega), heap_alloc_old _ _ (by simp)]
    exact heap_alloc_new _ _
  · rw [heap_alloc_old _ _ (by simp)]
    have := heap_alloc_new (w.alloc (.cells cs t)) (.cells #[.int .i64 0] 32)
    rw [show (w.alloc (.cells cs t)).heap.size = w.heap.size + 1 by simp] at this
    exact this
  · have := heap_alloc_new ((w.alloc (.cells cs t)).alloc (.cells #[.int .i64 0] 32)) (.cells #[.int .i64 0] 3)
    rw [show ((w.alloc (.cells cs t)).alloc (.cells #[.int .i64 0] 32)).heap.size = w.heap.size + 1 + 1 by simp] at this
    exact this

theorem below_of {w W W' : World} {F : List Nat} (h : Below w.heap.size w W) (hc : Chg F W W') (hF : ∀ x ∈ F, w.heap.size ≤ x) : Below w.heap.size w W' := by
  exact h.trans (hc.below h.size hF)

theorem modV_shapes {w : World} {P : Nat → Prop} {m : Mdl} {vI vV vP : Value} (h : ModV w P m (mdlV m vI vV vP)) : (∃ a n c, vI = .slice a n c) ∧ (∃ a n c, vV = .slice a n c) ∧ ∃ a n c, vP = .slice a n c := by
  obtain ⟨vI', nI, vV', nV, vP', nP, e, h1, h2, h3⟩ := h
  simp only [mdlV, List.cons.injEq, true_and, and_true] at e
  obtain ⟨rfl, rfl, rfl⟩ := e
  obtain ⟨a, c, rfl⟩ := h1.shape
  obtain ⟨a', c', rfl⟩ := h2.shape
  obtain ⟨a'', c'', rfl⟩ := h3.shape
  exact ⟨⟨_, _, _, rfl⟩, ⟨_, _, _, rfl⟩, ⟨_, _, _, rfl⟩⟩
theorem ModV.chg {w w' : World} {P Q : Nat → Prop} {F : List Nat} {m : Mdl} {cs : List Value} (h : ModV w P m cs) (hc : Chg F w w') (hP : ∀ k, P k → k ∉ F) (hQ : ∀ k, P k → Q k) : ModV w' Q m cs := by
  obtain ⟨vI', nI, vV', nV, vP', nP, e, h1, h2, h3⟩ := h
  exact ⟨vI', nI, vV', nV, vP', nP, e, h1.chg hc hP hQ (fun _ _ h => h), h2.chg hc hP hQ (fun _ _ h => h), h3.chg hc hP hQ (ProcV.chg hc hP hQ)⟩

theorem modTold_none {w w' : World} {x : Int} {p : Nat} (hb : Below w.heap.size w w') : ModTold w (mdl0, x, p) (.returned (.tuple #[.agg mod0, .int .i64 x, .int .i64 (p : Int)])) w' :=
  ⟨.slice none 0 0, .slice none 0 0, .slice none 0 0, rfl, ⟨_, 0, _, 0, _, 0, rfl, RowsP.nil _ _ _ _, RowsP.nil _ _ _ _, RowsP.nil _ _ _ _⟩, hb⟩

theorem labTold_none {w w' : World} {x : Int} {p : Nat} (hb : Below w.heap.size w w') : LabTold w ([], x, p) (.returned (.tuple #[.slice none 0 0, .int .i64 x, .int .i64 (p : Int)])) w' :=
  ⟨none, 0, 0, rfl, RowsP.nil _ _ _ _, hb⟩

theorem code_labels (l : List UInt8) (w : World) (ht : SgW w) : Calls Tryd.prog 21 #[.string (tx l)] w (LabTold w (labelsP l)) := by
  have hmf : ∀ (fn : Fn) (first cap : Array Value) (w : World), (Instr.makeFunc fn first cap).run Tryd.prog w = .ok (.func fn first cap) w := fun _ _ _ _ => rfl
  obtain ⟨W, hW⟩ : ∃ W, ((w.alloc (.cells lab0 23)).alloc (.cells #[.int .i64 0] 32)).alloc (.cells #[.int .i64 0] 3) = W := ⟨_, rfl⟩
  have HR := Lib.hid (thr_new w lab0 23)
  rw [hW] at HR
  have P := code_start l W (ht.later HR.out.o)
  unfold lab0 at hW
  clear ht
  go_enter_defers Tryd.func21, Tryd.ntmps21
  go_wp2_with fail
  refine P.mono ?_
  generalize w.heap.size + 1 + 1 = A at *
  generalize w.heap.size + 1 = E at *
  generalize hM : w.heap.size = M at HR ⊢
  rintro e1 w1 ⟨hb, ⟨he, w0, b, hb0, hlo, rfl, hp⟩ | ⟨he, rfl⟩⟩
  case inr =>
    have hR1 := rs_kept HR.out.b (Chg.of_below (F := []) hb) (by simp) (by simp) (by simp)
    have hq : labelsP l = ([], (lexP l).e, (lexP l).pos) := by rw [labelsP, if_pos he]
    rw [hq]
    refine lab_fell _ _ w1 _ _ _ _ 0 0 _ hR1 rfl rfl rfl fun w' hc => ?_
    exact labTold_none (below_of (HR.out.o.trans (hb.mono HR.out.o.size)) hc (by simp [HR.out.m, HR.out.e, HR.out.a]))
  have HB := Lib.hid (And.intro hb (And.intro hb0 (And.intro hlo he)))
  have P2 := psr_labels w0 w1 b (lexP l).l ps0 hp
  have hbl := hp.blt
  obtain ⟨r, hr0⟩ : ∃ r, labelsT (lexP l).l ps0 = r := ⟨_, rfl⟩
  rw [hr0] at P2
  have HQ := Lib.hid hr0
  have hM2 := HR.out.b.m
  have l1 := (Array.getElem?_eq_some_iff.1 HR.out.b.m).1
  have l2 := (Array.getElem?_eq_some_iff.1 HR.out.b.e).1
  have l3 := (Array.getElem?_eq_some_iff.1 HR.out.b.a).1
  clear hb hb0 he hp hr0 P hW hM2
  go_wp2_with fail
  refine P2.mono ?_
  rintro e2 w2 ⟨hc, ⟨h0, _, h2⟩ | ⟨h0, rfl⟩⟩
  case inr =>
    have hR1 := rs_kept (rs_kept HR.out.b (Chg.of_below (F := []) HB.out.1) (by simp) (by simp) (by simp)) hc (by simp; omega) (by simp; omega) (by simp; omega)
    have hq : labelsP l = ([], r.2.e, r.2.pos) := by rw [labelsP, if_neg (by rw [HB.out.2.2.2]; simp)]; simp only; rw [HQ.out, if_pos h0]
    rw [hq]
    refine lab_fell _ _ w2 _ _ _ _ 0 0 _ hR1 rfl rfl rfl fun w' hc' => ?_
    subst hM
    exact labTold_none (below_of (below_of (HR.out.o.trans (HB.out.1.mono HR.out.o.size)) hc (by simp; have := HR.out.o.size; omega)) hc' (by simp [HR.out.e, HR.out.a]))
  obtain ⟨aI, nI, cI, rfl, hv⟩ := h2
  have hR1 := rs_kept (rs_kept HR.out.b (Chg.of_below (F := []) HB.out.1) (by simp) (by simp) (by simp)) hc (by simp; omega) (by simp; omega) (by simp; omega)
  have hM' := hR1.m
  have hE' := hR1.e
  have hA' := hR1.a
  have m0 : w2.cell? ⟨M, 0, none⟩ = some (.slice none 0 0) := cellsN hM' 0 _ rfl
  have e0 : w2.cell? ⟨E, 0, none⟩ = some (.int .i64 0) := cellsN hE' 0 _ rfl
  have a0 : w2.cell? ⟨A, 0, none⟩ = some (.int .i64 0) := cellsN hA' 0 _ rfl
  have fm0 := frozen_of_row w2 M 0 _ _ hM'
  have fe := frozen_of_row w2 E 0 _ _ hE'
  have fa := frozen_of_row w2 A 0 _ _ hA'
  have q4 := hR1.me
  have q5 := hR1.ma
  have q6 := hR1.ea
  have q7 := q4.symm
  have q8 := q5.symm
  have q9 := q6.symm
  have HZ := Lib.hid (And.intro hM' (And.intro hE' (And.intro hA' (And.intro hc (And.intro h0 hv)))))
  clear hM' hE' hA' hc h0 hv hR1 P2 l1 l2 l3
  go_wp2_with fail
  obtain ⟨hM', hE', hA', hc, h0, hv⟩ := HZ.out
  have hq : labelsP l = (r.1, 0, 0) := by rw [labelsP, if_neg (by rw [HB.out.2.2.2]; simp)]; simp only; rw [HQ.out, if_neg (by rw [h0]; simp)]
  rw [hq]
  generalize hW3 : ((w2.setCell ⟨M, 0, none⟩ _).setCell ⟨E, 0, none⟩ _).setCell ⟨A, 0, none⟩ _ = W3
  have hcg : Chg [M, E, A] w2 W3 := by
    rw [← hW3]
    exact ((((Chg.refl _ w2).set (.inl (by simp)) 0 _).set (.inl (by simp)) 0 _).set (.inl (by simp)) 0 _)
  have hR3 : RsB W3 M E A #[.slice aI nI cI] 23 0 0 := by
    rw [← hW3]
    refine ⟨?_, ?_, ?_, q4, q5, q6⟩
    · rw [heap_setCell_other _ _ _ _ q5, heap_setCell_other _ _ _ _ q4]
      exact heap_setCell_same _ _ _ _ _ _ hM'
    · rw [heap_setCell_other _ _ _ _ q6]
      refine heap_setCell_same _ _ _ #[.int .i64 0] _ _ ?_
      rw [heap_setCell_other _ _ _ _ q7]
      exact hE'
    · refine heap_setCell_same _ _ _ #[.int .i64 0] _ _ ?_
      rw [heap_setCell_other _ _ _ _ q9, heap_setCell_other _ _ _ _ q8]
      exact hA'
  refine lab_rest _ _ W3 M E A _ 0 0 hR3 rfl rfl rfl fun w' hc' => ?_
  have hs1 := HB.out.1.size
  have hs2 := hc.size
  have hs3 := hcg.size
  have hs4 := hc'.size
  have hs0 := HR.out.o.size
  have hmn := HR.out.b.m
  have l1 := (Array.getElem?_eq_some_iff.1 HR.out.b.m).1
  have l2 := (Array.getElem?_eq_some_iff.1 HR.out.b.e).1
  have l3 := (Array.getElem?_eq_some_iff.1 HR.out.b.a).1
  refine ⟨_, _, _, rfl, ?_, ?_⟩
  · refine RowsP.chg hv (hcg.trans' hc' (by simp)) ?_ ?_ (fun _ _ h => h)
    · intro k hk
      have := hk.1
      simp only [List.mem_cons, List.not_mem_nil, or_false]
      omega
    · intro k hk
      exact ⟨by have := hk.1; omega, by have := hk.2; omega⟩
  · have hmm := HR.out.m
    have hee := HR.out.e
    have haa := HR.out.a
    refine below_of (below_of (below_of (HR.out.o.trans (HB.out.1.mono HR.out.o.size)) hc (by simp; omega)) hcg (by simp; omega)) hc' (by simp)

end Go.Proofs.YtlgfijjkbomejaaDoor
