/- The code's parser: accept, fault, expect, expectKind, open, shut, name, qname. Numbers and types by name. -/
import Derived.Test.YtejaikpnfhhmnaaDoorPlx
import Derived.Test.YtejaikpnfhhmnaaDoorPax
/- The code's parser in memory; peek, take. Numbers and types by name. -/
namespace Go.Proofs.YtejaikpnfhhmnaaDoor
open Go.RowKit Go.Lib
set_option maxRecDepth 100000

/-- A parser's cells. -/
structure PaS (w : World) (b : Nat) (a : Addr) (n c d : Nat) : Prop where
  c0 : w.cell? ⟨b, 0, none⟩ = some (.slice (some a) n c)
  c1 : w.cell? ⟨b, 1, none⟩ = some (.int .i64 (d : Int))
  fz : ∀ k, w.frozen? ⟨b, k, none⟩ = false
theorem PaS.chg {w w' : World} {b : Nat} {a : Addr} {n c d : Nat} {F : List Nat} (h : PaS w b a n c d) (hc : Chg F w w') (hb : b ∉ F) : PaS w' b a n c d :=
  ⟨hc.cell h.c0 hb, hc.cell h.c1 hb, fun k => (World.frozen?_of_block (a := ⟨b, k, none⟩) (hc.block b (World.block_lt_of_cell? w _ h.c0) hb)).trans (h.fz k)⟩
theorem PaS.set0 {w : World} {b : Nat} {a : Addr} {n c d : Nat} (h : PaS w b a n c d) (a' : Addr) (n' c' : Nat) : PaS (w.setCell ⟨b, 0, none⟩ (.slice (some a') n' c')) b a' n' c' d :=
  ⟨World.cell?_setCell_same w _ _ h.c0, (World.cell?_setCell_other w _ _ _ (ne_off (by decide))).trans h.c1, fun k => by rw [World.frozen?_setCell]; exact h.fz k⟩
theorem PaS.set1 {w : World} {b : Nat} {a : Addr} {n c d : Nat} (h : PaS w b a n c d) (d' : Nat) : PaS (w.setCell ⟨b, 1, none⟩ (.int .i64 (d' : Int))) b a n c d' :=
  ⟨(World.cell?_setCell_other w _ _ _ (ne_off (by decide))).trans h.c0, World.cell?_setCell_same w _ _ h.c1, fun k => by rw [World.frozen?_setCell]; exact h.fz k⟩

/-- The code's parser, where no error is: what is left of the tokens, how deep. -/
structure Psr (w0 w : World) (b : Nat) (L : List Tk) (s : PS) : Prop where
  r : ∃ a n c, PaS w b a n c s.deep ∧ n + s.i = L.length ∧ n ≤ c ∧ Tkr w0 (.slice (some a) n c) n (L.drop s.i)
  e : s.e = 0
  lo : w0.heap.size ≤ b
  b : Below w0.heap.size w0 w
  lt : s.i < L.length
  ok : TokL L
  x : TokX L
  deep : s.deep ≤ 40
theorem Psr.blt {w0 w : World} {b : Nat} {L : List Tk} {s : PS} (h : Psr w0 w b L s) : b < w.heap.size := by
  obtain ⟨a, n, c, h1, _⟩ := h.r
  exact World.block_lt_of_cell? w _ h1.c0
theorem Psr.chg {w0 w w' : World} {b : Nat} {L : List Tk} {s : PS} {F : List Nat} (h : Psr w0 w b L s) (hc : Chg F w w') (hF : ∀ x ∈ F, b < x) : Psr w0 w' b L s := by
  obtain ⟨a, n, c, h1, h2⟩ := h.r
  exact ⟨⟨a, n, c, h1.chg hc (fun hm => Nat.lt_irrefl _ (hF b hm)), h2⟩, h.e, h.lo, h.b.trans (hc.below (Nat.le_trans h.b.size (Nat.le_refl _)) fun x hx => Nat.le_trans h.lo (Nat.le_of_lt (hF x hx))), h.lt, h.ok, h.x, h.deep⟩
theorem drop_cur {L : List Tk} {s : PS} (h : s.i < L.length) : (L.drop s.i)[0]? = some (curT L s) := by
  rw [List.getElem?_drop, Nat.add_zero]
  unfold curT
  rw [List.getD_eq_getElem?_getD, List.getElem?_eq_getElem h]
  rfl
/-- The cells of the token that stands there. -/
theorem tk_cur {w0 w1 : World} {a : Addr} {n c : Nat} {L : List Tk} {s : PS} (ht : Tkr w0 (.slice (some a) n c) n (L.drop s.i)) (hn : n + s.i = L.length) (hi : s.i < L.length) (hg : Grow w0 w1) :
    w1.cell? a = some (.int .i64 (curT L s).kind) ∧ w1.cell? ⟨a.block, a.off + 1, none⟩ = some (.string (tx (curT L s).text)) ∧ w1.cell? ⟨a.block, a.off + 2, none⟩ = some (.int .i64 ((curT L s).pos : Int)) := by
  obtain ⟨a', o, e, ho, c0, c1, c2⟩ := (ht.later hg).at (k := 0) (by omega)
  cases e
  rw [drop_cur hi] at ho
  cases ho
  have e0 : a.add (0 * 3) = a := by
    unfold Addr.add
    rw [if_pos (Nat.zero_mul 3)]
  rw [e0] at c0 c1 c2
  exact ⟨c0, c1, c2⟩
/-- A token as a value. -/
def tokV (t : Tk) : Value := .agg #[.int .i64 t.kind, .string (tx t.text), .int .i64 (t.pos : Int)]
theorem res_tok {fn : Func} {p : Tmp} (h : fn.results = #[.cell p 96]) (tmps : Array Value) (w : World) (g : Nat) (t : Tk)
    (hp : tmps.getD p undef = .pointer (some ⟨g, 0, none⟩)) (hg : w.heap[g]? = some (.cells #[.int .i64 t.kind, .string (tx t.text), .int .i64 (t.pos : Int)] 96 (0, 0))) :
    (results fn tmps).run Tryd.prog w = .ok (tokV t) w :=
  results_cell_row h tmps w g _ _ _ _ hp hg Tryd.underlying96 rfl (by show _ = some 3; kernel_rfl)
theorem tok_kind (t : Tk) (w : World) : (Instr.field 96 (.agg #[.int .i64 t.kind, .string (tx t.text), .int .i64 (t.pos : Int)]) 0).run Tryd.prog w = .ok (.int .i64 t.kind) w := by kernel_rfl
theorem tok_text (t : Tk) (w : World) : (Instr.field 96 (.agg #[.int .i64 t.kind, .string (tx t.text), .int .i64 (t.pos : Int)]) 1).run Tryd.prog w = .ok (.string (tx t.text)) w := by kernel_rfl
theorem tok_pos (t : Tk) (w : World) : (Instr.field 96 (.agg #[.int .i64 t.kind, .string (tx t.text), .int .i64 (t.pos : Int)]) 2).run Tryd.prog w = .ok (.int .i64 (t.pos : Int)) w := by kernel_rfl
/-- What a piece of the parser leaves that cannot fail. -/
def Pets (w0 w : World) (b : Nat) (L : List Tk) (s' : PS) (x : Ending) (e : Ending) (w' : World) : Prop := e = x ∧ Psr w0 w' b L s' ∧ Chg [b] w w'
theorem Pets.out1 {w0 w w' : World} {b : Nat} {L : List Tk} {s' : PS} {x e : Ending} (h : Pets w0 w b L s' x e w') : e = x ∧ Hid (Psr w0 w' b L s' ∧ Chg [b] w w') := ⟨h.1, Lib.hid h.2⟩

theorem psr_peek (w0 w : World) (b : Nat) (L : List Tk) (s : PS) (h : Psr w0 w b L s) :
    Calls Tryd.prog 70 #[.pointer (some ⟨b, 0, none⟩)] w (Pets w0 w b L s (.returned (tokV (curT L s)))) := by
  have H := Lib.hid h
  obtain ⟨a, n, c, h1, hn, hnc, ht⟩ := h.r
  have hlt := h.lt
  have hg := h.b
  obtain ⟨d0, d1, d2⟩ := tk_cur ht hn hlt (w1 := w.alloc tok0) (hg.alloc hg.size _)
  have c0 : (w.alloc tok0).cell? ⟨b, 0, none⟩ = _ := ((Chg.refl [] w).alloc tok0).cell h1.c0 (by simp)
  have hin : (0 : Int) < (n : Int) := by omega
  unfold tokV
  generalize curT L s = t at *
  obtain ⟨kd, tt, p⟩ := t
  simp only at d0 d1 d2
  clear h h1 ht hlt hg hn hnc
  go_enter Tryd.func70, Tryd.ntmps70
  go_wp2_with fail
  refine bodyPost_ret (res_tok rfl _ _ w.heap.size ⟨kd, tt, p⟩ rfl (heap_alloc_new _ _)) rfl ?_
  exact ⟨rfl, H.out.chg ((Chg.refl [] w).alloc _) (fun x hx => by cases hx), (Chg.refl _ w).alloc _⟩

/-- The sign or word has gone by. -/
theorem Psr.next {w0 w w1 w2 : World} {b : Nat} {L : List Tk} {s : PS} {a : Addr} {n c : Nat} (h : Psr w0 w b L s) (hm : s.i + 1 < L.length) (h1 : PaS w1 b a n c s.deep) (hn : n + s.i = L.length) (hnc : n ≤ c) (ht : Tkr w0 (.slice (some a) n c) n (L.drop s.i)) (hc : Chg [b] w w1) (e2 : w2 = w1.setCell ⟨b, 0, none⟩ (.slice (some (a.add 3)) (n - 1) (c - 1))) : Psr w0 w2 b L s.go ∧ Chg [b] w w2 := by
  subst e2
  have hc2 := hc.set (.inl (List.mem_singleton.2 rfl)) 0 (.slice (some (a.add 3)) (n - 1) (c - 1))
  refine ⟨⟨⟨a.add 3, n - 1, c - 1, h1.set0 _ _ _, by show n - 1 + (s.i + 1) = _; omega, by omega, ?_⟩, h.e, h.lo, h.b.trans (hc2.below h.b.size fun x hx => by rw [List.mem_singleton] at hx; rw [hx]; exact h.lo), hm, h.ok, h.x, h.deep⟩, hc2⟩
  obtain ⟨t1, t2, ao, c', e, g1, g2, g3, g4⟩ := ht
  cases e
  have hd : L.drop s.i = curT L s :: L.drop (s.i + 1) := by
    rw [List.drop_eq_getElem_cons h.lt]
    congr 1
    unfold curT
    rw [List.getD_eq_getElem?_getD, List.getElem?_eq_getElem h.lt]
    rfl
  rw [hd] at g1 g4
  refine ⟨by rw [List.length_drop]; show n - 1 = L.length - (s.i + 1); omega, by omega, some (a.add 3), c - 1, rfl, ?_, by omega, (fun e => by cases e), fun a' ha j u hj => ?_⟩
  · rw [tvs_length, List.length_drop]
    show (L.length - (s.i + 1)) * 3 = (n - 1) * 3
    congr 1
    omega
  · cases ha
    rw [Addr.add_add]
    refine g4 a rfl (3 + j) u ?_
    show ((curT L s :: L.drop (s.i + 1)).flatMap tv)[3 + j]? = some u
    rw [List.flatMap_cons, List.getElem?_append_right (by simp [tv]), ← hj]
    congr 1
    simp [tv]

theorem psr_take (w0 w : World) (b : Nat) (L : List Tk) (s : PS) (h : Psr w0 w b L s) (hm : s.i + 1 < L.length) :
    Calls Tryd.prog 98 #[.pointer (some ⟨b, 0, none⟩)] w (Pets w0 w b L s.go (.returned (tokV (curT L s)))) := by
  have H := Lib.hid h
  obtain ⟨a, n, c, h1, hn, hnc, ht⟩ := h.r
  have hlt := h.lt
  have hg := h.b
  have hfew := h.ok.few
  have hblt := h.blt
  have hc1 : Chg [] w (w.alloc tok0) := (Chg.refl [] w).alloc tok0
  obtain ⟨d0, d1, d2⟩ := tk_cur ht hn hlt (w1 := w.alloc tok0) (hg.alloc hg.size _)
  have c0 : (w.alloc tok0).cell? ⟨b, 0, none⟩ = _ := hc1.cell h1.c0 (by simp)
  have hin : (0 : Int) < (n : Int) := by omega
  have hin2 : (1 : Int) ≤ (n : Int) := by omega
  have hin3 : ¬ c = 1 := by omega
  have hnc2 : n ≤ c := hnc
  have fz : w.frozen? ⟨b, 0, none⟩ = false := h1.fz 0
  unfold tokV
  obtain ⟨t, ht0⟩ : ∃ t, curT L s = t := ⟨_, rfl⟩
  rw [ht0] at d0 d1 d2 ⊢
  have HT := Lib.hid (And.intro ht0 (And.intro h1 ht))
  obtain ⟨kd, tt, p⟩ := t
  simp only at d0 d1 d2
  clear h h1 ht hg ht0
  go_enter Tryd.func98, Tryd.ntmps98
  go_wp2_with fail
  refine bodyPost_ret (res_tok rfl _ _ w.heap.size ⟨kd, tt, p⟩ rfl ?_) rfl ?_
  · rw [heap_alloc_old _ _ (by simp [World.setCell])]
    have := heap_alloc_new (w.setCell ⟨b, 0, none⟩ (.slice (some ⟨a.block, a.off + 3, none⟩) (n - 1) (c - 1))) (.cells #[.int .i64 kd, .string (tx tt), .int .i64 (p : Int)] 96)
    rw [show (w.setCell ⟨b, 0, none⟩ (.slice (some ⟨a.block, a.off + 3, none⟩) (n - 1) (c - 1))).heap.size = w.heap.size by simp [World.setCell]] at this
    exact this
  · obtain ⟨ht0, h1, ht⟩ := HT.out
    obtain ⟨g1, g2⟩ := H.out.next hm h1 hn hnc ht (Chg.refl [b] w) rfl
    have e3 : a.add 3 = ⟨a.block, a.off + 3, none⟩ := rfl
    rw [e3] at g1 g2
    exact ⟨rfl, (g1.chg ((Chg.refl [] _).alloc _) (fun x hx => by cases hx)).chg ((Chg.refl [] _).alloc _) (fun x hx => by cases hx), (g2.alloc _).alloc _⟩

end Go.Proofs.YtejaikpnfhhmnaaDoor

namespace Go.Proofs.YtejaikpnfhhmnaaDoor
open Go.RowKit Go.Lib
set_option maxRecDepth 100000

/-- What a parser panics with. -/
def fltV (e : Int) (p : Nat) : Value := .agg #[.int .i64 e, .int .i64 (p : Int)]
abbrev Pnk (s : PS) : Ending := .panicked [{ v := .iface 83 (fltV s.e s.pos), recovered := false }]
/-- What a piece of the parser leaves: a value and the state, or a panic with the first error. -/
def Ends (w0 w : World) (b : Nat) (L : List Tk) (s' : PS) (V : World → Ending → Prop) (e : Ending) (w' : World) : Prop :=
  Chg [b] w w' ∧ ((s'.e = 0 ∧ Psr w0 w' b L s' ∧ V w' e) ∨ (s'.e ≠ 0 ∧ e = Pnk s'))
theorem Ends.out1 {w0 w w' : World} {b : Nat} {L : List Tk} {s' : PS} {V : World → Ending → Prop} {e : Ending} (h : Ends w0 w b L s' V e w') : (s'.e = 0 ∧ V w' e ∧ Hid (Psr w0 w' b L s' ∧ Chg [b] w w')) ∨ (s'.e ≠ 0 ∧ e = Pnk s' ∧ Hid (Chg [b] w w')) := by
  obtain ⟨hc, ⟨h0, h1, h2⟩ | ⟨h0, h1⟩⟩ := h
  · exact .inl ⟨h0, h2, Lib.hid ⟨h1, hc⟩⟩
  · exact .inr ⟨h0, h1, Lib.hid hc⟩
def Ret (v : Value) : World → Ending → Prop := fun _ e => e = .returned v

theorem psr_accept (w0 w : World) (b : Nat) (L : List Tk) (s : PS) (t : List UInt8) (h : Psr w0 w b L s) (ht : t ∈ wordsL) :
    Calls Tryd.prog 85 #[.pointer (some ⟨b, 0, none⟩), .string (tx t)] w (Pets w0 w b L (takeT L s t) (.returned (.bool (isT L s t)))) := by
  have P := psr_peek w0 w b L s h
  have hi := isT_text h.x h.lt h.e ht
  have y1 := tx_list (curT L s).text
  have y2 := tx_list t
  unfold tokV at P
  have f1 := tok_text (curT L s)
  cases hB : isT L s t with
  | false =>
    have hn : takeT L s t = s := by rw [takeT, hB, if_neg (by simp)]
    rw [hn]
    rw [hB] at hi
    have hne : ¬ (curT L s).text = t := of_decide_eq_false hi.symm
    have hnb : ((curT L s).text == t) = false := by simpa using hne
    clear h hi hB hn
    go_enter Tryd.func85, Tryd.ntmps85
    go_wp2_with fail
    refine P.mono ?_
    rintro e1 w1 hr
    obtain ⟨rfl, H1⟩ := hr.out1
    clear hr P
    go_wp2_with fail
    go_ret
    exact ⟨rfl, H1.out⟩
  | true =>
    have hn : takeT L s t = s.go := by rw [takeT, hB, if_pos rfl]
    rw [hn]
    rw [hB] at hi
    have he : (curT L s).text = t := of_decide_eq_true hi.symm
    have hm := isT_more h.ok hB h.lt
    have K := fun w1 h1 => psr_take w0 w1 b L s h1 hm
    unfold tokV at K
    rw [he] at P y1 f1
    have heb : (t == t) = true := by simp
    clear h hi hB hn he hm
    go_enter Tryd.func85, Tryd.ntmps85
    go_wp2_with fail
    refine P.mono ?_
    rintro e1 w1 hr
    obtain ⟨rfl, H1⟩ := hr.out1
    clear hr P
    go_wp2_with fail
    refine (K w1 H1.out.1).mono ?_
    rintro e2 w2 hr
    obtain ⟨rfl, H2⟩ := hr.out1
    clear hr K
    go_wp2_with fail
    go_ret
    exact ⟨rfl, H2.out.1, H1.out.2.trans H2.out.2⟩

theorem Chg.setRow {F : List Nat} {a w : World} (h : Chg F a w) {c : Nat} (hc : c ∈ F ∨ a.heap.size ≤ c) (cs : Array Value) : Chg F a (w.setRow c cs) :=
  ⟨h.os, h.tape, h.output, by simpa using h.size, fun i hi hn => (setRow_other w c i cs (by rintro rfl; exact hc.elim hn (fun e => by omega))).trans (h.block i hi hn)⟩
theorem Psr.setRow {w0 w : World} {b : Nat} {L : List Tk} {s : PS} (h : Psr w0 w b L s) {c : Nat} (hc : b < c) (cs : Array Value) : Psr w0 (w.setRow c cs) b L s :=
  h.chg (F := [c]) ((Chg.refl [c] w).setRow (.inl (List.mem_singleton.2 rfl)) cs) (fun x hx => by rw [List.mem_singleton] at hx; rw [hx]; exact hc)
/-- A block that was made ahead is as it was. -/
theorem row_kept {w w1 : World} {b : Nat} {o : Obj} (hb : b < w.heap.size) (hc : Chg [b] (w.alloc o) w1) : w1.heap[w.heap.size]? = some o :=
  (hc.block w.heap.size (by simp) (by rw [List.mem_singleton]; omega)).trans (heap_alloc_new w o)
theorem flt_info (x : Int) (p : Nat) : (Tryd.prog.info? 83).map (·.size) = some (#[Value.int .i64 x, .int .i64 (p : Int)]).size := by
  show _ = some 2
  kernel_rfl
theorem flt_ones (x : Int) (p : Nat) : (#[Value.int .i64 x, .int .i64 (p : Int)]).all (·.oneCell') = true := by simp [Value.oneCell']
theorem tok_info (t : Tk) : (Tryd.prog.info? 96).map (·.size) = some (#[Value.int .i64 t.kind, .string (tx t.text), .int .i64 (t.pos : Int)]).size := by
  show _ = some 3
  kernel_rfl
theorem tok_ones (t : Tk) : (#[Value.int .i64 t.kind, .string (tx t.text), .int .i64 (t.pos : Int)]).all (·.oneCell') = true := by simp [Value.oneCell']
theorem psr_fault (w0 w : World) (b : Nat) (L : List Tk) (s : PS) (x : Int) (h : Psr w0 w b L s) :
    Calls Tryd.prog 86 #[.pointer (some ⟨b, 0, none⟩), .int .i64 x] w (Pets w0 w b L s (.returned (fltV x (curT L s).pos))) := by
  have P := fun w1 h1 => psr_peek w0 w1 b L s h1
  have H := Lib.hid h
  unfold tokV at P
  unfold fltV
  have f2 := tok_pos (curT L s)
  generalize curT L s = t at *
  obtain ⟨kd, tt, p⟩ := t
  simp only at P f2
  have HA := Lib.hid (h.chg ((Chg.refl [] w).alloc (.cells #[.int .i64 0, .int .i64 0] 83)) (fun x hx => by cases hx))
  clear h
  go_enter Tryd.func86, Tryd.ntmps86
  go_wp2_with fail
  refine (P _ HA.out).mono ?_
  rintro e1 w1 hr
  obtain ⟨rfl, H1⟩ := hr.out1
  have HZ := Lib.hid (row_kept H.out.blt H1.out.2)
  clear hr P
  go_wp2_with (refine wpList_store_row rfl 83 (.tmp 4) (.tmp 9) rfl w.heap.size _ rfl rfl _ _ HZ.out (flt_info _ _) rfl (flt_ones _ _) ?_)
  try simp only [Exit.inBlock, Exit.then]
  refine bodyPost_ret (results_cell_row rfl _ _ w.heap.size _ _ _ _ rfl (setRow_heap _ _ _ _ _ _ HZ.out) Tryd.underlying83 rfl (flt_info _ _)) rfl ?_
  have hb := H.out.blt
  exact ⟨rfl, H1.out.1.setRow hb _, (((Chg.refl [b] w).alloc _).trans H1.out.2).setRow (.inr (Nat.le_refl _)) _⟩

theorem psr_expect (w0 w : World) (b : Nat) (L : List Tk) (s : PS) (t : List UInt8) (h : Psr w0 w b L s) (ht : t ∈ wordsL) :
    Calls Tryd.prog 69 #[.pointer (some ⟨b, 0, none⟩), .string (tx t)] w (Ends w0 w b L (wantT L s t) (Ret (.tuple #[]))) := by
  have P := psr_accept w0 w b L s t h ht
  have F := fun w1 h1 => psr_fault w0 w1 b L s 11 h1
  have he := h.e
  cases hB : isT L s t with
  | false =>
    have hn : takeT L s t = s := by rw [takeT, hB, if_neg (by simp)]
    have hw : wantT L s t = { s with e := 11, pos := (curT L s).pos } := by
      rw [wantT, hB, if_neg (by simp), failT, if_pos he]
    rw [hB, hn] at P
    rw [hw]
    clear h hB hn hw he
    go_enter Tryd.func69, Tryd.ntmps69
    go_wp2_with fail
    refine P.mono ?_
    rintro e1 w1 hr
    obtain ⟨rfl, H1⟩ := hr.out1
    clear hr P
    go_wp2_with fail
    refine (F w1 H1.out.1).mono ?_
    rintro e2 w2 hr
    obtain ⟨rfl, H2⟩ := hr.out1
    clear hr F
    go_wp2_with fail
    exact ⟨rfl, H1.out.2.trans H2.out.2, .inr ⟨(by decide : (11 : Int) ≠ 0), rfl⟩⟩
  | true =>
    have hn : takeT L s t = s.go := by rw [takeT, hB, if_pos rfl]
    have hw : wantT L s t = s.go := by rw [wantT, hB, if_pos rfl]
    rw [hB, hn] at P
    rw [hw]
    clear F hB hn hw h
    go_enter Tryd.func69, Tryd.ntmps69
    go_wp2_with fail
    refine P.mono ?_
    rintro e1 w1 hr
    obtain ⟨rfl, H1⟩ := hr.out1
    clear hr P
    go_wp2_with fail
    go_end0
    exact ⟨H1.out.2, .inl ⟨he, H1.out.1, rfl⟩⟩


/-- A token of a kind. -/
theorem psr_kind (w0 w : World) (b : Nat) (L : List Tk) (s : PS) (k : Int) (h : Psr w0 w b L s) (hk : k ≠ 0) :
    Calls Tryd.prog 87 #[.pointer (some ⟨b, 0, none⟩), .int .i64 k] w (Ends w0 w b L (if (curT L s).kind = k then s.go else { s with e := 11, pos := (curT L s).pos }) (Ret (tokV (curT L s)))) := by
  have H := Lib.hid h
  have P := fun w1 h1 => psr_peek w0 w1 b L s h1
  have F := fun w1 h1 => psr_fault w0 w1 b L s 11 h1
  have f0 := tok_kind (curT L s)
  have HA := Lib.hid (h.chg ((Chg.refl [] w).alloc tok0) (fun x hx => by cases hx))
  by_cases hB : (curT L s).kind = k
  · rw [if_pos hB]
    have hm : s.i + 1 < L.length := h.ok.more s.i h.lt (by change (curT L s).kind ≠ 0; rw [hB]; exact hk)
    have K := fun w1 h1 => psr_take w0 w1 b L s h1 hm
    have he := h.e
    have hkb : (k == k) = true := by simp
    unfold tokV at P K
    unfold tokV
    generalize curT L s = t at *
    obtain ⟨kd, tt, p⟩ := t
    simp only at P K f0 hB
    subst hB
    clear h F hm hk
    go_enter Tryd.func87, Tryd.ntmps87
    go_wp2_with fail
    refine (P _ HA.out).mono ?_
    rintro e1 w1 hr
    obtain ⟨rfl, H1⟩ := hr.out1
    have HZ := Lib.hid (row_kept H.out.blt H1.out.2)
    clear hr P
    go_wp2_with fail
    refine (K w1 H1.out.1).mono ?_
    rintro e2 w2 hr
    obtain ⟨rfl, H2⟩ := hr.out1
    have HZ2 := Lib.hid ((H2.out.2.block w.heap.size (Array.getElem?_eq_some_iff.1 HZ.out).1 (by have := H.out.blt; rw [List.mem_singleton]; omega)).trans HZ.out)
    clear hr K
    go_wp2_with (refine wpList_store_row rfl 96 (.tmp 4) (.tmp 14) rfl w.heap.size _ rfl rfl _ _ HZ2.out (tok_info ⟨kd, tt, p⟩) rfl (tok_ones ⟨kd, tt, p⟩) ?_)
    try simp only [Exit.inBlock, Exit.then]
    refine bodyPost_ret (res_tok rfl _ _ w.heap.size ⟨kd, tt, p⟩ rfl (setRow_heap _ _ _ _ _ _ HZ2.out)) rfl ?_
    have hb := H.out.blt
    exact ⟨((((Chg.refl [b] w).alloc _).trans H1.out.2).trans H2.out.2).setRow (.inr (Nat.le_refl _)) _, .inl ⟨he, H2.out.1.setRow hb _, rfl⟩⟩
  · rw [if_neg hB]
    have hkb : ((curT L s).kind == k) = false := by simpa using hB
    unfold tokV at P
    generalize curT L s = t at *
    obtain ⟨kd, tt, p⟩ := t
    simp only at P f0 hB hkb F
    clear h hk
    go_enter Tryd.func87, Tryd.ntmps87
    go_wp2_with fail
    refine (P _ HA.out).mono ?_
    rintro e1 w1 hr
    obtain ⟨rfl, H1⟩ := hr.out1
    clear hr P
    go_wp2_with fail
    refine (F w1 H1.out.1).mono ?_
    rintro e2 w2 hr
    obtain ⟨rfl, H2⟩ := hr.out1
    clear hr F
    go_wp2_with fail
    exact ⟨rfl, (((Chg.refl [b] w).alloc _).trans H1.out.2).trans H2.out.2, .inr ⟨(by decide : (11 : Int) ≠ 0), rfl⟩⟩

theorem name_is (L : List Tk) (s : PS) (he : s.e = 0) : nameT L s = (if (curT L s).kind = 1 then (curT L s).text else [], if (curT L s).kind = 1 then s.go else { s with e := 11, pos := (curT L s).pos }) := by
  unfold nameT failT
  by_cases h : (curT L s).kind = 1
  · rw [if_neg (by rw [not_or, Decidable.not_not, Decidable.not_not]; exact ⟨he, h⟩), if_pos h, if_pos h]
  · rw [if_pos (.inr h), if_neg h, if_neg h, if_pos he]
end Go.Proofs.YtejaikpnfhhmnaaDoor
