/- The reference's reader, more: fail, here, want, open, name, qname. Numbers and types by name. -/
import Derived.Test.YtfcfbdemfbkgmaaDoorLxj
import Derived.Test.YtfcfbdemfbkgmaaDoorChg
import Derived.Test.YtfcfbdemfbkgmaaDoorBe4
/- The reference's reader in memory; here, is, take, fail, want, open, name, qname. Numbers and types by name. -/
namespace Go.Proofs.YtfcfbdemfbkgmaaDoor
open Go.RowKit Go.Lib
set_option maxRecDepth 100000

/-- A reader's cells. -/
structure RdS (w : World) (b : Nat) (vl : Value) (s : PS) : Prop where
  c0 : w.cell? ⟨b, 0, none⟩ = some vl
  c1 : w.cell? ⟨b, 1, none⟩ = some (.int .i64 s.i)
  c2 : w.cell? ⟨b, 2, none⟩ = some (.int .i64 s.deep)
  c3 : w.cell? ⟨b, 3, none⟩ = some (.int .i64 s.e)
  c4 : w.cell? ⟨b, 4, none⟩ = some (.int .i64 s.pos)
  fz : ∀ k, w.frozen? ⟨b, k, none⟩ = false
theorem ne_off {b j k : Nat} (h : j ≠ k) : (⟨b, j, none⟩ : Addr) ≠ ⟨b, k, none⟩ := by intro e; cases e; exact h rfl
theorem RdS.set1 {w : World} {b : Nat} {vl : Value} {s : PS} (h : RdS w b vl s) (i : Nat) : RdS (w.setCell ⟨b, 1, none⟩ (.int .i64 (i : Int))) b vl { s with i := i } :=
  ⟨(World.cell?_setCell_other w _ _ _ (ne_off (by decide))).trans h.c0, World.cell?_setCell_same w _ _ h.c1, (World.cell?_setCell_other w _ _ _ (ne_off (by decide))).trans h.c2, (World.cell?_setCell_other w _ _ _ (ne_off (by decide))).trans h.c3, (World.cell?_setCell_other w _ _ _ (ne_off (by decide))).trans h.c4, fun k => by rw [World.frozen?_setCell]; exact h.fz k⟩
theorem RdS.set2 {w : World} {b : Nat} {vl : Value} {s : PS} (h : RdS w b vl s) (d : Nat) : RdS (w.setCell ⟨b, 2, none⟩ (.int .i64 (d : Int))) b vl { s with deep := d } :=
  ⟨(World.cell?_setCell_other w _ _ _ (ne_off (by decide))).trans h.c0, (World.cell?_setCell_other w _ _ _ (ne_off (by decide))).trans h.c1, World.cell?_setCell_same w _ _ h.c2, (World.cell?_setCell_other w _ _ _ (ne_off (by decide))).trans h.c3, (World.cell?_setCell_other w _ _ _ (ne_off (by decide))).trans h.c4, fun k => by rw [World.frozen?_setCell]; exact h.fz k⟩
theorem RdS.set3 {w : World} {b : Nat} {vl : Value} {s : PS} (h : RdS w b vl s) (e : Int) : RdS (w.setCell ⟨b, 3, none⟩ (.int .i64 e)) b vl { s with e := e } :=
  ⟨(World.cell?_setCell_other w _ _ _ (ne_off (by decide))).trans h.c0, (World.cell?_setCell_other w _ _ _ (ne_off (by decide))).trans h.c1, (World.cell?_setCell_other w _ _ _ (ne_off (by decide))).trans h.c2, World.cell?_setCell_same w _ _ h.c3, (World.cell?_setCell_other w _ _ _ (ne_off (by decide))).trans h.c4, fun k => by rw [World.frozen?_setCell]; exact h.fz k⟩
theorem RdS.set4 {w : World} {b : Nat} {vl : Value} {s : PS} (h : RdS w b vl s) (p : Nat) : RdS (w.setCell ⟨b, 4, none⟩ (.int .i64 (p : Int))) b vl { s with pos := p } :=
  ⟨(World.cell?_setCell_other w _ _ _ (ne_off (by decide))).trans h.c0, (World.cell?_setCell_other w _ _ _ (ne_off (by decide))).trans h.c1, (World.cell?_setCell_other w _ _ _ (ne_off (by decide))).trans h.c2, (World.cell?_setCell_other w _ _ _ (ne_off (by decide))).trans h.c3, World.cell?_setCell_same w _ _ h.c4, fun k => by rw [World.frozen?_setCell]; exact h.fz k⟩
theorem RdS.chg {w w' : World} {b : Nat} {vl : Value} {s : PS} {F : List Nat} (h : RdS w b vl s) (hc : Chg F w w') (hb : b ∉ F) : RdS w' b vl s :=
  ⟨hc.cell h.c0 hb, hc.cell h.c1 hb, hc.cell h.c2 hb, hc.cell h.c3 hb, hc.cell h.c4 hb, fun k => (World.frozen?_of_block (a := ⟨b, k, none⟩) (hc.block b (World.block_lt_of_cell? w _ h.c0) hb)).trans (h.fz k)⟩

/-- A reader over tokens that lie below it. -/
structure Rdr (w0 w : World) (b n : Nat) (vl : Value) (L : List Tk) (s : PS) : Prop where
  r : RdS w b vl s
  t : Tkr w0 vl n L
  lo : w0.heap.size ≤ b
  b : Below w0.heap.size w0 w
  lt : s.i < L.length
  ok : TokL L
  deep : s.deep ≤ 1000
theorem Rdr.chg {w0 w w' : World} {b n : Nat} {vl : Value} {L : List Tk} {s s' : PS} {F : List Nat} (h : Rdr w0 w b n vl L s) (hc : Chg F w w') (hF : ∀ x ∈ F, b ≤ x) (hr : RdS w' b vl s') (hl : s'.i < L.length) (hd : s'.deep ≤ 1000) : Rdr w0 w' b n vl L s' :=
  ⟨hr, h.t, h.lo, h.b.trans (hc.below (Nat.le_trans h.b.size (Nat.le_refl _)) fun x hx => Nat.le_trans h.lo (hF x hx)), hl, h.ok, hd⟩
theorem Rdr.blt {w0 w : World} {b n : Nat} {vl : Value} {L : List Tk} {s : PS} (h : Rdr w0 w b n vl L s) : b < w.heap.size := World.block_lt_of_cell? w _ h.r.c0
/-- The token that stands there. -/
theorem Rdr.cur {w0 w w1 : World} {b n : Nat} {vl : Value} {L : List Tk} {s : PS} (h : Rdr w0 w b n vl L s) (hg : Grow w w1) :
    ∃ a c, vl = .slice (some a) n c ∧ (s.i : Int) < (n : Int) ∧ w1.cell? (a.add (s.i * 3)) = some (.int .i64 (curT L s).kind) ∧ w1.cell? ⟨(a.add (s.i * 3)).block, (a.add (s.i * 3)).off + 1, none⟩ = some (.string (tx (curT L s).text)) ∧ w1.cell? ⟨(a.add (s.i * 3)).block, (a.add (s.i * 3)).off + 2, none⟩ = some (.int .i64 ((curT L s).pos : Int)) := by
  have ht := h.t
  obtain ⟨ao, c, rfl⟩ := ht.shape
  have hn := ht.1
  have hlt := h.lt
  obtain ⟨a, o, rfl, ho, c0, c1, c2⟩ := ((ht.later h.b).later hg).at (k := s.i) (by omega)
  obtain rfl : o = curT L s := by
    unfold curT
    rw [List.getD_eq_getElem?_getD, ho]
    rfl
  exact ⟨a, c, rfl, by omega, c0, c1, c2⟩

/-- The block of a token that is not laid yet. -/
abbrev tok0 : Obj := .cells #[.int .i64 0, .string ⟨#[]⟩, .int .i64 0] 37
/-- What a piece of the reader leaves: a value, the state, new memory. -/
def Rets (w0 w : World) (b n : Nat) (vl : Value) (L : List Tk) (s' : PS) (x : Ending) (e : Ending) (w' : World) : Prop := e = x ∧ Rdr w0 w' b n vl L s' ∧ Chg [b] w w'

theorem Rdr.set1 {w0 w : World} {b n : Nat} {vl : Value} {L : List Tk} {s : PS} (h : Rdr w0 w b n vl L s) (i : Nat) (hi : i < L.length) : Rdr w0 (w.setCell ⟨b, 1, none⟩ (.int .i64 (i : Int))) b n vl L { s with i := i } :=
  h.chg (F := [b]) ((Chg.refl [b] w).set (.inl (by simp)) 1 _) (fun x hx => by simp only [List.mem_singleton] at hx; omega) (h.r.set1 i) hi h.deep
theorem Rdr.few {w0 w : World} {b n : Nat} {vl : Value} {L : List Tk} {s : PS} (h : Rdr w0 w b n vl L s) : s.i < 10000 := by
  have := h.lt
  have := h.ok.few
  omega
theorem Rets.out1 {w0 w w' : World} {b n : Nat} {vl : Value} {L : List Tk} {s' : PS} {x e : Ending} (h : Rets w0 w b n vl L s' x e w') : e = x ∧ Hid (Rdr w0 w' b n vl L s' ∧ Chg [b] w w') := ⟨h.1, Lib.hid h.2⟩

end Go.Proofs.YtfcfbdemfbkgmaaDoor

/- The code's parser in memory; peek, take. Numbers and types by name. -/
namespace Go.Proofs.YtfcfbdemfbkgmaaDoor
open Go.RowKit Go.Lib
set_option maxRecDepth 100000

/-- A parser's cells. -/
structure PaS (w : World) (b : Nat) (a : Addr) (n c d : Nat) : Prop where
  c0 : w.cell? ⟨b, 0, none⟩ = some (.slice (some a) n c)
  c1 : w.cell? ⟨b, 1, none⟩ = some (.int .i64 (d : Int))
  fz : ∀ k, w.frozen? ⟨b, k, none⟩ = false
theorem PaS.chg {w w' : World} {b : Nat} {a : Addr} {n c d : Nat} {F : List Nat} (h : PaS w b a n c d) (hc : Chg F w w') (hb : b ∉ F) : PaS w' b a n c d :=
  ⟨hc.cell h.c0 hb, hc.cell h.c1 hb, fun k => (World.frozen?_of_block (a := ⟨b, k, none⟩) (hc.block b (World.block_lt_of_cell? w _ h.c0) hb)).trans (h.fz k)⟩
theorem PaS.set0 {w : World} {b : Nat} {a : Addr} {n c d : Nat} (h : PaS w b a n c d) (a' : Addr) (n' c' : Nat) : PaS (w.setCell ⟨b, 0, none⟩ (.slice (some a') n' c')) b a' n' c' d :=
  ⟨World.cell?_setCell_same w _ _ h.c0, (World.cell?_setCell_other w _ _ _ (ne_off (by decide))).trans h.c1, fun k => by rw [World.frozen?_setCell]; exact h.fz k⟩
theorem PaS.set1 {w : World} {b : Nat} {a : Addr} {n c d : Nat} (h : PaS w b a n c d) (d' : Nat) : PaS (w.setCell ⟨b, 1, none⟩ (.int .i64 (d' : Int))) b a n c d' :=
  ⟨(World.cell?_setCell_other w _ _ _ (ne_off (by decide))).trans h.c0, World.cell?_setCell_same w _ _ h.c1, fun k => by rw [World.frozen?_setCell]; exact h.fz k⟩

/-- The code's parser, where no error is: what is left of the tokens, how deep. -/
structure Psr (w0 w : World) (b : Nat) (L : List Tk) (s : PS) : Prop where
  r : ∃ a n c, PaS w b a n c s.deep ∧ n + s.i = L.length ∧ n ≤ c ∧ Tkr w0 (.slice (some a) n c) n (L.drop s.i)
  e : s.e = 0
  lo : w0.heap.size ≤ b
  b : Below w0.heap.size w0 w
  lt : s.i < L.length
  ok : TokL L
  x : TokX L
  deep : s.deep ≤ 40
theorem Psr.blt {w0 w : World} {b : Nat} {L : List Tk} {s : PS} (h : Psr w0 w b L s) : b < w.heap.size := by
  obtain ⟨a, n, c, h1, _⟩ := h.r
  exact World.block_lt_of_cell? w _ h1.c0
theorem Psr.chg {w0 w w' : World} {b : Nat} {L : List Tk} {s : PS} {F : List Nat} (h : Psr w0 w b L s) (hc : Chg F w w') (hF : ∀ x ∈ F, b < x) : Psr w0 w' b L s := by
  obtain ⟨a, n, c, h1, h2⟩ := h.r
  exact ⟨⟨a, n, c, h1.chg hc (fun hm => Nat.lt_irrefl _ (hF b hm)), h2⟩, h.e, h.lo, h.b.trans (hc.below (Nat.le_trans h.b.size (Nat.le_refl _)) fun x hx => Nat.le_trans h.lo (Nat.le_of_lt (hF x hx))), h.lt, h.ok, h.x, h.deep⟩
theorem drop_cur {L : List Tk} {s : PS} (h : s.i < L.length) : (L.drop s.i)[0]? = some (curT L s) := by
  rw [List.getElem?_drop, Nat.add_zero]
  unfold curT
  rw [List.getD_eq_getElem?_getD, List.getElem?_eq_getElem h]
  rfl
/-- The cells of the token that stands there. -/
theorem tk_cur {w0 w1 : World} {a : Addr} {n c : Nat} {L : List Tk} {s : PS} (ht : Tkr w0 (.slice (some a) n c) n (L.drop s.i)) (hn : n + s.i = L.length) (hi : s.i < L.length) (hg : Grow w0 w1) :
    w1.cell? a = some (.int .i64 (curT L s).kind) ∧ w1.cell? ⟨a.block, a.off + 1, none⟩ = some (.string (tx (curT L s).text)) ∧ w1.cell? ⟨a.block, a.off + 2, none⟩ = some (.int .i64 ((curT L s).pos : Int)) := by
  obtain ⟨a', o, e, ho, c0, c1, c2⟩ := (ht.later hg).at (k := 0) (by omega)
  cases e
  rw [drop_cur hi] at ho
  cases ho
  have e0 : a.add (0 * 3) = a := by
    unfold Addr.add
    rw [if_pos (Nat.zero_mul 3)]
  rw [e0] at c0 c1 c2
  exact ⟨c0, c1, c2⟩
/-- A token as a value. -/
def tokV (t : Tk) : Value := .agg #[.int .i64 t.kind, .string (tx t.text), .int .i64 (t.pos : Int)]
theorem res_tok {fn : Func} {p : Tmp} (h : fn.results = #[.cell p 37]) (tmps : Array Value) (w : World) (g : Nat) (t : Tk)
    (hp : tmps.getD p undef = .pointer (some ⟨g, 0, none⟩)) (hg : w.heap[g]? = some (.cells #[.int .i64 t.kind, .string (tx t.text), .int .i64 (t.pos : Int)] 37 (0, 0))) :
    (results fn tmps).run Tryd.prog w = .ok (tokV t) w :=
  results_cell_row h tmps w g _ _ _ _ hp hg Tryd.underlying37 rfl (by show _ = some 3; kernel_rfl)
theorem tok_kind (t : Tk) (w : World) : (Instr.field 37 (.agg #[.int .i64 t.kind, .string (tx t.text), .int .i64 (t.pos : Int)]) 0).run Tryd.prog w = .ok (.int .i64 t.kind) w := by kernel_rfl
theorem tok_text (t : Tk) (w : World) : (Instr.field 37 (.agg #[.int .i64 t.kind, .string (tx t.text), .int .i64 (t.pos : Int)]) 1).run Tryd.prog w = .ok (.string (tx t.text)) w := by kernel_rfl
theorem tok_pos (t : Tk) (w : World) : (Instr.field 37 (.agg #[.int .i64 t.kind, .string (tx t.text), .int .i64 (t.pos : Int)]) 2).run Tryd.prog w = .ok (.int .i64 (t.pos : Int)) w := by kernel_rfl
/-- What a piece of the parser leaves that cannot fail. -/
def Pets (w0 w : World) (b : Nat) (L : List Tk) (s' : PS) (x : Ending) (e : Ending) (w' : World) : Prop := e = x ∧ Psr w0 w' b L s' ∧ Chg [b] w w'
theorem Pets.out1 {w0 w w' : World} {b : Nat} {L : List Tk} {s' : PS} {x e : Ending} (h : Pets w0 w b L s' x e w') : e = x ∧ Hid (Psr w0 w' b L s' ∧ Chg [b] w w') := ⟨h.1, Lib.hid h.2⟩

theorem psr_peek (w0 w : World) (b : Nat) (L : List Tk) (s : PS) (h : Psr w0 w b L s) :
    Calls Tryd.prog 24 #[.pointer (some ⟨b, 0, none⟩)] w (Pets w0 w b L s (.returned (tokV (curT L s)))) := by
  have H := Lib.hid h
  obtain ⟨a, n, c, h1, hn, hnc, ht⟩ := h.r
  have hlt := h.lt
  have hg := h.b
  obtain ⟨d0, d1, d2⟩ := tk_cur ht hn hlt (w1 := w.alloc tok0) (hg.alloc hg.size _)
  have c0 : (w.alloc tok0).cell? ⟨b, 0, none⟩ = _ := ((Chg.refl [] w).alloc tok0).cell h1.c0 (by simp)
  have hin : (0 : Int) < (n : Int) := by omega
  unfold tokV
  generalize curT L s = t at *
  obtain ⟨kd, tt, p⟩ := t
  simp only at d0 d1 d2
  clear h h1 ht hlt hg hn hnc
  go_enter Tryd.func24, Tryd.ntmps24
  go_wp2_with fail
  refine bodyPost_ret (res_tok rfl _ _ w.heap.size ⟨kd, tt, p⟩ rfl (heap_alloc_new _ _)) rfl ?_
  exact ⟨rfl, H.out.chg ((Chg.refl [] w).alloc _) (fun x hx => by cases hx), (Chg.refl _ w).alloc _⟩

/-- The sign or word has gone by. -/
theorem Psr.next {w0 w w1 w2 : World} {b : Nat} {L : List Tk} {s : PS} {a : Addr} {n c : Nat} (h : Psr w0 w b L s) (hm : s.i + 1 < L.length) (h1 : PaS w1 b a n c s.deep) (hn : n + s.i = L.length) (hnc : n ≤ c) (ht : Tkr w0 (.slice (some a) n c) n (L.drop s.i)) (hc : Chg [b] w w1) (e2 : w2 = w1.setCell ⟨b, 0, none⟩ (.slice (some (a.add 3)) (n - 1) (c - 1))) : Psr w0 w2 b L s.go ∧ Chg [b] w w2 := by
  subst e2
  have hc2 := hc.set (.inl (List.mem_singleton.2 rfl)) 0 (.slice (some (a.add 3)) (n - 1) (c - 1))
  refine ⟨⟨⟨a.add 3, n - 1, c - 1, h1.set0 _ _ _, by show n - 1 + (s.i + 1) = _; omega, by omega, ?_⟩, h.e, h.lo, h.b.trans (hc2.below h.b.size fun x hx => by rw [List.mem_singleton] at hx; rw [hx]; exact h.lo), hm, h.ok, h.x, h.deep⟩, hc2⟩
  obtain ⟨t1, t2, ao, c', e, g1, g2, g3, g4⟩ := ht
  cases e
  have hd : L.drop s.i = curT L s :: L.drop (s.i + 1) := by
    rw [List.drop_eq_getElem_cons h.lt]
    congr 1
    unfold curT
    rw [List.getD_eq_getElem?_getD, List.getElem?_eq_getElem h.lt]
    rfl
  rw [hd] at g1 g4
  refine ⟨by rw [List.length_drop]; show n - 1 = L.length - (s.i + 1); omega, by omega, some (a.add 3), c - 1, rfl, ?_, by omega, (fun e => by cases e), fun a' ha j u hj => ?_⟩
  · rw [tvs_length, List.length_drop]
    show (L.length - (s.i + 1)) * 3 = (n - 1) * 3
    congr 1
    omega
  · cases ha
    rw [Addr.add_add]
    refine g4 a rfl (3 + j) u ?_
    show ((curT L s :: L.drop (s.i + 1)).flatMap tv)[3 + j]? = some u
    rw [List.flatMap_cons, List.getElem?_append_right (by simp [tv]), ← hj]
    congr 1
    simp [tv]

theorem psr_take (w0 w : World) (b : Nat) (L : List Tk) (s : PS) (h : Psr w0 w b L s) (hm : s.i + 1 < L.length) :
    Calls Tryd.prog 39 #[.pointer (some ⟨b, 0, none⟩)] w (Pets w0 w b L s.go (.returned (tokV (curT L s)))) := by
  have H := Lib.hid h
  obtain ⟨a, n, c, h1, hn, hnc, ht⟩ := h.r
  have hlt := h.lt
  have hg := h.b
  have hfew := h.ok.few
  have hblt := h.blt
  have hc1 : Chg [] w (w.alloc tok0) := (Chg.refl [] w).alloc tok0
  obtain ⟨d0, d1, d2⟩ := tk_cur ht hn hlt (w1 := w.alloc tok0) (hg.alloc hg.size _)
  have c0 : (w.alloc tok0).cell? ⟨b, 0, none⟩ = _ := hc1.cell h1.c0 (by simp)
  have hin : (0 : Int) < (n : Int) := by omega
  have hin2 : (1 : Int) ≤ (n : Int) := by omega
  have hin3 : ¬ c = 1 := by omega
  have hnc2 : n ≤ c := hnc
  have fz : w.frozen? ⟨b, 0, none⟩ = false := h1.fz 0
  unfold tokV
  obtain ⟨t, ht0⟩ : ∃ t, curT L s = t := ⟨_, rfl⟩
  rw [ht0] at d0 d1 d2 ⊢
  have HT := Lib.hid (And.intro ht0 (And.intro h1 ht))
  obtain ⟨kd, tt, p⟩ := t
  simp only at d0 d1 d2
  clear h h1 ht hg ht0
  go_enter Tryd.func39, Tryd.ntmps39
  go_wp2_with fail
  refine bodyPost_ret (res_tok rfl _ _ w.heap.size ⟨kd, tt, p⟩ rfl ?_) rfl ?_
  · rw [heap_alloc_old _ _ (by simp [World.setCell])]
    have := heap_alloc_new (w.setCell ⟨b, 0, none⟩ (.slice (some ⟨a.block, a.off + 3, none⟩) (n - 1) (c - 1))) (.cells #[.int .i64 kd, .string (tx tt), .int .i64 (p : Int)] 37)
    rw [show (w.setCell ⟨b, 0, none⟩ (.slice (some ⟨a.block, a.off + 3, none⟩) (n - 1) (c - 1))).heap.size = w.heap.size by simp [World.setCell]] at this
    exact this
  · obtain ⟨ht0, h1, ht⟩ := HT.out
    obtain ⟨g1, g2⟩ := H.out.next hm h1 hn hnc ht (Chg.refl [b] w) rfl
    have e3 : a.add 3 = ⟨a.block, a.off + 3, none⟩ := rfl
    rw [e3] at g1 g2
    exact ⟨rfl, (g1.chg ((Chg.refl [] _).alloc _) (fun x hx => by cases hx)).chg ((Chg.refl [] _).alloc _) (fun x hx => by cases hx), (g2.alloc _).alloc _⟩

end Go.Proofs.YtfcfbdemfbkgmaaDoor

namespace Go.Proofs.YtfcfbdemfbkgmaaDoor
open Go.RowKit Go.Lib
set_option maxRecDepth 100000

theorem Rdr.set2 {w0 w : World} {b n : Nat} {vl : Value} {L : List Tk} {s : PS} (h : Rdr w0 w b n vl L s) (d : Nat) (hd : d ≤ 1000) : Rdr w0 (w.setCell ⟨b, 2, none⟩ (.int .i64 (d : Int))) b n vl L { s with deep := d } :=
  h.chg (F := [b]) ((Chg.refl [b] w).set (.inl (by simp)) 2 _) (fun x hx => by simp only [List.mem_singleton] at hx; omega) (h.r.set2 d) h.lt hd
theorem Rdr.set3 {w0 w : World} {b n : Nat} {vl : Value} {L : List Tk} {s : PS} (h : Rdr w0 w b n vl L s) (e : Int) : Rdr w0 (w.setCell ⟨b, 3, none⟩ (.int .i64 e)) b n vl L { s with e := e } :=
  h.chg (F := [b]) ((Chg.refl [b] w).set (.inl (by simp)) 3 _) (fun x hx => by simp only [List.mem_singleton] at hx; omega) (h.r.set3 e) h.lt h.deep
theorem Rdr.set4 {w0 w : World} {b n : Nat} {vl : Value} {L : List Tk} {s : PS} (h : Rdr w0 w b n vl L s) (p : Nat) : Rdr w0 (w.setCell ⟨b, 4, none⟩ (.int .i64 (p : Int))) b n vl L { s with pos := p } :=
  h.chg (F := [b]) ((Chg.refl [b] w).set (.inl (by simp)) 4 _) (fun x hx => by simp only [List.mem_singleton] at hx; omega) (h.r.set4 p) h.lt h.deep
theorem Rdr.drewN {w0 w : World} {b n : Nat} {vl : Value} {L : List Tk} {s : PS} (h : Rdr w0 w b n vl L s) (k : Nat) : Rdr w0 (w.drewN k) b n vl L s :=
  h.chg (F := []) ((Chg.refl [] w).drewN k) (fun x hx => by cases hx) (h.r.chg ((Chg.refl [] w).drewN k) (by simp)) h.lt h.deep

theorem Rets.comp {w0 w w1 w2 : World} {b n : Nat} {vl : Value} {L : List Tk} {s2 : PS} {x e : Ending} (hc : Chg [b] w w1) (h : Rets w0 w1 b n vl L s2 x e w2) : Rets w0 w b n vl L s2 x e w2 := ⟨h.1, h.2.1, hc.trans h.2.2⟩

end Go.Proofs.YtfcfbdemfbkgmaaDoor
