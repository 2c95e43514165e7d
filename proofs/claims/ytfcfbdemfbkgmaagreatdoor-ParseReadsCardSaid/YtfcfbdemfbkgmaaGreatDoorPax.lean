/- The reference's reader, more: fail, here, want, open, name, qname. Numbers and types by name. -/
import Derived.Test.YtfcfbdemfbkgmaaGreatDoorBe4
import Derived.Test.YtfcfbdemfbkgmaaGreatDoorPaw
/- The code's parser in memory; peek, take. Numbers and types by name. -/
namespace Go.Proofs.YtfcfbdemfbkgmaaGreatDoor
open Go.RowKit Go.Lib
set_option maxRecDepth 100000

/-- A parser's cells. -/
structure PaS (w : World) (b : Nat) (a : Addr) (n c d : Nat) : Prop where
  c0 : w.cell? ⟨b, 0, none⟩ = some (.slice (some a) n c)
  c1 : w.cell? ⟨b, 1, none⟩ = some (.int .i64 (d : Int))
  fz : ∀ k, w.frozen? ⟨b, k, none⟩ = false
theorem PaS.chg {w w' : World} {b : Nat} {a : Addr} {n c d : Nat} {F : List Nat} (h : PaS w b a n c d) (hc : Chg F w w') (hb : b ∉ F) : PaS w' b a n c d :=
  ⟨hc.cell h.c0 hb, hc.cell h.c1 hb, fun k => (World.frozen?_of_block (a := ⟨b, k, none⟩) (hc.block b (World.block_lt_of_cell? w _ h.c0) hb)).trans (h.fz k)⟩
theorem PaS.set0 {w : World} {b : Nat} {a : Addr} {n c d : Nat} (h : PaS w b a n c d) (a' : Addr) (n' c' : Nat) : PaS (w.setCell ⟨b, 0, none⟩ (.slice (some a') n' c')) b a' n' c' d :=
  ⟨World.cell?_setCell_same w _ _ h.c0, (World.cell?_setCell_other w _ _ _ (ne_off (by decide))).trans h.c1, fun k => by rw [World.frozen?_setCell]; exact h.fz k⟩
theorem PaS.set1 {w : World} {b : Nat} {a : Addr} {n c d : Nat} (h : PaS w b a n c d) (d' : Nat) : PaS (w.setCell ⟨b, 1, none⟩ (.int .i64 (d' : Int))) b a n c d' :=
  ⟨(World.cell?_setCell_other w _ _ _ (ne_off (by decide))).trans h.c0, World.cell?_setCell_same w _ _ h.c1, fun k => by rw [World.frozen?_setCell]; exact h.fz k⟩

/-- The code's parser, where no error is: what is left of the tokens, how deep. -/
structure Psr (w0 w : World) (b : Nat) (L : List Tk) (s : PS) : Prop where
  r : ∃ a n c, PaS w b a n c s.deep ∧ n + s.i = L.length ∧ n ≤ c ∧ Tkr w0 (.slice (some a) n c) n (L.drop s.i)
  e : s.e = 0
  lo : w0.heap.size ≤ b
  b : Below w0.heap.size w0 w
  lt : s.i < L.length
  ok : TokL L
  x : TokX L
  deep : s.deep ≤ 40
theorem Psr.blt {w0 w : World} {b : Nat} {L : List Tk} {s : PS} (h : Psr w0 w b L s) : b < w.heap.size := by
  obtain ⟨a, n, c, h1, _⟩ := h.r
  exact World.block_lt_of_cell? w _ h1.c0
theorem Psr.chg {w0 w w' : World} {b : Nat} {L : List Tk} {s : PS} {F : List Nat} (h : Psr w0 w b L s) (hc : Chg F w w') (hF : ∀ x ∈ F, b < x) : Psr w0 w' b L s := by
  obtain ⟨a, n, c, h1, h2⟩ := h.r
  exact ⟨⟨a, n, c, h1.chg hc (fun hm => Nat.lt_irrefl _ (hF b hm)), h2⟩, h.e, h.lo, h.b.trans (hc.below (Nat.le_trans h.b.size (Nat.le_refl _)) fun x hx => Nat.le_trans h.lo (Nat.le_of_lt (hF x hx))), h.lt, h.ok, h.x, h.deep⟩
theorem drop_cur {L : List Tk} {s : PS} (h : s.i < L.length) : (L.drop s.i)[0]? = some (curT L s) := by
  rw [List.getElem?_drop, Nat.add_zero]
  unfold curT
  rw [List.getD_eq_getElem?_getD, List.getElem?_eq_getElem h]
  rfl
/-- The cells of the token that stands there. -/
theorem tk_cur {w0 w1 : World} {a : Addr} {n c : Nat} {L : List Tk} {s : PS} (ht : Tkr w0 (.slice (some a) n c) n (L.drop s.i)) (hn : n + s.i = L.length) (hi : s.i < L.length) (hg : Grow w0 w1) :
    w1.cell? a = some (.int .i64 (curT L s).kind) ∧ w1.cell? ⟨a.block, a.off + 1, none⟩ = some (.string (tx (curT L s).text)) ∧ w1.cell? ⟨a.block, a.off + 2, none⟩ = some (.int .i64 ((curT L s).pos : Int)) := by
  obtain ⟨a', o, e, ho, c0, c1, c2⟩ := (ht.later hg).at (k := 0) (by omega)
  cases e
  rw [drop_cur hi] at ho
  cases ho
  have e0 : a.add (0 * 3) = a := by
    unfold Addr.add
    rw [if_pos (Nat.zero_mul 3)]
  rw [e0] at c0 c1 c2
  exact ⟨c0, c1, c2⟩
/-- A token as a value. -/
def tokV (t : Tk) : Value := .agg #[.int .i64 t.kind, .string (tx t.text), .int .i64 (t.pos : Int)]
theorem res_tok {fn : Func} {p : Tmp} (h : fn.results = #[.cell p 52]) (tmps : Array Value) (w : World) (g : Nat) (t : Tk)
    (hp : tmps.getD p undef = .pointer (some ⟨g, 0, none⟩)) (hg : w.heap[g]? = some (.cells #[.int .i64 t.kind, .string (tx t.text), .int .i64 (t.pos : Int)] 52 (0, 0))) :
    (results fn tmps).run Tryz.prog w = .ok (tokV t) w :=
  results_cell_row h tmps w g _ _ _ _ hp hg Tryz.underlying52 rfl (by show _ = some 3; kernel_rfl)
theorem tok_kind (t : Tk) (w : World) : (Instr.field 52 (.agg #[.int .i64 t.kind, .string (tx t.text), .int .i64 (t.pos : Int)]) 0).run Tryz.prog w = .ok (.int .i64 t.kind) w := by kernel_rfl
theorem tok_text (t : Tk) (w : World) : (Instr.field 52 (.agg #[.int .i64 t.kind, .string (tx t.text), .int .i64 (t.pos : Int)]) 1).run Tryz.prog w = .ok (.string (tx t.text)) w := by kernel_rfl
theorem tok_pos (t : Tk) (w : World) : (Instr.field 52 (.agg #[.int .i64 t.kind, .string (tx t.text), .int .i64 (t.pos : Int)]) 2).run Tryz.prog w = .ok (.int .i64 (t.pos : Int)) w := by kernel_rfl
/-- What a piece of the parser leaves that cannot fail. -/
def Pets (w0 w : World) (b : Nat) (L : List Tk) (s' : PS) (x : Ending) (e : Ending) (w' : World) : Prop := e = x ∧ Psr w0 w' b L s' ∧ Chg [b] w w'
theorem Pets.out1 {w0 w w' : World} {b : Nat} {L : List Tk} {s' : PS} {x e : Ending} (h : Pets w0 w b L s' x e w') : e = x ∧ Hid (Psr w0 w' b L s' ∧ Chg [b] w w') := ⟨h.1, Lib.hid h.2⟩

theorem psr_peek (w0 w : World) (b : Nat) (L : List Tk) (s : PS) (h : Psr w0 w b L s) :
    Calls Tryz.prog 56 #[.pointer (some ⟨b, 0, none⟩)] w (Pets w0 w b L s (.returned (tokV (curT L s)))) := by
  have H := Lib.hid h
  obtain ⟨a, n, c, h1, hn, hnc, ht⟩ := h.r
  have hlt := h.lt
  have hg := h.b
  obtain ⟨d0, d1, d2⟩ := tk_cur ht hn hlt (w1 := w.alloc tok0) (hg.alloc hg.size _)
  have c0 : (w.alloc tok0).cell? ⟨b, 0, none⟩ = _ := ((Chg.refl [] w).alloc tok0).cell h1.c0 (by simp)
  have hin : (0 : Int) < (n : Int) := by omega
  unfold tokV
  generalize curT L s = t at *
  obtain ⟨kd, tt, p⟩ := t
  simp only at d0 d1 d2
  clear h h1 ht hlt hg hn hnc
  go_enter Tryz.func56, Tryz.ntmps56
  go_wp2_with fail
  refine bodyPost_ret (res_tok rfl _ _ w.heap.size ⟨kd, tt, p⟩ rfl (heap_alloc_new _ _)) rfl ?_
  exact ⟨rfl, H.out.chg ((Chg.refl [] w).alloc _) (fun x hx => by cases hx), (Chg.refl _ w).alloc _⟩

/-- The sign or word has gone by. -/
theorem Psr.next {w0 w w1 w2 : World} {b : Nat} {L : List Tk} {s : PS} {a : Addr} {n c : Nat} (h : Psr w0 w b L s) (hm : s.i + 1 < L.length) (h1 : PaS w1 b a n c s.deep) (hn : n + s.i = L.length) (hnc : n ≤ c) (ht : Tkr w0 (.slice (some a) n c) n (L.drop s.i)) (hc : Chg [b] w w1) (e2 : w2 = w1.setCell ⟨b, 0, none⟩ (.slice (some (a.add 3)) (n - 1) (c - 1))) : Psr w0 w2 b L s.go ∧ Chg [b] w w2 := by
  subst e2
  have hc2 := hc.set (.inl (List.mem_singleton.2 rfl)) 0 (.slice (some (a.add 3)) (n - 1) (c - 1))
  refine ⟨⟨⟨a.add 3, n - 1, c - 1, h1.set0 _ _ _, by show n - 1 + (s.i + 1) = _; omega, by omega, ?_⟩, h.e, h.lo, h.b.trans (hc2.below h.b.size fun x hx => by rw [List.mem_singleton] at hx; rw [hx]; exact h.lo), hm, h.ok, h.x, h.deep⟩, hc2⟩
  obtain ⟨t1, t2, ao, c', e, g1, g2, g3, g4⟩ := ht
  cases e
  have hd : L.drop s.i = curT L s :: L.drop (s.i + 1) := by
    rw [List.drop_eq_getElem_cons h.lt]
    congr 1
    unfold curT
    rw [List.getD_eq_getElem?_getD, List.getElem?_eq_getElem h.lt]
    rfl
  rw [hd] at g1 g4
  refine ⟨by rw [List.length_drop]; show n - 1 = L.length - (s.i + 1); omega, by omega, some (a.add 3), c - 1, rfl, ?_, by omega, (fun e => by cases e), fun a' ha j u hj => ?_⟩
  · rw [tvs_length, List.length_drop]
    show (L.length - (s.i + 1)) * 3 = (n - 1) * 3
    congr 1
    omega
  · cases ha
    rw [Addr.add_add]
    refine g4 a rfl (3 + j) u ?_
    show ((curT L s :: L.drop (s.i + 1)).flatMap tv)[3 + j]? = some u
    rw [List.flatMap_cons, List.getElem?_append_right (by simp [tv]), ← hj]
    congr 1
    simp [tv]

theorem psr_take (w0 w : World) (b : Nat) (L : List Tk) (s : PS) (h : Psr w0 w b L s) (hm : s.i + 1 < L.length) :
    Calls Tryz.prog 88 #[.pointer (some ⟨b, 0, none⟩)] w (Pets w0 w b L s.go (.returned (tokV (curT L s)))) := by
  have H := Lib.hid h
  obtain ⟨a, n, c, h1, hn, hnc, ht⟩ := h.r
  have hlt := h.lt
  have hg := h.b
  have hfew := h.ok.few
  have hblt := h.blt
  have hc1 : Chg [] w (w.alloc tok0) := (Chg.refl [] w).alloc tok0
  obtain ⟨d0, d1, d2⟩ := tk_cur ht hn hlt (w1 := w.alloc tok0) (hg.alloc hg.size _)
  have c0 : (w.alloc tok0).cell? ⟨b, 0, none⟩ = _ := hc1.cell h1.c0 (by simp)
  have hin : (0 : Int) < (n : Int) := by omega
  have hin2 : (1 : Int) ≤ (n : Int) := by omega
  have hin3 : ¬ c = 1 := by omega
  have hnc2 : n ≤ c := hnc
  have fz : w.frozen? ⟨b, 0, none⟩ = false := h1.fz 0
  unfold tokV
  obtain ⟨t, ht0⟩ : ∃ t, curT L s = t := ⟨_, rfl⟩
  rw [ht0] at d0 d1 d2 ⊢
  have HT := Lib.hid (And.intro ht0 (And.intro h1 ht))
  obtain ⟨kd, tt, p⟩ := t
  simp only at d0 d1 d2
  clear h h1 ht hg ht0
  go_enter Tryz.func88, Tryz.ntmps88
  go_wp2_with fail
  refine bodyPost_ret (res_tok rfl _ _ w.heap.size ⟨kd, tt, p⟩ rfl ?_) rfl ?_
  · rw [heap_alloc_old _ _ (by simp [World.setCell])]
    have := heap_alloc_new (w.setCell ⟨b, 0, none⟩ (.slice (some ⟨a.block, a.off + 3, none⟩) (n - 1) (c - 1))) (.cells #[.int .i64 kd, .string (tx tt), .int .i64 (p : Int)] 52)
    rw [show (w.setCell ⟨b, 0, none⟩ (.slice (some ⟨a.block, a.off + 3, none⟩) (n - 1) (c - 1))).heap.size = w.heap.size by simp [World.setCell]] at this
    exact this
  · obtain ⟨ht0, h1, ht⟩ := HT.out
    obtain ⟨g1, g2⟩ := H.out.next hm h1 hn hnc ht (Chg.refl [b] w) rfl
    have e3 : a.add 3 = ⟨a.block, a.off + 3, none⟩ := rfl
    rw [e3] at g1 g2
    exact ⟨rfl, (g1.chg ((Chg.refl [] _).alloc _) (fun x hx => by cases hx)).chg ((Chg.refl [] _).alloc _) (fun x hx => by cases hx), (g2.alloc _).alloc _⟩

end Go.Proofs.YtfcfbdemfbkgmaaGreatDoor

namespace Go.Proofs.YtfcfbdemfbkgmaaGreatDoor
open Go.RowKit Go.Lib
set_option maxRecDepth 100000

theorem Rdr.set2 {w0 w : World} {b n : Nat} {vl : Value} {L : List Tk} {s : PS} (h : Rdr w0 w b n vl L s) (d : Nat) (hd : d ≤ 1000) : Rdr w0 (w.setCell ⟨b, 2, none⟩ (.int .i64 (d : Int))) b n vl L { s with deep := d } :=
  h.chg (F := [b]) ((Chg.refl [b] w).set (.inl (by simp)) 2 _) (fun x hx => by simp only [List.mem_singleton] at hx; omega) (h.r.set2 d) h.lt hd
theorem Rdr.set3 {w0 w : World} {b n : Nat} {vl : Value} {L : List Tk} {s : PS} (h : Rdr w0 w b n vl L s) (e : Int) : Rdr w0 (w.setCell ⟨b, 3, none⟩ (.int .i64 e)) b n vl L { s with e := e } :=
  h.chg (F := [b]) ((Chg.refl [b] w).set (.inl (by simp)) 3 _) (fun x hx => by simp only [List.mem_singleton] at hx; omega) (h.r.set3 e) h.lt h.deep
theorem Rdr.set4 {w0 w : World} {b n : Nat} {vl : Value} {L : List Tk} {s : PS} (h : Rdr w0 w b n vl L s) (p : Nat) : Rdr w0 (w.setCell ⟨b, 4, none⟩ (.int .i64 (p : Int))) b n vl L { s with pos := p } :=
  h.chg (F := [b]) ((Chg.refl [b] w).set (.inl (by simp)) 4 _) (fun x hx => by simp only [List.mem_singleton] at hx; omega) (h.r.set4 p) h.lt h.deep
theorem Rdr.drewN {w0 w : World} {b n : Nat} {vl : Value} {L : List Tk} {s : PS} (h : Rdr w0 w b n vl L s) (k : Nat) : Rdr w0 (w.drewN k) b n vl L s :=
  h.chg (F := []) ((Chg.refl [] w).drewN k) (fun x hx => by cases hx) (h.r.chg ((Chg.refl [] w).drewN k) (by simp)) h.lt h.deep

theorem rdr_fail (w0 w : World) (b n : Nat) (vl : Value) (L : List Tk) (s : PS) (x : Int) (h : Rdr w0 w b n vl L s) :
    Calls Tryz.prog 65 #[.pointer (some ⟨b, 0, none⟩), .int .i64 x] w (Rets w0 w b n vl L (failT L s x) (.returned (.tuple #[]))) := by
  have r3 := h.r.c3
  have H := Lib.hid h
  by_cases he : s.e = 0
  · have hF : failT L s x = { s with e := x, pos := (curT L s).pos } := if_pos he
    rw [hF]
    have h1 := h.set3 x
    have h2 := h1.set4 (curT L s).pos
    have fz3 := h.r.fz 3
    obtain ⟨a, c, rfl, hin, d0, d1, d2⟩ := h1.cur (Grow.refl _)
    have r0 := h1.r.c0
    have r1 := h1.r.c1
    have r4 := h1.r.c4
    have fz4 := h1.r.fz 4
    have hc : Chg [b] w (w.setCell ⟨b, 3, none⟩ (.int .i64 x)) := (Chg.refl [b] w).set (.inl (by simp)) 3 _
    have H2 := Lib.hid (And.intro h2 hc)
    change _ = some (Value.int .i64 ((curT L s).pos : Int)) at d2
    obtain ⟨i, dp, e, p⟩ := s
    simp only at he
    subst he
    simp only at r1 r4 hin
    generalize (curT L ⟨i, dp, 0, p⟩).pos = q at *
    clear h h1 h2 hF hc d0 d1 H
    go_enter Tryz.func65, Tryz.ntmps65
    go_wp2_with fail
    generalize w.setCell ⟨b, 3, none⟩ (.int .i64 x) = W at *
    go_region
    go_wp2
    go_end0
    exact ⟨rfl, H2.out.1.drewN 1, (H2.out.2.set (.inl (by simp)) 4 _).drewN 1⟩
  · have hF : failT L s x = s := if_neg he
    rw [hF]
    obtain ⟨i, dp, e, p⟩ := s
    simp only at he r3
    have he2 : (e == 0) = false := by simpa using he
    clear h hF
    go_enter Tryz.func65, Tryz.ntmps65
    go_wp2_with fail
    go_end0
    exact ⟨rfl, H.out, Chg.refl _ _⟩

theorem rdr_here (w0 w : World) (b n : Nat) (vl : Value) (L : List Tk) (s : PS) (h : Rdr w0 w b n vl L s) :
    Calls Tryz.prog 33 #[.pointer (some ⟨b, 0, none⟩)] w (Rets w0 w b n vl L s (.returned (.int .i64 ((curT L s).pos : Int)))) := by
  have H := Lib.hid h
  obtain ⟨a, c, rfl, hin, d0, d1, d2⟩ := h.cur (Grow.refl w)
  have r0 := h.r.c0
  have r1 := h.r.c1
  generalize (curT L s).pos = q at *
  obtain ⟨i, dp, e, p⟩ := s
  simp only at r1 hin
  clear h d0 d1
  go_enter Tryz.func33, Tryz.ntmps33
  go_wp2_with fail
  go_quiet (fail)
  go_wp2
  go_ret
  exact ⟨rfl, H.out.drewN _, (Chg.refl _ _).drewN _⟩

theorem Rets.comp {w0 w w1 w2 : World} {b n : Nat} {vl : Value} {L : List Tk} {s2 : PS} {x e : Ending} (hc : Chg [b] w w1) (h : Rets w0 w1 b n vl L s2 x e w2) : Rets w0 w b n vl L s2 x e w2 := ⟨h.1, h.2.1, hc.trans h.2.2⟩

theorem rdr_want (w0 w : World) (b n : Nat) (vl : Value) (L : List Tk) (s : PS) (t : List UInt8) (h : Rdr w0 w b n vl L s) :
    Calls Tryz.prog 32 #[.pointer (some ⟨b, 0, none⟩), .string (tx t)] w (Rets w0 w b n vl L (wantT L s t) (.returned (.tuple #[]))) := by
  have P := rdr_take w0 w b n vl L s t h
  have F := fun w1 h1 => rdr_fail w0 w1 b n vl L s 11 h1
  clear h
  cases hB : isT L s t with
  | false =>
    rw [hB, takeT, hB, if_neg (by simp)] at P
    rw [wantT, hB, if_neg (by simp)]
    have HF := Lib.hid F
    clear F hB
    go_enter Tryz.func32, Tryz.ntmps32
    go_wp2_with fail
    refine P.mono ?_
    rintro e1 w1 hr
    obtain ⟨rfl, H1⟩ := hr.out1
    clear hr P
    go_wp2_with fail
    refine (HF.out w1 H1.out.1).mono ?_
    rintro e2 w2 hr
    obtain ⟨rfl, H2⟩ := hr.out1
    clear hr HF
    go_wp2_with fail
    go_end0
    exact ⟨rfl, H2.out.1, H1.out.2.trans H2.out.2⟩
  | true =>
    rw [hB, takeT, if_pos hB] at P
    rw [wantT, if_pos hB]
    clear F hB
    go_enter Tryz.func32, Tryz.ntmps32
    go_wp2_with fail
    refine P.mono ?_
    rintro e1 w1 hr
    obtain ⟨rfl, H1⟩ := hr.out1
    clear hr P
    go_wp2_with fail
    go_end0
    exact ⟨rfl, H1.out⟩

theorem rdr_open (w0 w : World) (b n : Nat) (vl : Value) (L : List Tk) (s : PS) (t : List UInt8) (h : Rdr w0 w b n vl L s) (hd : s.deep ≤ 900) :
    Calls Tryz.prog 118 #[.pointer (some ⟨b, 0, none⟩), .string (tx t)] w (Rets w0 w b n vl L (openT L s t) (.returned (.tuple #[]))) := by
  have P := rdr_is w0 w b n vl L s t h
  have F := Lib.hid (fun w1 h1 => rdr_fail w0 w1 b n vl L s 12 h1)
  obtain ⟨s1, hs1⟩ : ∃ x, x = if isT L s t = true ∧ 40 ≤ s.deep then failT L s 12 else s := ⟨_, rfl⟩
  have hsd : s1.deep = s.deep := by
    rw [hs1]
    split
    · exact (fail_goes s 12).deep
    · rfl
  have WN := Lib.hid (fun w1 h1 => rdr_want w0 w1 b n vl L s1 t h1)
  have hwd : (wantT L s1 t).deep = s.deep := (want_goes h.ok s1 t).deep.trans hsd
  have hop : openT L s t = { wantT L s1 t with deep := (wantT L s1 t).deep + 1 } := by rw [hs1]; rfl
  rw [hop]
  clear hop
  generalize wantT L s1 t = s2 at *
  have last : ∀ w1, Rdr w0 w1 b n vl L s2 → Chg [b] w w1 → Rets w0 w b n vl L { s2 with deep := s2.deep + 1 } (.returned (.tuple #[])) (.returned (.tuple #[])) (w1.setCell ⟨b, 2, none⟩ (.int .i64 ((s2.deep + 1 : Nat) : Int))) := fun w1 h1 hc =>
    ⟨rfl, h1.set2 _ (by omega), hc.set (.inl (by simp)) 2 _⟩
  have LAST := Lib.hid last
  have h2d : s2.deep ≤ 900 := by omega
  have HD := Lib.hid (And.intro hsd hwd)
  clear last h hsd hwd
  obtain ⟨i2, dp2, e2, p2⟩ := s2
  obtain ⟨i, dp, e, p⟩ := s
  simp only at h2d hd hs1
  by_cases hB : isT L ⟨i, dp, e, p⟩ t = true ∧ 40 ≤ dp
  · rw [if_pos hB] at hs1
    obtain ⟨hB1, hB2⟩ := hB
    rw [hB1] at P
    rw [← hs1] at F
    have hz : (40 : Int) ≤ (dp : Int) := by omega
    clear hs1 hB1 hB2
    go_enter Tryz.func118, Tryz.ntmps118
    go_wp2_with fail
    refine P.mono ?_
    rintro e1 w1 hr
    obtain ⟨rfl, H1⟩ := hr.out1
    have q2 := H1.out.1.r.c2
    clear hr P
    simp only at q2
    go_wp2_with fail
    refine (F.out w1 H1.out.1).mono ?_
    rintro e2 w2 hr
    obtain ⟨rfl, H2⟩ := (hr.comp H1.out.2).out1
    clear hr F H1 q2
    go_wp2_with fail
    refine (WN.out w2 H2.out.1).mono ?_
    rintro e3 w3 hr
    obtain ⟨rfl, H3⟩ := (hr.comp H2.out.2).out1
    have q3 := H3.out.1.r.c2
    have fz := H3.out.1.r.fz 2
    clear hr WN H2
    simp only at q3
    go_wp2_with fail
    go_end0
    have := LAST.out w3 H3.out.1 H3.out.2
    simpa using this
  · rw [if_neg hB] at hs1
    subst hs1
    have hor : isT L ⟨i, dp, e, p⟩ t = false ∨ (isT L ⟨i, dp, e, p⟩ t = true ∧ ¬ (40 : Int) ≤ (dp : Int)) := by
      cases hx : isT L ⟨i, dp, e, p⟩ t with
      | false => exact .inl rfl
      | true =>
        right
        rw [hx] at hB
        refine ⟨rfl, fun h => hB ⟨rfl, by omega⟩⟩
    clear hB F
    rcases hor with hx | ⟨hx, hz⟩ <;>
    · rw [hx] at P
      clear hx
      go_enter Tryz.func118, Tryz.ntmps118
      go_wp2_with fail
      refine P.mono ?_
      rintro e1 w1 hr
      obtain ⟨rfl, H1⟩ := hr.out1
      have q2 := H1.out.1.r.c2
      clear hr P
      simp only at q2
      go_wp2_with fail
      refine (WN.out w1 H1.out.1).mono ?_
      rintro e3 w3 hr
      obtain ⟨rfl, H3⟩ := (hr.comp H1.out.2).out1
      have q3 := H3.out.1.r.c2
      have fz := H3.out.1.r.fz 2
      clear hr WN H1 q2
      simp only at q3
      go_wp2_with fail
      go_end0
      have := LAST.out w3 H3.out.1 H3.out.2
      simpa using this

theorem rdr_name (w0 w : World) (b n : Nat) (vl : Value) (L : List Tk) (s : PS) (h : Rdr w0 w b n vl L s) :
    Calls Tryz.prog 34 #[.pointer (some ⟨b, 0, none⟩)] w (Rets w0 w b n vl L (nameT L s).2 (.returned (.string (tx (nameT L s).1)))) := by
  have H := Lib.hid h
  obtain ⟨a, c, rfl, hin, d0, d1, d2⟩ := h.cur (Grow.refl w)
  obtain ⟨a', c', ea, _, f0, f1, f2⟩ := h.cur (w1 := w.alloc tok0) ((Below.refl _ w).alloc (Nat.le_refl _) _)
  simp only [Value.slice.injEq, Option.some.injEq] at ea
  obtain ⟨rfl, _, rfl⟩ := ea
  have r0 := h.r.c0
  have r1 := h.r.c1
  have r3 := h.r.c3
  have hb := h.blt
  have hi := h.few
  have F := Lib.hid (fun w1 h1 => rdr_fail w0 w1 b n (.slice (some a) n c) L s 11 h1)
  obtain ⟨T, hT⟩ : ∃ T, curT L s = T := ⟨_, rfl⟩
  have HN : Hid (nameT L s = if s.e ≠ 0 ∨ T.kind ≠ 1 then ([], failT L s 11) else (T.text, s.go)) := Lib.hid (by unfold nameT; rw [hT])
  have HG : Hid (s.e = 0 → T.kind = 1 → s.i + 1 < L.length) := Lib.hid (fun h1 h2 => h.ok.more s.i h.lt (by change (curT L s).kind ≠ 0; rw [hT, h2]; decide))
  rw [hT] at d0 d1 d2 f0 f1 f2
  clear hT
  obtain ⟨kd, tt, tp⟩ := T
  obtain ⟨i, dp, e, p⟩ := s
  simp only at r1 r3 hin d0 d1 d2 f0 f1 f2 HN HG hi
  clear h
  go_enter Tryz.func34, Tryz.ntmps34
  go_wp2_with fail
  go_region
  have hC : Chg [] w (w.alloc (.cells #[.int .i64 kd, .string (tx tt), .int .i64 (tp : Int)] 52)).drew := ((Chg.refl [] w).alloc _).drew
  have hnew := heap_alloc_new w (.cells #[.int .i64 kd, .string (tx tt), .int .i64 (tp : Int)] 52)
  have m0 : (w.alloc (.cells #[.int .i64 kd, .string (tx tt), .int .i64 (tp : Int)] 52)).drew.cell? ⟨w.heap.size, 0, none⟩ = _ := cellsN hnew 0 _ rfl
  have m1 : (w.alloc (.cells #[.int .i64 kd, .string (tx tt), .int .i64 (tp : Int)] 52)).drew.cell? ⟨w.heap.size, 1, none⟩ = _ := cellsN hnew 1 _ rfl
  have hR := H.out.chg hC (fun x hx => by cases hx) (H.out.r.chg hC (by simp)) H.out.lt H.out.deep
  have H2 := Lib.hid (And.intro hR (hC.mono (fun x hx => by cases hx) : Chg [b] w _))
  have q3 := hR.r.c3
  have q1 := hR.r.c1
  have fz := hR.r.fz 1
  have hbs : b ≠ w.heap.size := Nat.ne_of_lt hb
  have m1' : ∀ x, ((w.alloc (.cells #[.int .i64 kd, .string (tx tt), .int .i64 (tp : Int)] 52)).drew.setCell ⟨b, 1, none⟩ x).cell? ⟨w.heap.size, 1, none⟩ = some (.string (tx tt)) := fun x =>
    (World.cell?_setCell_other _ _ _ _ (by intro e; cases e; exact hbs rfl)).trans m1
  clear hC hnew r0 r1 r3 d0 d1 d2 f0 f1 f2 hin hb hR H hbs
  generalize (w.alloc (.cells #[.int .i64 kd, .string (tx tt), .int .i64 (tp : Int)] 52)).drew = W at *
  by_cases he : e = 0
  · subst he
    by_cases hk : kd = 1
    · subst hk
      go_wp2_with fail
      go_ret
      rw [HN.out, if_neg (by simp)]
      refine ⟨rfl, ?_, H2.out.2.set (.inl (by simp)) 1 _⟩
      have := H2.out.1.set1 (i + 1) (HG.out (by first | rfl | trivial) (by first | rfl | trivial))
      change Rdr _ _ _ _ _ _ ⟨i + 1, dp, 0, p⟩
      simpa using this
    · have hk2 : (kd == 1) = false := by simpa using hk
      go_wp2_with fail
      refine (F.out W H2.out.1).mono ?_
      rintro e2 w2 hr
      obtain ⟨rfl, H3⟩ := (hr.comp H2.out.2).out1
      clear hr F H2
      go_wp2_with fail
      go_ret
      rw [HN.out, if_pos (.inr hk)]
      exact ⟨rfl, H3.out⟩
  · have he2 : (e == 0) = false := by simpa using he
    go_wp2_with fail
    refine (F.out W H2.out.1).mono ?_
    rintro e2 w2 hr
    obtain ⟨rfl, H3⟩ := (hr.comp H2.out.2).out1
    clear hr F H2
    go_wp2_with fail
    go_ret
    rw [HN.out, if_pos (.inl he)]
    exact ⟨rfl, H3.out⟩

theorem rdr_qname (w0 w : World) (b n : Nat) (vl : Value) (L : List Tk) (s : PS) (h : Rdr w0 w b n vl L s) :
    Calls Tryz.prog 132 #[.pointer (some ⟨b, 0, none⟩)] w (Rets w0 w b n vl L (qnameT L s).2 (.returned (.tuple #[.string (tx (qnameT L s).1.1), .string (tx (qnameT L s).1.2)]))) := by
  have P := rdr_name w0 w b n vl L s h
  obtain ⟨q, hq⟩ : ∃ q, nameT L s = q := ⟨_, rfl⟩
  obtain ⟨a1, s1⟩ := q
  have Tk := Lib.hid (fun w1 h1 => rdr_take w0 w1 b n vl L s1 [46] h1)
  have HQ : Hid (qnameT L s = if isT L s1 [46] = true then ((a1, (nameT L s1.go).1), (nameT L s1.go).2) else (([], a1), s1)) := Lib.hid (by unfold qnameT; rw [hq])
  rw [hq] at P
  clear h hq
  cases hB : isT L s1 [46] with
  | true =>
    rw [takeT, hB, if_pos rfl] at Tk
    rw [if_pos hB] at HQ
    have N2 := Lib.hid (fun w1 h1 => rdr_name w0 w1 b n vl L s1.go h1)
    rw [HQ.out]
    obtain ⟨⟨a2, s2⟩, hq2⟩ : ∃ q, nameT L s1.go = q := ⟨_, rfl⟩
    rw [hq2] at N2 ⊢
    clear HQ hq2 hB
    go_enter Tryz.func132, Tryz.ntmps132
    go_wp2_with fail
    refine P.mono ?_
    rintro e1 w1 hr
    obtain ⟨rfl, H1⟩ := hr.out1
    clear hr P
    go_wp2_with fail
    refine (Tk.out w1 H1.out.1).mono ?_
    rintro e2 w2 hr
    obtain ⟨rfl, H2⟩ := (hr.comp H1.out.2).out1
    clear hr Tk H1
    go_wp2_with fail
    refine (N2.out w2 H2.out.1).mono ?_
    rintro e3 w3 hr
    obtain ⟨rfl, H3⟩ := (hr.comp H2.out.2).out1
    clear hr N2 H2
    go_wp2_with fail
    go_ret2
    exact ⟨rfl, H3.out⟩
  | false =>
    rw [takeT, hB, if_neg (by simp)] at Tk
    rw [hB, if_neg (by simp)] at HQ
    rw [HQ.out]
    clear HQ hB
    go_enter Tryz.func132, Tryz.ntmps132
    go_wp2_with fail
    refine P.mono ?_
    rintro e1 w1 hr
    obtain ⟨rfl, H1⟩ := hr.out1
    clear hr P
    go_wp2_with fail
    refine (Tk.out w1 H1.out.1).mono ?_
    rintro e2 w2 hr
    obtain ⟨rfl, H2⟩ := (hr.comp H1.out.2).out1
    clear hr Tk H1
    go_wp2_with fail
    go_ret2
    exact ⟨rfl, H2.out⟩

end Go.Proofs.YtfcfbdemfbkgmaaGreatDoor
