/- The reference's reader, more: fail, here, want, open, name, qname. Numbers and types by name. -/
import Derived.Test.YtejaikpnfhhmnaaDoorPan
import Derived.Test.YtejaikpnfhhmnaaDoorPam
/- The reference's reader in memory; here, is, take, fail, want, open, name, qname. Numbers and types by name. -/
namespace Go.Proofs.YtejaikpnfhhmnaaDoor
open Go.RowKit Go.Lib
set_option maxRecDepth 100000

/-- A reader's cells. -/
structure RdS (w : World) (b : Nat) (vl : Value) (s : PS) : Prop where
  c0 : w.cell? ⟨b, 0, none⟩ = some vl
  c1 : w.cell? ⟨b, 1, none⟩ = some (.int .i64 s.i)
  c2 : w.cell? ⟨b, 2, none⟩ = some (.int .i64 s.deep)
  c3 : w.cell? ⟨b, 3, none⟩ = some (.int .i64 s.e)
  c4 : w.cell? ⟨b, 4, none⟩ = some (.int .i64 s.pos)
  fz : ∀ k, w.frozen? ⟨b, k, none⟩ = false
theorem ne_off {b j k : Nat} (h : j ≠ k) : (⟨b, j, none⟩ : Addr) ≠ ⟨b, k, none⟩ := by intro e; cases e; exact h rfl
theorem RdS.set1 {w : World} {b : Nat} {vl : Value} {s : PS} (h : RdS w b vl s) (i : Nat) : RdS (w.setCell ⟨b, 1, none⟩ (.int .i64 (i : Int))) b vl { s with i := i } :=
  ⟨(World.cell?_setCell_other w _ _ _ (ne_off (by decide))).trans h.c0, World.cell?_setCell_same w _ _ h.c1, (World.cell?_setCell_other w _ _ _ (ne_off (by decide))).trans h.c2, (World.cell?_setCell_other w _ _ _ (ne_off (by decide))).trans h.c3, (World.cell?_setCell_other w _ _ _ (ne_off (by decide))).trans h.c4, fun k => by rw [World.frozen?_setCell]; exact h.fz k⟩
theorem RdS.set2 {w : World} {b : Nat} {vl : Value} {s : PS} (h : RdS w b vl s) (d : Nat) : RdS (w.setCell ⟨b, 2, none⟩ (.int .i64 (d : Int))) b vl { s with deep := d } :=
  ⟨(World.cell?_setCell_other w _ _ _ (ne_off (by decide))).trans h.c0, (World.cell?_setCell_other w _ _ _ (ne_off (by decide))).trans h.c1, World.cell?_setCell_same w _ _ h.c2, (World.cell?_setCell_other w _ _ _ (ne_off (by decide))).trans h.c3, (World.cell?_setCell_other w _ _ _ (ne_off (by decide))).trans h.c4, fun k => by rw [World.frozen?_setCell]; exact h.fz k⟩
theorem RdS.set3 {w : World} {b : Nat} {vl : Value} {s : PS} (h : RdS w b vl s) (e : Int) : RdS (w.setCell ⟨b, 3, none⟩ (.int .i64 e)) b vl { s with e := e } :=
  ⟨(World.cell?_setCell_other w _ _ _ (ne_off (by decide))).trans h.c0, (World.cell?_setCell_other w _ _ _ (ne_off (by decide))).trans h.c1, (World.cell?_setCell_other w _ _ _ (ne_off (by decide))).trans h.c2, World.cell?_setCell_same w _ _ h.c3, (World.cell?_setCell_other w _ _ _ (ne_off (by decide))).trans h.c4, fun k => by rw [World.frozen?_setCell]; exact h.fz k⟩
theorem RdS.set4 {w : World} {b : Nat} {vl : Value} {s : PS} (h : RdS w b vl s) (p : Nat) : RdS (w.setCell ⟨b, 4, none⟩ (.int .i64 (p : Int))) b vl { s with pos := p } :=
  ⟨(World.cell?_setCell_other w _ _ _ (ne_off (by decide))).trans h.c0, (World.cell?_setCell_other w _ _ _ (ne_off (by decide))).trans h.c1, (World.cell?_setCell_other w _ _ _ (ne_off (by decide))).trans h.c2, (World.cell?_setCell_other w _ _ _ (ne_off (by decide))).trans h.c3, World.cell?_setCell_same w _ _ h.c4, fun k => by rw [World.frozen?_setCell]; exact h.fz k⟩
theorem RdS.chg {w w' : World} {b : Nat} {vl : Value} {s : PS} {F : List Nat} (h : RdS w b vl s) (hc : Chg F w w') (hb : b ∉ F) : RdS w' b vl s :=
  ⟨hc.cell h.c0 hb, hc.cell h.c1 hb, hc.cell h.c2 hb, hc.cell h.c3 hb, hc.cell h.c4 hb, fun k => (World.frozen?_of_block (a := ⟨b, k, none⟩) (hc.block b (World.block_lt_of_cell? w _ h.c0) hb)).trans (h.fz k)⟩

/-- A reader over tokens that lie below it. -/
structure Rdr (w0 w : World) (b n : Nat) (vl : Value) (L : List Tk) (s : PS) : Prop where
  r : RdS w b vl s
  t : Tkr w0 vl n L
  lo : w0.heap.size ≤ b
  b : Below w0.heap.size w0 w
  lt : s.i < L.length
  ok : TokL L
  deep : s.deep ≤ 1000
theorem Rdr.chg {w0 w w' : World} {b n : Nat} {vl : Value} {L : List Tk} {s s' : PS} {F : List Nat} (h : Rdr w0 w b n vl L s) (hc : Chg F w w') (hF : ∀ x ∈ F, b ≤ x) (hr : RdS w' b vl s') (hl : s'.i < L.length) (hd : s'.deep ≤ 1000) : Rdr w0 w' b n vl L s' :=
  ⟨hr, h.t, h.lo, h.b.trans (hc.below (Nat.le_trans h.b.size (Nat.le_refl _)) fun x hx => Nat.le_trans h.lo (hF x hx)), hl, h.ok, hd⟩
theorem Rdr.blt {w0 w : World} {b n : Nat} {vl : Value} {L : List Tk} {s : PS} (h : Rdr w0 w b n vl L s) : b < w.heap.size := World.block_lt_of_cell? w _ h.r.c0
/-- The token that stands there. -/
theorem Rdr.cur {w0 w w1 : World} {b n : Nat} {vl : Value} {L : List Tk} {s : PS} (h : Rdr w0 w b n vl L s) (hg : Grow w w1) :
    ∃ a c, vl = .slice (some a) n c ∧ (s.i : Int) < (n : Int) ∧ w1.cell? (a.add (s.i * 3)) = some (.int .i64 (curT L s).kind) ∧ w1.cell? ⟨(a.add (s.i * 3)).block, (a.add (s.i * 3)).off + 1, none⟩ = some (.string (tx (curT L s).text)) ∧ w1.cell? ⟨(a.add (s.i * 3)).block, (a.add (s.i * 3)).off + 2, none⟩ = some (.int .i64 ((curT L s).pos : Int)) := by
  have ht := h.t
  obtain ⟨ao, c, rfl⟩ := ht.shape
  have hn := ht.1
  have hlt := h.lt
  obtain ⟨a, o, rfl, ho, c0, c1, c2⟩ := ((ht.later h.b).later hg).at (k := s.i) (by omega)
  obtain rfl : o = curT L s := by
    unfold curT
    rw [List.getD_eq_getElem?_getD, ho]
    rfl
  exact ⟨a, c, rfl, by omega, c0, c1, c2⟩

/-- The block of a token that is not laid yet. -/
abbrev tok0 : Obj := .cells #[.int .i64 0, .string ⟨#[]⟩, .int .i64 0] 96
/-- What a piece of the reader leaves: a value, the state, new memory. -/
def Rets (w0 w : World) (b n : Nat) (vl : Value) (L : List Tk) (s' : PS) (x : Ending) (e : Ending) (w' : World) : Prop := e = x ∧ Rdr w0 w' b n vl L s' ∧ Chg [b] w w'

theorem rdr_is (w0 w : World) (b n : Nat) (vl : Value) (L : List Tk) (s : PS) (t : List UInt8) (h : Rdr w0 w b n vl L s) :
    Calls Tryd.prog 59 #[.pointer (some ⟨b, 0, none⟩), .string (tx t)] w (Rets w0 w b n vl L s (.returned (.bool (isT L s t)))) := by
  have H := Lib.hid h
  obtain ⟨a, c, rfl, hin, d0, d1, d2⟩ := h.cur (Grow.refl w)
  obtain ⟨a', c', ea, _, f0, f1, f2⟩ := h.cur (w1 := w.alloc tok0) ((Below.refl _ w).alloc (Nat.le_refl _) _)
  simp only [Value.slice.injEq, Option.some.injEq] at ea
  obtain ⟨rfl, _, rfl⟩ := ea
  have r0 := h.r.c0
  have r1 := h.r.c1
  have r3 := h.r.c3
  have hb := h.blt
  obtain ⟨kd, hk⟩ : ∃ k, (curT L s).kind = k := ⟨_, rfl⟩
  obtain ⟨tt, htt⟩ : ∃ k, (curT L s).text = k := ⟨_, rfl⟩
  obtain ⟨BB, hBB⟩ : ∃ x, isT L s t = x := ⟨_, rfl⟩
  rw [hBB]
  have HB : Hid (BB = (s.e == 0 && (kd == 4 || kd == 3) && tt == t)) := Lib.hid (by rw [← hBB]; unfold isT; rw [hk, htt])
  clear hBB
  rw [hk] at d0 f0
  rw [htt] at d1 f1
  have y1 := tx_list tt
  have y2 := tx_list t
  obtain ⟨i, dp, e, p⟩ := s
  simp only at r1 r3 hin d0 d1 d2 f0 f1 f2 HB
  clear h hk htt
  go_enter Tryd.func59, Tryd.ntmps59
  go_wp2_with fail
  go_region
  have hC : Chg [] w (w.alloc (.cells #[.int .i64 kd, .string (tx tt), .int .i64 ((curT L { i := i, deep := dp, e := e, pos := p }).pos : Int)] 96)).drew := ((Chg.refl [] w).alloc _).drew
  have hnew := heap_alloc_new w (.cells #[.int .i64 kd, .string (tx tt), .int .i64 ((curT L { i := i, deep := dp, e := e, pos := p }).pos : Int)] 96)
  have m0 : (w.alloc (.cells #[.int .i64 kd, .string (tx tt), .int .i64 ((curT L { i := i, deep := dp, e := e, pos := p }).pos : Int)] 96)).drew.cell? ⟨w.heap.size, 0, none⟩ = _ := cellsN hnew 0 _ rfl
  have m1 : (w.alloc (.cells #[.int .i64 kd, .string (tx tt), .int .i64 ((curT L { i := i, deep := dp, e := e, pos := p }).pos : Int)] 96)).drew.cell? ⟨w.heap.size, 1, none⟩ = _ := cellsN hnew 1 _ rfl
  have H2 := Lib.hid (And.intro (H.out.r.chg hC (by simp)) hC)
  have r3' := H2.out.1.c3
  clear hC hnew r0 r1 r3 d0 d1 d2 f0 f1 f2 hin hb
  generalize (w.alloc (.cells #[.int .i64 kd, .string (tx tt), .int .i64 ((curT L { i := i, deep := dp, e := e, pos := p }).pos : Int)] 96)).drew = W at *
  have FIN : Hid (∀ B, B = BB → Rets w0 w b n (.slice (some a) n c) L { i := i, deep := dp, e := e, pos := p } (.returned (.bool BB)) (.returned (.bool B)) W) := Lib.hid fun B hB =>
    ⟨by rw [hB], H.out.chg H2.out.2 (fun x hx => by cases hx) H2.out.1 H.out.lt H.out.deep, H2.out.2.mono (fun x hx => by cases hx)⟩
  clear H H2
  obtain ⟨b1, q1⟩ : ∃ x, (e == 0) = x := ⟨_, rfl⟩
  obtain ⟨b2, q2⟩ : ∃ x, (kd == 4) = x := ⟨_, rfl⟩
  obtain ⟨b3, q3⟩ : ∃ x, (kd == 3) = x := ⟨_, rfl⟩
  rw [q1, q2, q3] at HB
  obtain ⟨b4, q4⟩ : ∃ x, (tt == t) = x := ⟨_, rfl⟩
  rw [q4] at HB
  have q5 : (tt = t) = (b4 = true) := by rw [← q4]; simp
  cases b1 <;> cases b2 <;> cases b3 <;> cases b4 <;>
  · go_wp2_with fail
    go_ret
    exact FIN.out _ HB.out.symm

theorem Rdr.set1 {w0 w : World} {b n : Nat} {vl : Value} {L : List Tk} {s : PS} (h : Rdr w0 w b n vl L s) (i : Nat) (hi : i < L.length) : Rdr w0 (w.setCell ⟨b, 1, none⟩ (.int .i64 (i : Int))) b n vl L { s with i := i } :=
  h.chg (F := [b]) ((Chg.refl [b] w).set (.inl (by simp)) 1 _) (fun x hx => by simp only [List.mem_singleton] at hx; omega) (h.r.set1 i) hi h.deep
theorem Rdr.few {w0 w : World} {b n : Nat} {vl : Value} {L : List Tk} {s : PS} (h : Rdr w0 w b n vl L s) : s.i < 10000 := by
  have := h.lt
  have := h.ok.few
  omega
theorem Rets.out1 {w0 w w' : World} {b n : Nat} {vl : Value} {L : List Tk} {s' : PS} {x e : Ending} (h : Rets w0 w b n vl L s' x e w') : e = x ∧ Hid (Rdr w0 w' b n vl L s' ∧ Chg [b] w w') := ⟨h.1, Lib.hid h.2⟩

theorem rdr_take (w0 w : World) (b n : Nat) (vl : Value) (L : List Tk) (s : PS) (t : List UInt8) (h : Rdr w0 w b n vl L s) :
    Calls Tryd.prog 60 #[.pointer (some ⟨b, 0, none⟩), .string (tx t)] w (Rets w0 w b n vl L (takeT L s t) (.returned (.bool (isT L s t)))) := by
  have P := rdr_is w0 w b n vl L s t h
  have hk : ∀ w1, Rdr w0 w1 b n vl L s → Chg [b] w w1 → isT L s t = true → Rets w0 w b n vl L (takeT L s t) (.returned (.bool true)) (.returned (.bool true)) (w1.setCell ⟨b, 1, none⟩ (.int .i64 ((s.i + 1 : Nat) : Int))) := fun w1 h1 hc ht => by
    refine ⟨rfl, ?_, hc.set (.inl (by simp)) 1 _⟩
    rw [takeT, if_pos ht]
    exact h1.set1 _ (isT_more h.ok ht h.lt)
  have hn : isT L s t = false → takeT L s t = s := fun ht => by rw [takeT, ht, if_neg (by simp)]
  have hi := h.few
  have HK := Lib.hid (And.intro hk hn)
  clear hk hn h
  obtain ⟨i, dp, e, p⟩ := s
  simp only at hi
  cases hB : isT L ⟨i, dp, e, p⟩ t with
  | false =>
    rw [hB] at P
    have HN := Lib.hid (HK.out.2 hB)
    clear HK hB
    go_enter Tryd.func60, Tryd.ntmps60
    go_wp2_with fail
    refine P.mono ?_
    rintro e1 w1 hr
    obtain ⟨rfl, H1⟩ := hr.out1
    clear hr
    go_wp2_with fail
    go_ret
    rw [HN.out]
    exact ⟨rfl, H1.out⟩
  | true =>
    rw [hB] at P
    have HN : Hid (∀ w1, _ → _ → _) := Lib.hid (fun w1 h1 h2 => HK.out.1 w1 h1 h2 hB)
    clear HK hB
    go_enter Tryd.func60, Tryd.ntmps60
    go_wp2_with fail
    refine P.mono ?_
    rintro e1 w1 hr
    obtain ⟨rfl, H1⟩ := hr.out1
    have r1 := H1.out.1.r.c1
    have fz := H1.out.1.r.fz 1
    clear hr
    simp only at r1
    go_wp2_with fail
    go_ret
    have := HN.out w1 H1.out.1 H1.out.2
    simpa using this

end Go.Proofs.YtejaikpnfhhmnaaDoor

namespace Go.Proofs.YtejaikpnfhhmnaaDoor
open Go.RowKit Go.Lib
set_option maxRecDepth 100000

theorem Rdr.set2 {w0 w : World} {b n : Nat} {vl : Value} {L : List Tk} {s : PS} (h : Rdr w0 w b n vl L s) (d : Nat) (hd : d ≤ 1000) : Rdr w0 (w.setCell ⟨b, 2, none⟩ (.int .i64 (d : Int))) b n vl L { s with deep := d } :=
  h.chg (F := [b]) ((Chg.refl [b] w).set (.inl (by simp)) 2 _) (fun x hx => by simp only [List.mem_singleton] at hx; omega) (h.r.set2 d) h.lt hd
theorem Rdr.set3 {w0 w : World} {b n : Nat} {vl : Value} {L : List Tk} {s : PS} (h : Rdr w0 w b n vl L s) (e : Int) : Rdr w0 (w.setCell ⟨b, 3, none⟩ (.int .i64 e)) b n vl L { s with e := e } :=
  h.chg (F := [b]) ((Chg.refl [b] w).set (.inl (by simp)) 3 _) (fun x hx => by simp only [List.mem_singleton] at hx; omega) (h.r.set3 e) h.lt h.deep
theorem Rdr.set4 {w0 w : World} {b n : Nat} {vl : Value} {L : List Tk} {s : PS} (h : Rdr w0 w b n vl L s) (p : Nat) : Rdr w0 (w.setCell ⟨b, 4, none⟩ (.int .i64 (p : Int))) b n vl L { s with pos := p } :=
  h.chg (F := [b]) ((Chg.refl [b] w).set (.inl (by simp)) 4 _) (fun x hx => by simp only [List.mem_singleton] at hx; omega) (h.r.set4 p) h.lt h.deep
theorem Rdr.drewN {w0 w : World} {b n : Nat} {vl : Value} {L : List Tk} {s : PS} (h : Rdr w0 w b n vl L s) (k : Nat) : Rdr w0 (w.drewN k) b n vl L s :=
  h.chg (F := []) ((Chg.refl [] w).drewN k) (fun x hx => by cases hx) (h.r.chg ((Chg.refl [] w).drewN k) (by simp)) h.lt h.deep

theorem rdr_fail (w0 w : World) (b n : Nat) (vl : Value) (L : List Tk) (s : PS) (x : Int) (h : Rdr w0 w b n vl L s) :
    Calls Tryd.prog 76 #[.pointer (some ⟨b, 0, none⟩), .int .i64 x] w (Rets w0 w b n vl L (failT L s x) (.returned (.tuple #[]))) := by
  have r3 := h.r.c3
  have H := Lib.hid h
  by_cases he : s.e = 0
  · have hF : failT L s x = { s with e := x, pos := (curT L s).pos } := if_pos he
    rw [hF]
    have h1 := h.set3 x
    have h2 := h1.set4 (curT L s).pos
    have fz3 := h.r.fz 3
    obtain ⟨a, c, rfl, hin, d0, d1, d2⟩ := h1.cur (Grow.refl _)
    have r0 := h1.r.c0
    have r1 := h1.r.c1
    have r4 := h1.r.c4
    have fz4 := h1.r.fz 4
    have hc : Chg [b] w (w.setCell ⟨b, 3, none⟩ (.int .i64 x)) := (Chg.refl [b] w).set (.inl (by simp)) 3 _
    have H2 := Lib.hid (And.intro h2 hc)
    change _ = some (Value.int .i64 ((curT L s).pos : Int)) at d2
    obtain ⟨i, dp, e, p⟩ := s
    simp only at he
    subst he
    simp only at r1 r4 hin
    generalize (curT L ⟨i, dp, 0, p⟩).pos = q at *
    clear h h1 h2 hF hc d0 d1 H
    go_enter Tryd.func76, Tryd.ntmps76
    go_wp2_with fail
    generalize w.setCell ⟨b, 3, none⟩ (.int .i64 x) = W at *
    go_region
    go_wp2
    go_end0
    exact ⟨rfl, H2.out.1.drewN 1, (H2.out.2.set (.inl (by simp)) 4 _).drewN 1⟩
  · have hF : failT L s x = s := if_neg he
    rw [hF]
    obtain ⟨i, dp, e, p⟩ := s
    simp only at he r3
    have he2 : (e == 0) = false := by simpa using he
    clear h hF
    go_enter Tryd.func76, Tryd.ntmps76
    go_wp2_with fail
    go_end0
    exact ⟨rfl, H.out, Chg.refl _ _⟩

theorem rdr_here (w0 w : World) (b n : Nat) (vl : Value) (L : List Tk) (s : PS) (h : Rdr w0 w b n vl L s) :
    Calls Tryd.prog 57 #[.pointer (some ⟨b, 0, none⟩)] w (Rets w0 w b n vl L s (.returned (.int .i64 ((curT L s).pos : Int)))) := by
  have H := Lib.hid h
  obtain ⟨a, c, rfl, hin, d0, d1, d2⟩ := h.cur (Grow.refl w)
  have r0 := h.r.c0
  have r1 := h.r.c1
  generalize (curT L s).pos = q at *
  obtain ⟨i, dp, e, p⟩ := s
  simp only at r1 hin
  clear h d0 d1
  go_enter Tryd.func57, Tryd.ntmps57
  go_wp2_with fail
  go_quiet (fail)
  go_wp2
  go_ret
  exact ⟨rfl, H.out.drewN _, (Chg.refl _ _).drewN _⟩

theorem Rets.comp {w0 w w1 w2 : World} {b n : Nat} {vl : Value} {L : List Tk} {s2 : PS} {x e : Ending} (hc : Chg [b] w w1) (h : Rets w0 w1 b n vl L s2 x e w2) : Rets w0 w b n vl L s2 x e w2 := ⟨h.1, h.2.1, hc.trans h.2.2⟩

theorem rdr_want (w0 w : World) (b n : Nat) (vl : Value) (L : List Tk) (s : PS) (t : List UInt8) (h : Rdr w0 w b n vl L s) :
    Calls Tryd.prog 56 #[.pointer (some ⟨b, 0, none⟩), .string (tx t)] w (Rets w0 w b n vl L (wantT L s t) (.returned (.tuple #[]))) := by
  have P := rdr_take w0 w b n vl L s t h
  have F := fun w1 h1 => rdr_fail w0 w1 b n vl L s 11 h1
  clear h
  cases hB : isT L s t with
  | false =>
    rw [hB, takeT, hB, if_neg (by simp)] at P
    rw [wantT, hB, if_neg (by simp)]
    have HF := Lib.hid F
    clear F hB
    go_enter Tryd.func56, Tryd.ntmps56
    go_wp2_with fail
    refine P.mono ?_
    rintro e1 w1 hr
    obtain ⟨rfl, H1⟩ := hr.out1
    clear hr P
    go_wp2_with fail
    refine (HF.out w1 H1.out.1).mono ?_
    rintro e2 w2 hr
    obtain ⟨rfl, H2⟩ := hr.out1
    clear hr HF
    go_wp2_with fail
    go_end0
    exact ⟨rfl, H2.out.1, H1.out.2.trans H2.out.2⟩
  | true =>
    rw [hB, takeT, if_pos hB] at P
    rw [wantT, if_pos hB]
    clear F hB
    go_enter Tryd.func56, Tryd.ntmps56
    go_wp2_with fail
    refine P.mono ?_
    rintro e1 w1 hr
    obtain ⟨rfl, H1⟩ := hr.out1
    clear hr P
    go_wp2_with fail
    go_end0
    exact ⟨rfl, H1.out⟩

theorem rdr_name (w0 w : World) (b n : Nat) (vl : Value) (L : List Tk) (s : PS) (h : Rdr w0 w b n vl L s) :
    Calls Tryd.prog 58 #[.pointer (some ⟨b, 0, none⟩)] w (Rets w0 w b n vl L (nameT L s).2 (.returned (.string (tx (nameT L s).1)))) := by
  have H := Lib.hid h
  obtain ⟨a, c, rfl, hin, d0, d1, d2⟩ := h.cur (Grow.refl w)
  obtain ⟨a', c', ea, _, f0, f1, f2⟩ := h.cur (w1 := w.alloc tok0) ((Below.refl _ w).alloc (Nat.le_refl _) _)
  simp only [Value.slice.injEq, Option.some.injEq] at ea
  obtain ⟨rfl, _, rfl⟩ := ea
  have r0 := h.r.c0
  have r1 := h.r.c1
  have r3 := h.r.c3
  have hb := h.blt
  have hi := h.few
  have F := Lib.hid (fun w1 h1 => rdr_fail w0 w1 b n (.slice (some a) n c) L s 11 h1)
  obtain ⟨T, hT⟩ : ∃ T, curT L s = T := ⟨_, rfl⟩
  have HN : Hid (nameT L s = if s.e ≠ 0 ∨ T.kind ≠ 1 then ([], failT L s 11) else (T.text, s.go)) := Lib.hid (by unfold nameT; rw [hT])
  have HG : Hid (s.e = 0 → T.kind = 1 → s.i + 1 < L.length) := Lib.hid (fun h1 h2 => h.ok.more s.i h.lt (by change (curT L s).kind ≠ 0; rw [hT, h2]; decide))
  rw [hT] at d0 d1 d2 f0 f1 f2
  clear hT
  obtain ⟨kd, tt, tp⟩ := T
  obtain ⟨i, dp, e, p⟩ := s
  simp only at r1 r3 hin d0 d1 d2 f0 f1 f2 HN HG hi
  clear h
  go_enter Tryd.func58, Tryd.ntmps58
  go_wp2_with fail
  go_region
  have hC : Chg [] w (w.alloc (.cells #[.int .i64 kd, .string (tx tt), .int .i64 (tp : Int)] 96)).drew := ((Chg.refl [] w).alloc _).drew
  have hnew := heap_alloc_new w (.cells #[.int .i64 kd, .string (tx tt), .int .i64 (tp : Int)] 96)
  have m0 : (w.alloc (.cells #[.int .i64 kd, .string (tx tt), .int .i64 (tp : Int)] 96)).drew.cell? ⟨w.heap.size, 0, none⟩ = _ := cellsN hnew 0 _ rfl
  have m1 : (w.alloc (.cells #[.int .i64 kd, .string (tx tt), .int .i64 (tp : Int)] 96)).drew.cell? ⟨w.heap.size, 1, none⟩ = _ := cellsN hnew 1 _ rfl
  have hR := H.out.chg hC (fun x hx => by cases hx) (H.out.r.chg hC (by simp)) H.out.lt H.out.deep
  have H2 := Lib.hid (And.intro hR (hC.mono (fun x hx => by cases hx) : Chg [b] w _))
  have q3 := hR.r.c3
  have q1 := hR.r.c1
  have fz := hR.r.fz 1
  have hbs : b ≠ w.heap.size := Nat.ne_of_lt hb
  have m1' : ∀ x, ((w.alloc (.cells #[.int .i64 kd, .string (tx tt), .int .i64 (tp : Int)] 96)).drew.setCell ⟨b, 1, none⟩ x).cell? ⟨w.heap.size, 1, none⟩ = some (.string (tx tt)) := fun x =>
    (World.cell?_setCell_other _ _ _ _ (by intro e; cases e; exact hbs rfl)).trans m1
  clear hC hnew r0 r1 r3 d0 d1 d2 f0 f1 f2 hin hb hR H hbs
  generalize (w.alloc (.cells #[.int .i64 kd, .string (tx tt), .int .i64 (tp : Int)] 96)).drew = W at *
  by_cases he : e = 0
  · subst he
    by_cases hk : kd = 1
    · subst hk
      go_wp2_with fail
      go_ret
      rw [HN.out, if_neg (by simp)]
      refine ⟨rfl, ?_, H2.out.2.set (.inl (by simp)) 1 _⟩
      have := H2.out.1.set1 (i + 1) (HG.out (by first | rfl | trivial) (by first | rfl | trivial))
      change Rdr _ _ _ _ _ _ ⟨i + 1, dp, 0, p⟩
      simpa using this
    · have hk2 : (kd == 1) = false := by simpa using hk
      go_wp2_with fail
      refine (F.out W H2.out.1).mono ?_
      rintro e2 w2 hr
      obtain ⟨rfl, H3⟩ := (hr.comp H2.out.2).out1
      clear hr F H2
      go_wp2_with fail
      go_ret
      rw [HN.out, if_pos (.inr hk)]
      exact ⟨rfl, H3.out⟩
  · have he2 : (e == 0) = false := by simpa using he
    go_wp2_with fail
    refine (F.out W H2.out.1).mono ?_
    rintro e2 w2 hr
    obtain ⟨rfl, H3⟩ := (hr.comp H2.out.2).out1
    clear hr F H2
    go_wp2_with fail
    go_ret
    rw [HN.out, if_pos (.inl he)]
    exact ⟨rfl, H3.out⟩

end Go.Proofs.YtejaikpnfhhmnaaDoor
