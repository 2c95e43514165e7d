/- Lists of nodes; the reference's two and num. Numbers and types by name. -/
import Derived.Test.YtlgfijjkbomejaaGreatDoorPaw
/- The reference's reader, more: fail, here, want, open, name, qname. Numbers and types by name. -/
namespace Go.Proofs.YtlgfijjkbomejaaGreatDoor
open Go.RowKit Go.Lib
set_option maxRecDepth 100000

theorem Rdr.set2 {w0 w : World} {b n : Nat} {vl : Value} {L : List Tk} {s : PS} (h : Rdr w0 w b n vl L s) (d : Nat) (hd : d ≤ 1000) : Rdr w0 (w.setCell ⟨b, 2, none⟩ (.int .i64 (d : Int))) b n vl L { s with deep := d } :=
  h.chg (F := [b]) ((Chg.refl [b] w).set (.inl (by simp)) 2 _) (fun x hx => by simp only [List.mem_singleton] at hx; omega) (h.r.set2 d) h.lt hd
theorem Rdr.set3 {w0 w : World} {b n : Nat} {vl : Value} {L : List Tk} {s : PS} (h : Rdr w0 w b n vl L s) (e : Int) : Rdr w0 (w.setCell ⟨b, 3, none⟩ (.int .i64 e)) b n vl L { s with e := e } :=
  h.chg (F := [b]) ((Chg.refl [b] w).set (.inl (by simp)) 3 _) (fun x hx => by simp only [List.mem_singleton] at hx; omega) (h.r.set3 e) h.lt h.deep
theorem Rdr.set4 {w0 w : World} {b n : Nat} {vl : Value} {L : List Tk} {s : PS} (h : Rdr w0 w b n vl L s) (p : Nat) : Rdr w0 (w.setCell ⟨b, 4, none⟩ (.int .i64 (p : Int))) b n vl L { s with pos := p } :=
  h.chg (F := [b]) ((Chg.refl [b] w).set (.inl (by simp)) 4 _) (fun x hx => by simp only [List.mem_singleton] at hx; omega) (h.r.set4 p) h.lt h.deep
theorem Rdr.drewN {w0 w : World} {b n : Nat} {vl : Value} {L : List Tk} {s : PS} (h : Rdr w0 w b n vl L s) (k : Nat) : Rdr w0 (w.drewN k) b n vl L s :=
  h.chg (F := []) ((Chg.refl [] w).drewN k) (fun x hx => by cases hx) (h.r.chg ((Chg.refl [] w).drewN k) (by simp)) h.lt h.deep

theorem rdr_fail (w0 w : World) (b n : Nat) (vl : Value) (L : List Tk) (s : PS) (x : Int) (h : Rdr w0 w b n vl L s) :
    Calls Tryz.prog 71 #[.pointer (some ⟨b, 0, none⟩), .int .i64 x] w (Rets w0 w b n vl L (failT L s x) (.returned (.tuple #[]))) := by
  have r3 := h.r.c3
  have H := Lib.hid h
  by_cases he : s.e = 0
  · have hF : failT L s x = { s with e := x, pos := (curT L s).pos } := if_pos he
    rw [hF]
    have h1 := h.set3 x
    have h2 := h1.set4 (curT L s).pos
    have fz3 := h.r.fz 3
    obtain ⟨a, c, rfl, hin, d0, d1, d2⟩ := h1.cur (Grow.refl _)
    have r0 := h1.r.c0
    have r1 := h1.r.c1
    have r4 := h1.r.c4
    have fz4 := h1.r.fz 4
    have hc : Chg [b] w (w.setCell ⟨b, 3, none⟩ (.int .i64 x)) := (Chg.refl [b] w).set (.inl (by simp)) 3 _
    have H2 := Lib.hid (And.intro h2 hc)
    change _ = some (Value.int .i64 ((curT L s).pos : Int)) at d2
    obtain ⟨i, dp, e, p⟩ := s
    simp only at he
    subst he
    simp only at r1 r4 hin
    generalize (curT L ⟨i, dp, 0, p⟩).pos = q at *
    clear h h1 h2 hF hc d0 d1 H
    go_enter Tryz.func71, Tryz.ntmps71
    go_wp2_with fail
    generalize w.setCell ⟨b, 3, none⟩ (.int .i64 x) = W at *
    go_region
    go_wp2
    go_end0
    exact ⟨rfl, H2.out.1.drewN 1, (H2.out.2.set (.inl (by simp)) 4 _).drewN 1⟩
  · have hF : failT L s x = s := if_neg he
    rw [hF]
    obtain ⟨i, dp, e, p⟩ := s
    simp only at he r3
    have he2 : (e == 0) = false := by simpa using he
    clear h hF
    go_enter Tryz.func71, Tryz.ntmps71
    go_wp2_with fail
    go_end0
    exact ⟨rfl, H.out, Chg.refl _ _⟩

theorem rdr_here (w0 w : World) (b n : Nat) (vl : Value) (L : List Tk) (s : PS) (h : Rdr w0 w b n vl L s) :
    Calls Tryz.prog 66 #[.pointer (some ⟨b, 0, none⟩)] w (Rets w0 w b n vl L s (.returned (.int .i64 ((curT L s).pos : Int)))) := by
  have H := Lib.hid h
  obtain ⟨a, c, rfl, hin, d0, d1, d2⟩ := h.cur (Grow.refl w)
  have r0 := h.r.c0
  have r1 := h.r.c1
  generalize (curT L s).pos = q at *
  obtain ⟨i, dp, e, p⟩ := s
  simp only at r1 hin
  clear h d0 d1
  go_enter Tryz.func66, Tryz.ntmps66
  go_wp2_with fail
  go_quiet (fail)
  go_wp2
  go_ret
  exact ⟨rfl, H.out.drewN _, (Chg.refl _ _).drewN _⟩

theorem Rets.comp {w0 w w1 w2 : World} {b n : Nat} {vl : Value} {L : List Tk} {s2 : PS} {x e : Ending} (hc : Chg [b] w w1) (h : Rets w0 w1 b n vl L s2 x e w2) : Rets w0 w b n vl L s2 x e w2 := ⟨h.1, h.2.1, hc.trans h.2.2⟩

theorem rdr_want (w0 w : World) (b n : Nat) (vl : Value) (L : List Tk) (s : PS) (t : List UInt8) (h : Rdr w0 w b n vl L s) :
    Calls Tryz.prog 65 #[.pointer (some ⟨b, 0, none⟩), .string (tx t)] w (Rets w0 w b n vl L (wantT L s t) (.returned (.tuple #[]))) := by
  have P := rdr_take w0 w b n vl L s t h
  have F := fun w1 h1 => rdr_fail w0 w1 b n vl L s 11 h1
  clear h
  cases hB : isT L s t with
  | false =>
    rw [hB, takeT, hB, if_neg (by simp)] at P
    rw [wantT, hB, if_neg (by simp)]
    have HF := Lib.hid F
    clear F hB
    go_enter Tryz.func65, Tryz.ntmps65
    go_wp2_with fail
    refine P.mono ?_
    rintro e1 w1 hr
    obtain ⟨rfl, H1⟩ := hr.out1
    clear hr P
    go_wp2_with fail
    refine (HF.out w1 H1.out.1).mono ?_
    rintro e2 w2 hr
    obtain ⟨rfl, H2⟩ := hr.out1
    clear hr HF
    go_wp2_with fail
    go_end0
    exact ⟨rfl, H2.out.1, H1.out.2.trans H2.out.2⟩
  | true =>
    rw [hB, takeT, if_pos hB] at P
    rw [wantT, if_pos hB]
    clear F hB
    go_enter Tryz.func65, Tryz.ntmps65
    go_wp2_with fail
    refine P.mono ?_
    rintro e1 w1 hr
    obtain ⟨rfl, H1⟩ := hr.out1
    clear hr P
    go_wp2_with fail
    go_end0
    exact ⟨rfl, H1.out⟩

theorem rdr_open (w0 w : World) (b n : Nat) (vl : Value) (L : List Tk) (s : PS) (t : List UInt8) (h : Rdr w0 w b n vl L s) (hd : s.deep ≤ 900) :
    Calls Tryz.prog 135 #[.pointer (some ⟨b, 0, none⟩), .string (tx t)] w (Rets w0 w b n vl L (openT L s t) (.returned (.tuple #[]))) := by
  have P := rdr_is w0 w b n vl L s t h
  have F := Lib.hid (fun w1 h1 => rdr_fail w0 w1 b n vl L s 12 h1)
  obtain ⟨s1, hs1⟩ : ∃ x, x = if isT L s t = true ∧ 40 ≤ s.deep then failT L s 12 else s := ⟨_, rfl⟩
  have hsd : s1.deep = s.deep := by
    rw [hs1]
    split
    · exact (fail_goes s 12).deep
    · rfl
  have WN := Lib.hid (fun w1 h1 => rdr_want w0 w1 b n vl L s1 t h1)
  have hwd : (wantT L s1 t).deep = s.deep := (want_goes h.ok s1 t).deep.trans hsd
  have hop : openT L s t = { wantT L s1 t with deep := (wantT L s1 t).deep + 1 } := by rw [hs1]; rfl
  rw [hop]
  clear hop
  generalize wantT L s1 t = s2 at *
  have last : ∀ w1, Rdr w0 w1 b n vl L s2 → Chg [b] w w1 → Rets w0 w b n vl L { s2 with deep := s2.deep + 1 } (.returned (.tuple #[])) (.returned (.tuple #[])) (w1.setCell ⟨b, 2, none⟩ (.int .i64 ((s2.deep + 1 : Nat) : Int))) := fun w1 h1 hc =>
    ⟨rfl, h1.set2 _ (by omega), hc.set (.inl (by simp)) 2 _⟩
  have LAST := Lib.hid last
  have h2d : s2.deep ≤ 900 := by omega
  have HD := Lib.hid (And.intro hsd hwd)
  clear last h hsd hwd
  obtain ⟨i2, dp2, e2, p2⟩ := s2
  obtain ⟨i, dp, e, p⟩ := s
  simp only at h2d hd hs1
  by_cases hB : isT L ⟨i, dp, e, p⟩ t = true ∧ 40 ≤ dp
  · rw [if_pos hB] at hs1
    obtain ⟨hB1, hB2⟩ := hB
    rw [hB1] at P
    rw [← hs1] at F
    have hz : (40 : Int) ≤ (dp : Int) := by omega
    clear hs1 hB1 hB2
    go_enter Tryz.func135, Tryz.ntmps135
    go_wp2_with fail
    refine P.mono ?_
    rintro e1 w1 hr
    obtain ⟨rfl, H1⟩ := hr.out1
    have q2 := H1.out.1.r.c2
    clear hr P
    simp only at q2
    go_wp2_with fail
    refine (F.out w1 H1.out.1).mono ?_
    rintro e2 w2 hr
    obtain ⟨rfl, H2⟩ := (hr.comp H1.out.2).out1
    clear hr F H1 q2
    go_wp2_with fail
    refine (WN.out w2 H2.out.1).mono ?_
    rintro e3 w3 hr
    obtain ⟨rfl, H3⟩ := (hr.comp H2.out.2).out1
    have q3 := H3.out.1.r.c2
    have fz := H3.out.1.r.fz 2
    clear hr WN H2
    simp only at q3
    go_wp2_with fail
    go_end0
    have := LAST.out w3 H3.out.1 H3.out.2
    simpa using this
  · rw [if_neg hB] at hs1
    subst hs1
    have hor : isT L ⟨i, dp, e, p⟩ t = false ∨ (isT L ⟨i, dp, e, p⟩ t = true ∧ ¬ (40 : Int) ≤ (dp : Int)) := by
      cases hx : isT L ⟨i, dp, e, p⟩ t with
      | false => exact .inl rfl
      | true =>
        right
        rw [hx] at hB
        refine ⟨rfl, fun h => hB ⟨rfl, by omega⟩⟩
    clear hB F
    rcases hor with hx | ⟨hx, hz⟩ <;>
    · rw [hx] at P
      clear hx
      go_enter Tryz.func135, Tryz.ntmps135
      go_wp2_with fail
      refine P.mono ?_
      rintro e1 w1 hr
      obtain ⟨rfl, H1⟩ := hr.out1
      have q2 := H1.out.1.r.c2
      clear hr P
      simp only at q2
      go_wp2_with fail
      refine (WN.out w1 H1.out.1).mono ?_
      rintro e3 w3 hr
      obtain ⟨rfl, H3⟩ := (hr.comp H1.out.2).out1
      have q3 := H3.out.1.r.c2
      have fz := H3.out.1.r.fz 2
      clear hr WN H1 q2
      simp only at q3
      go_wp2_with fail
      go_end0
      have := LAST.out w3 H3.out.1 H3.out.2
      simpa using this

theorem rdr_name (w0 w : World) (b n : Nat) (vl : Value) (L : List Tk) (s : PS) (h : Rdr w0 w b n vl L s) :
    Calls Tryz.prog 67 #[.pointer (some ⟨b, 0, none⟩)] w (Rets w0 w b n vl L (nameT L s).2 (.returned (.string (tx (nameT L s).1)))) := by
  have H := Lib.hid h
  obtain ⟨a, c, rfl, hin, d0, d1, d2⟩ := h.cur (Grow.refl w)
  obtain ⟨a', c', ea, _, f0, f1, f2⟩ := h.cur (w1 := w.alloc tok0) ((Below.refl _ w).alloc (Nat.le_refl _) _)
  simp only [Value.slice.injEq, Option.some.injEq] at ea
  obtain ⟨rfl, _, rfl⟩ := ea
  have r0 := h.r.c0
  have r1 := h.r.c1
  have r3 := h.r.c3
  have hb := h.blt
  have hi := h.few
  have F := Lib.hid (fun w1 h1 => rdr_fail w0 w1 b n (.slice (some a) n c) L s 11 h1)
  obtain ⟨T, hT⟩ : ∃ T, curT L s = T := ⟨_, rfl⟩
  have HN : Hid (nameT L s = if s.e ≠ 0 ∨ T.kind ≠ 1 then ([], failT L s 11) else (T.text, s.go)) := Lib.hid (by unfold nameT; rw [hT])
  have HG : Hid (s.e = 0 → T.kind = 1 → s.i + 1 < L.length) := Lib.hid (fun h1 h2 => h.ok.more s.i h.lt (by change (curT L s).kind ≠ 0; rw [hT, h2]; decide))
  rw [hT] at d0 d1 d2 f0 f1 f2
  clear hT
  obtain ⟨kd, tt, tp⟩ := T
  obtain ⟨i, dp, e, p⟩ := s
  simp only at r1 r3 hin d0 d1 d2 f0 f1 f2 HN HG hi
  clear h
  go_enter Tryz.func67, Tryz.ntmps67
  go_wp2_with fail
  go_region
  have hC : Chg [] w (w.alloc (.cells #[.int .i64 kd, .string (tx tt), .int .i64 (tp : Int)] 117)).drew := ((Chg.refl [] w).alloc _).drew
  have hnew := heap_alloc_new w (.cells #[.int .i64 kd, .string (tx tt), .int .i64 (tp : Int)] 117)
  have m0 : (w.alloc (.cells #[.int .i64 kd, .string (tx tt), .int .i64 (tp : Int)] 117)).drew.cell? ⟨w.heap.size, 0, none⟩ = _ := cellsN hnew 0 _ rfl
  have m1 : (w.alloc (.cells #[.int .i64 kd, .string (tx tt), .int .i64 (tp : Int)] 117)).drew.cell? ⟨w.heap.size, 1, none⟩ = _ := cellsN hnew 1 _ rfl
  have hR := H.out.chg hC (fun x hx => by cases hx) (H.out.r.chg hC (by simp)) H.out.lt H.out.deep
  have H2 := Lib.hid (And.intro hR (hC.mono (fun x hx => by cases hx) : Chg [b] w _))
  have q3 := hR.r.c3
  have q1 := hR.r.c1
  have fz := hR.r.fz 1
  have hbs : b ≠ w.heap.size := Nat.ne_of_lt hb
  have m1' : ∀ x, ((w.alloc (.cells #[.int .i64 kd, .string (tx tt), .int .i64 (tp : Int)] 117)).drew.setCell ⟨b, 1, none⟩ x).cell? ⟨w.heap.size, 1, none⟩ = some (.string (tx tt)) := fun x =>
    (World.cell?_setCell_other _ _ _ _ (by intro e; cases e; exact hbs rfl)).trans m1
  clear hC hnew r0 r1 r3 d0 d1 d2 f0 f1 f2 hin hb hR H hbs
  generalize (w.alloc (.cells #[.int .i64 kd, .string (tx tt), .int .i64 (tp : Int)] 117)).drew = W at *
  by_cases he : e = 0
  · subst he
    by_cases hk : kd = 1
    · subst hk
      go_wp2_with fail
      go_ret
      rw [HN.out, if_neg (by simp)]
      refine ⟨rfl, ?_, H2.out.2.set (.inl (by simp)) 1 _⟩
      have := H2.out.1.set1 (i + 1) (HG.out (by first | rfl | trivial) (by first | rfl | trivial))
      change Rdr _ _ _ _ _ _ ⟨i + 1, dp, 0, p⟩
      simpa using this
    · have hk2 : (kd == 1) = false := by simpa using hk
      go_wp2_with fail
      refine (F.out W H2.out.1).mono ?_
      rintro e2 w2 hr
      obtain ⟨rfl, H3⟩ := (hr.comp H2.out.2).out1
      clear hr F H2
      go_wp2_with fail
      go_ret
      rw [HN.out, if_pos (.inr hk)]
      exact ⟨rfl, H3.out⟩
  · have he2 : (e == 0) = false := by simpa using he
    go_wp2_with fail
    refine (F.out W H2.out.1).mono ?_
    rintro e2 w2 hr
    obtain ⟨rfl, H3⟩ := (hr.comp H2.out.2).out1
    clear hr F H2
    go_wp2_with fail
    go_ret
    rw [HN.out, if_pos (.inl he)]
    exact ⟨rfl, H3.out⟩

theorem rdr_qname (w0 w : World) (b n : Nat) (vl : Value) (L : List Tk) (s : PS) (h : Rdr w0 w b n vl L s) :
    Calls Tryz.prog 162 #[.pointer (some ⟨b, 0, none⟩)] w (Rets w0 w b n vl L (qnameT L s).2 (.returned (.tuple #[.string (tx (qnameT L s).1.1), .string (tx (qnameT L s).1.2)]))) := by
  have P := rdr_name w0 w b n vl L s h
  obtain ⟨q, hq⟩ : ∃ q, nameT L s = q := ⟨_, rfl⟩
  obtain ⟨a1, s1⟩ := q
  have Tk := Lib.hid (fun w1 h1 => rdr_take w0 w1 b n vl L s1 [46] h1)
  have HQ : Hid (qnameT L s = if isT L s1 [46] = true then ((a1, (nameT L s1.go).1), (nameT L s1.go).2) else (([], a1), s1)) := Lib.hid (by unfold qnameT; rw [hq])
  rw [hq] at P
  clear h hq
  cases hB : isT L s1 [46] with
  | true =>
    rw [takeT, hB, if_pos rfl] at Tk
    rw [if_pos hB] at HQ
    have N2 := Lib.hid (fun w1 h1 => rdr_name w0 w1 b n vl L s1.go h1)
    rw [HQ.out]
    obtain ⟨⟨a2, s2⟩, hq2⟩ : ∃ q, nameT L s1.go = q := ⟨_, rfl⟩
    rw [hq2] at N2 ⊢
    clear HQ hq2 hB
    go_enter Tryz.func162, Tryz.ntmps162
    go_wp2_with fail
    refine P.mono ?_
    rintro e1 w1 hr
    obtain ⟨rfl, H1⟩ := hr.out1
    clear hr P
    go_wp2_with fail
    refine (Tk.out w1 H1.out.1).mono ?_
    rintro e2 w2 hr
    obtain ⟨rfl, H2⟩ := (hr.comp H1.out.2).out1
    clear hr Tk H1
    go_wp2_with fail
    refine (N2.out w2 H2.out.1).mono ?_
    rintro e3 w3 hr
    obtain ⟨rfl, H3⟩ := (hr.comp H2.out.2).out1
    clear hr N2 H2
    go_wp2_with fail
    go_ret2
    exact ⟨rfl, H3.out⟩
  | false =>
    rw [takeT, hB, if_neg (by simp)] at Tk
    rw [hB, if_neg (by simp)] at HQ
    rw [HQ.out]
    clear HQ hB
    go_enter Tryz.func162, Tryz.ntmps162
    go_wp2_with fail
    refine P.mono ?_
    rintro e1 w1 hr
    obtain ⟨rfl, H1⟩ := hr.out1
    clear hr P
    go_wp2_with fail
    refine (Tk.out w1 H1.out.1).mono ?_
    rintro e2 w2 hr
    obtain ⟨rfl, H2⟩ := (hr.comp H1.out.2).out1
    clear hr Tk H1
    go_wp2_with fail
    go_ret2
    exact ⟨rfl, H2.out⟩

end Go.Proofs.YtlgfijjkbomejaaGreatDoor

namespace Go.Proofs.YtlgfijjkbomejaaGreatDoor
open Go.RowKit Go.Lib
set_option maxRecDepth 100000

def nv (o : Nd) : List Value := [.int .i64 o.kind, .int .i64 o.num, .string (tx o.mod), .string (tx o.name), .int .i64 o.a, .int .i64 o.b, .int .i64 (o.pos : Int)]
def nvs (L : List Nd) : List Value := L.flatMap nv
theorem nvs_length (L : List Nd) : (nvs L).length = L.length * 7 := by
  induction L with
  | nil => rfl
  | cons o L ih => simp only [nvs, List.flatMap_cons, List.length_append, List.length_cons] at *; rw [ih]; simp [nv]; omega
theorem nvs_snoc (L : List Nd) (o : Nd) : nvs (L ++ [o]) = nvs L ++ nv o := by simp [nvs]
theorem nvs_at {L : List Nd} {k : Nat} {o : Nd} (h : L[k]? = some o) (j : Nat) (hj : j < 7) : (nvs L)[k * 7 + j]? = (nv o)[j]? := by
  induction L generalizing k with
  | nil => cases h
  | cons p L ih =>
    have e : nvs (p :: L) = nv p ++ nvs L := by simp [nvs]
    cases k with
    | zero =>
      simp only [List.getElem?_cons_zero, Option.some.injEq] at h
      subst h
      rw [e, Nat.zero_mul, Nat.zero_add, List.getElem?_append_left (by simp [nv]; omega)]
    | succ k =>
      rw [List.getElem?_cons_succ] at h
      rw [e, List.getElem?_append_right (by simp [nv]; omega), ← ih h]
      congr 1
      simp [nv]; omega
theorem nv_one (o : Nd) : ∀ u ∈ nv o, u.oneCell' = true := by
  intro u hu
  simp only [nv, List.mem_cons, List.not_mem_nil, or_false] at hu
  rcases hu with rfl | rfl | rfl | rfl | rfl | rfl | rfl <;> rfl
theorem elemNode : Elem 59 244 (.agg #[.int .i64 0, .int .i64 0, .string ⟨#[]⟩, .string ⟨#[]⟩, .int .i64 0, .int .i64 0, .int .i64 0]) 7 72 := ⟨Tryz.underlying59, by kernel_rfl, by decide, by decide⟩
/-- A list of nodes can be read. -/
def Ndr (w : World) (v : Value) (n : Nat) (L : List Nd) : Prop := n = L.length ∧ n ≤ 100000 ∧ Cells w v 7 n (nvs L)
theorem Ndr.shape {w : World} {v : Value} {n : Nat} {L : List Nd} (h : Ndr w v n L) : ∃ ao c, v = .slice ao n c := by
  obtain ⟨_, _, ao, c, rfl, _⟩ := h
  exact ⟨ao, c, rfl⟩
theorem Ndr.later {w w' : World} {v : Value} {n : Nat} {L : List Nd} (h : Ndr w v n L) (hg : Grow w w') : Ndr w' v n L := ⟨h.1, h.2.1, h.2.2.later hg⟩
theorem Ndr.nil (w : World) : Ndr w (.slice none 0 0) 0 [] := ⟨rfl, Nat.zero_le _, none, 0, rfl, rfl, Nat.le_refl _, fun _ => ⟨rfl, rfl⟩, fun a h => by cases h⟩
/-- Nodes' own row. -/
def OwnN (w : World) (base : Nat) (v : Value) (n : Nat) (L : List Nd) : Prop := n = L.length ∧ w.ownsRow base 244 7 v n (nvs L)
theorem OwnN.nil (w : World) (base : Nat) : OwnN w base (.slice none 0 0) 0 [] := ⟨rfl, World.ownsRow_nil _ _ _ _⟩
theorem OwnN.read {w : World} {base : Nat} {v : Value} {n : Nat} {L : List Nd} (h : OwnN w base v n L) (hn : n ≤ 100000) : Ndr w v n L := ⟨h.1, hn, Cells.own h.2 (by decide)⟩
theorem OwnN.shape {w : World} {base : Nat} {v : Value} {n : Nat} {L : List Nd} (h : OwnN w base v n L) : ∃ ao c, v = .slice ao n c := by
  rcases h.2.2 with ⟨rfl, rfl⟩ | ⟨g, cap, cur, rfl, _⟩
  · exact ⟨none, 0, rfl⟩
  · exact ⟨_, _, rfl⟩
theorem node_lit (w : World) (o : Nd) : Cells (w.alloc (.cells #[.int .i64 o.kind, .int .i64 o.num, .string (tx o.mod), .string (tx o.name), .int .i64 o.a, .int .i64 o.b, .int .i64 (o.pos : Int)] 244)) (.slice (some ⟨w.heap.size, 0, none⟩) 1 1) 7 1 (nv o) := Cells.lit w (nv o) 244 (0, 0) 7 1 rfl
/-- It stays where its block is left. -/
theorem OwnN.chg {w w' : World} {base : Nat} {v : Value} {n : Nat} {L : List Nd} {F : List Nat} (h : OwnN w base v n L) (hc : Chg F w w') (hF : ∀ k, v.ownBlock = some k → k ∉ F) : OwnN w' base v n L := by
  refine ⟨h.1, ?_⟩
  rcases h.2.2 with ⟨rfl, rfl⟩ | ⟨g, cap, cur, rfl, hb, hg, hr⟩
  · exact ⟨h.2.1, .inl ⟨rfl, rfl⟩⟩
  · exact ⟨h.2.1, .inr ⟨g, cap, cur, rfl, hb, (hc.block g (Array.getElem?_eq_some_iff.1 hg).1 (hF g rfl)).trans hg, hr⟩⟩
/-- The block of a row, if it has one. -/
def rowF (v : Value) : List Nat := v.ownBlock.toList
theorem rowF_mem {v : Value} {k : Nat} : k ∈ rowF v ↔ v.ownBlock = some k := by
  unfold rowF
  cases v.ownBlock <;> simp [eq_comm]
/-- A row that came out of another: in its block, or in a new one. -/
def FromRow (w : World) (v v' : Value) : Prop := v'.ownBlock = v.ownBlock ∨ ∀ k, v'.ownBlock = some k → w.heap.size ≤ k
theorem FromRow.refl (w : World) (v : Value) : FromRow w v v := .inl rfl
theorem FromRow.mem {w : World} {v v' : Value} (h : FromRow w v v') {F : List Nat} {x : Nat} (hx : x ∈ rowF v') (hF : ∀ y ∈ rowF v, y ∈ F) : x ∈ F ∨ w.heap.size ≤ x := by
  rw [rowF_mem] at hx
  rcases h with h | h
  · exact .inl (hF x (rowF_mem.2 (by rw [← h]; exact hx)))
  · exact .inr (h x hx)
theorem FromRow.trans {w w1 : World} {v v1 v2 : Value} (h : FromRow w v v1) (h2 : FromRow w1 v1 v2) (hs : w.heap.size ≤ w1.heap.size) : FromRow w v v2 := by
  rcases h2 with e | e
  · rcases h with h | h
    · exact .inl (e.trans h)
    · exact .inr fun k hk => h k (by rw [← e]; exact hk)
  · exact .inr fun k hk => Nat.le_trans hs (e k hk)

/-- What appends to a row leave. -/
def RetsA (w : World) (base : Nat) (v : Value) (l : List Nd) (e : Ending) (w' : World) : Prop :=
  ∃ ao m c, e = .returned (.slice ao m c) ∧ OwnN w' base (.slice ao m c) m l ∧ Chg (rowF v) w w' ∧ FromRow w v (.slice ao m c)
theorem ref_two (w : World) (base : Nat) (v : Value) (m : Nat) (l : List Nd) (a kind : Int) (pos : Nat) (h : OwnN w base v m l) (hm : m ≤ 50000) (hb : base ≤ w.heap.size) (ha : True) :
    Calls Tryz.prog 181 #[v, .int .i64 a, .int .i64 kind, .int .i64 (pos : Int)] w (RetsA w base v (twoT l a kind pos)) := by
  obtain ⟨ao, c, rfl⟩ := h.shape
  have H := Lib.hid h
  have FL : Hid (m + 1 ≤ 1000000) := Lib.hid (by omega)
  have HB := Lib.hid hb
  have EM := Lib.hid h.1
  clear h hb
  go_enter Tryz.func181, Tryz.ntmps181
  go_wp2_with (at_builtin; go_loud (refine wpList_append_gen elemNode rfl (.tmp 9) (.tmp 17) rfl base _ m _ rfl (H.out.2.alloc _) _ 1 (nv ⟨kind, 0, [], [], a, (m : Int) - 1, pos⟩) rfl (node_lit _ ⟨kind, 0, [], [], a, (m : Int) - 1, pos⟩) (nv_one _) (m + 1) rfl FL (by decide) (by have := HB.out; simp; omega) ?_; intro ao6 c6 w6 hown6 hb6 hg6 ho6; have HA := Lib.hid (And.intro hown6 (And.intro hg6 ho6)); clear hown6 hb6 hg6 ho6))
  go_ret
  obtain ⟨h1, h2, h3⟩ := HA.out
  have em := EM.out
  refine ⟨ao6, m + 1, c6, rfl, ⟨?_, ?_⟩, ?_, ?_⟩
  · unfold twoT
    rw [List.length_append, em]
    rfl
  · unfold twoT ndK
    rw [nvs_snoc, ← em]
    exact h1
  · exact (((Chg.refl (rowF (.slice ao m c)) w).alloc _).trans' (Chg.of_grown (F := rowF (.slice ao m c)) h2 (fun k hk => rowF_mem.2 hk)) fun x hx => .inl hx)
  · rcases h3 with h3 | h3
    · exact .inl h3
    · exact .inr fun k hk => by
        rw [h3] at hk
        cases hk
        simp

/-- Digits' number. -/
theorem num_any (l : List UInt8) (hl : l.length ≤ 9) (hd : ∀ c ∈ l, isDig c = true) (w : World) :
    Calls Tryz.prog 105 #[.string (tx l)] w fun e w' => e = .returned (.int .i64 (numV l : Nat)) ∧ w = w' := by
  have hsz := tx_size l
  have HD := Lib.hid hd
  clear hd
  have hb9 : ∀ k, k ≤ 9 → k ≤ l.length → numV (l.take k) < 10 ^ k := by
    intro k
    induction k with
    | zero => intro _ _; exact Nat.one_pos
    | succ k ih =>
      intro h1 h2
      have := ih (by omega) (by omega)
      obtain ⟨c, hc⟩ : ∃ c, l[k]? = some c := ⟨_, List.getElem?_eq_getElem (by omega)⟩
      rw [List.take_add_one, hc]
      show (l.take k ++ [c]).foldl _ 0 < _
      rw [List.foldl_append]
      have hcd := HD.out c (List.mem_of_getElem? hc)
      unfold isDig at hcd
      simp only [Bool.and_eq_true, decide_eq_true_eq] at hcd
      change 10 * numV (l.take k) + (c.toNat - 48) < _
      rw [Nat.pow_succ]
      omega
  have HB := Lib.hid hb9
  clear hb9
  go_enter Tryz.func105, Tryz.ntmps105
  go_wp2_with fail
  go_loopw [3, 4] (fun x i wr => ∃ (k q : Nat), k ≤ l.length ∧ q < 1000000000 ∧ x = .int .i64 q ∧ i = .int .i64 k ∧ Hid (q = numV (l.take k)) ∧ w = wr)
    (fun _ i _ => l.length - (RowKit.intOf i).toNat)
  case atStart => exact ⟨0, 0, Nat.zero_le _, by decide, rfl, rfl, Lib.hid rfl, rfl⟩
  case round =>
    obtain ⟨k, q, hk, hq, rfl, rfl, hs, rfl⟩ := hrel
    by_cases hlt : k < l.length
    · have h3 : (k : Int) < (l.length : Int) := by omega
      obtain ⟨c, hc⟩ : ∃ c, l[k]? = some c := ⟨_, List.getElem?_eq_getElem hlt⟩
      have hb := tx_at hc (by rw [hsz]; exact hlt)
      have hcd := HD.out c (List.mem_of_getElem? hc)
      unfold isDig at hcd
      simp only [Bool.and_eq_true, decide_eq_true_eq] at hcd
      have hn := HB.out (k + 1) (by omega) hlt
      have he : numV (l.take (k + 1)) = 10 * q + (c.toNat - 48) := by
        rw [List.take_add_one, hc, hs.out]
        show (l.take k ++ [c]).foldl _ 0 = _
        rw [List.foldl_append]
        rfl
      rw [he] at hn
      have hp : 10 ^ (k + 1) ≤ 10 ^ 9 := Nat.pow_le_pow_right (by decide) (by omega)
      have hq2 : 10 * q + (c.toNat - 48) < 1000000000 := Nat.lt_of_lt_of_le hn (by simpa using hp)
      have HE := Lib.hid he
      obtain ⟨d, hdd⟩ : ∃ d, c.toNat = d + 48 := ⟨c.toNat - 48, by omega⟩
      have hsub : IntKind.u8.wrap ((c.toNat : Int) - 48) = (d : Int) := by
        simp [IntKind.wrap, IntKind.bits, IntKind.signed]
        omega
      have hd9 : d ≤ 9 := by omega
      obtain ⟨q2, hq3⟩ : ∃ q2, q2 = 10 * q + d := ⟨_, rfl⟩
      have hq4 : 10 * (q : Int) + (d : Int) = (q2 : Int) := by omega
      have hq5 : q2 < 1000000000 := by omega
      have HQ : Hid (q2 = numV (l.take (k + 1))) := Lib.hid (by rw [he]; omega)
      clear hcd hn he hp hq2 hq3 hdd HE hs hc
      go_wp2_with fail
      exact ⟨⟨k + 1, q2, by omega, hq5, rfl, by go_num, HQ, by first | rfl | trivial⟩, by simp [RowKit.intOf]; omega⟩
    · have h3 : ¬ (k : Int) < (l.length : Int) := by omega
      obtain rfl : k = l.length := by omega
      go_wp2_with fail
      go_ret
      rw [hs.out, List.take_length]
      exact ⟨rfl, rfl⟩

end Go.Proofs.YtlgfijjkbomejaaGreatDoor
