/- The parser's plain model: how long lists of nodes get; how deep. Plain facts. Numbers and types by name. -/
import Derived.Test.YtfcfbdemfbkgmaaGreatDoorPax
import Derived.Test.YtfcfbdemfbkgmaaGreatDoorPan
/- The code's parser: accept, fault, expect, expectKind, open, shut, name, qname. Numbers and types by name. -/
namespace Go.Proofs.YtfcfbdemfbkgmaaGreatDoor
open Go.RowKit Go.Lib
set_option maxRecDepth 100000

/-- What a parser panics with. -/
def fltV (e : Int) (p : Nat) : Value := .agg #[.int .i64 e, .int .i64 (p : Int)]
abbrev Pnk (s : PS) : Ending := .panicked [{ v := .iface 58 (fltV s.e s.pos), recovered := false }]
/-- What a piece of the parser leaves: a value and the state, or a panic with the first error. -/
def Ends (w0 w : World) (b : Nat) (L : List Tk) (s' : PS) (V : World → Ending → Prop) (e : Ending) (w' : World) : Prop :=
  Chg [b] w w' ∧ ((s'.e = 0 ∧ Psr w0 w' b L s' ∧ V w' e) ∨ (s'.e ≠ 0 ∧ e = Pnk s'))
theorem Ends.out1 {w0 w w' : World} {b : Nat} {L : List Tk} {s' : PS} {V : World → Ending → Prop} {e : Ending} (h : Ends w0 w b L s' V e w') : (s'.e = 0 ∧ V w' e ∧ Hid (Psr w0 w' b L s' ∧ Chg [b] w w')) ∨ (s'.e ≠ 0 ∧ e = Pnk s' ∧ Hid (Chg [b] w w')) := by
  obtain ⟨hc, ⟨h0, h1, h2⟩ | ⟨h0, h1⟩⟩ := h
  · exact .inl ⟨h0, h2, Lib.hid ⟨h1, hc⟩⟩
  · exact .inr ⟨h0, h1, Lib.hid hc⟩
def Ret (v : Value) : World → Ending → Prop := fun _ e => e = .returned v

theorem psr_accept (w0 w : World) (b : Nat) (L : List Tk) (s : PS) (t : List UInt8) (h : Psr w0 w b L s) (ht : t ∈ wordsL) :
    Calls Tryz.prog 55 #[.pointer (some ⟨b, 0, none⟩), .string (tx t)] w (Pets w0 w b L (takeT L s t) (.returned (.bool (isT L s t)))) := by
  have P := psr_peek w0 w b L s h
  have hi := isT_text h.x h.lt h.e ht
  have y1 := tx_list (curT L s).text
  have y2 := tx_list t
  unfold tokV at P
  have f1 := tok_text (curT L s)
  cases hB : isT L s t with
  | false =>
    have hn : takeT L s t = s := by rw [takeT, hB, if_neg (by simp)]
    rw [hn]
    rw [hB] at hi
    have hne : ¬ (curT L s).text = t := of_decide_eq_false hi.symm
    have hnb : ((curT L s).text == t) = false := by simpa using hne
    clear h hi hB hn
    go_enter Tryz.func55, Tryz.ntmps55
    go_wp2_with fail
    refine P.mono ?_
    rintro e1 w1 hr
    obtain ⟨rfl, H1⟩ := hr.out1
    clear hr P
    go_wp2_with fail
    go_ret
    exact ⟨rfl, H1.out⟩
  | true =>
    have hn : takeT L s t = s.go := by rw [takeT, hB, if_pos rfl]
    rw [hn]
    rw [hB] at hi
    have he : (curT L s).text = t := of_decide_eq_true hi.symm
    have hm := isT_more h.ok hB h.lt
    have K := fun w1 h1 => psr_take w0 w1 b L s h1 hm
    unfold tokV at K
    rw [he] at P y1 f1
    have heb : (t == t) = true := by simp
    clear h hi hB hn he hm
    go_enter Tryz.func55, Tryz.ntmps55
    go_wp2_with fail
    refine P.mono ?_
    rintro e1 w1 hr
    obtain ⟨rfl, H1⟩ := hr.out1
    clear hr P
    go_wp2_with fail
    refine (K w1 H1.out.1).mono ?_
    rintro e2 w2 hr
    obtain ⟨rfl, H2⟩ := hr.out1
    clear hr K
    go_wp2_with fail
    go_ret
    exact ⟨rfl, H2.out.1, H1.out.2.trans H2.out.2⟩

theorem Chg.setRow {F : List Nat} {a w : World} (h : Chg F a w) {c : Nat} (hc : c ∈ F ∨ a.heap.size ≤ c) (cs : Array Value) : Chg F a (w.setRow c cs) :=
  ⟨h.os, h.tape, h.output, by simpa using h.size, fun i hi hn => (setRow_other w c i cs (by rintro rfl; exact hc.elim hn (fun e => by omega))).trans (h.block i hi hn)⟩
theorem Psr.setRow {w0 w : World} {b : Nat} {L : List Tk} {s : PS} (h : Psr w0 w b L s) {c : Nat} (hc : b < c) (cs : Array Value) : Psr w0 (w.setRow c cs) b L s :=
  h.chg (F := [c]) ((Chg.refl [c] w).setRow (.inl (List.mem_singleton.2 rfl)) cs) (fun x hx => by rw [List.mem_singleton] at hx; rw [hx]; exact hc)
/-- A block that was made ahead is as it was. -/
theorem row_kept {w w1 : World} {b : Nat} {o : Obj} (hb : b < w.heap.size) (hc : Chg [b] (w.alloc o) w1) : w1.heap[w.heap.size]? = some o :=
  (hc.block w.heap.size (by simp) (by rw [List.mem_singleton]; omega)).trans (heap_alloc_new w o)
theorem flt_info (x : Int) (p : Nat) : (Tryz.prog.info? 58).map (·.size) = some (#[Value.int .i64 x, .int .i64 (p : Int)]).size := by
  show _ = some 2
  kernel_rfl
theorem flt_ones (x : Int) (p : Nat) : (#[Value.int .i64 x, .int .i64 (p : Int)]).all (·.oneCell') = true := by simp [Value.oneCell']
theorem tok_info (t : Tk) : (Tryz.prog.info? 52).map (·.size) = some (#[Value.int .i64 t.kind, .string (tx t.text), .int .i64 (t.pos : Int)]).size := by
  show _ = some 3
  kernel_rfl
theorem tok_ones (t : Tk) : (#[Value.int .i64 t.kind, .string (tx t.text), .int .i64 (t.pos : Int)]).all (·.oneCell') = true := by simp [Value.oneCell']
theorem psr_fault (w0 w : World) (b : Nat) (L : List Tk) (s : PS) (x : Int) (h : Psr w0 w b L s) :
    Calls Tryz.prog 87 #[.pointer (some ⟨b, 0, none⟩), .int .i64 x] w (Pets w0 w b L s (.returned (fltV x (curT L s).pos))) := by
  have P := fun w1 h1 => psr_peek w0 w1 b L s h1
  have H := Lib.hid h
  unfold tokV at P
  unfold fltV
  have f2 := tok_pos (curT L s)
  generalize curT L s = t at *
  obtain ⟨kd, tt, p⟩ := t
  simp only at P f2
  have HA := Lib.hid (h.chg ((Chg.refl [] w).alloc (.cells #[.int .i64 0, .int .i64 0] 58)) (fun x hx => by cases hx))
  clear h
  go_enter Tryz.func87, Tryz.ntmps87
  go_wp2_with fail
  refine (P _ HA.out).mono ?_
  rintro e1 w1 hr
  obtain ⟨rfl, H1⟩ := hr.out1
  have HZ := Lib.hid (row_kept H.out.blt H1.out.2)
  clear hr P
  go_wp2_with (refine wpList_store_row rfl 58 (.tmp 4) (.tmp 9) rfl w.heap.size _ rfl rfl _ _ HZ.out (flt_info _ _) rfl (flt_ones _ _) ?_)
  try simp only [Exit.inBlock, Exit.then]
  refine bodyPost_ret (results_cell_row rfl _ _ w.heap.size _ _ _ _ rfl (setRow_heap _ _ _ _ _ _ HZ.out) Tryz.underlying58 rfl (flt_info _ _)) rfl ?_
  have hb := H.out.blt
  exact ⟨rfl, H1.out.1.setRow hb _, (((Chg.refl [b] w).alloc _).trans H1.out.2).setRow (.inr (Nat.le_refl _)) _⟩

theorem psr_expect (w0 w : World) (b : Nat) (L : List Tk) (s : PS) (t : List UInt8) (h : Psr w0 w b L s) (ht : t ∈ wordsL) :
    Calls Tryz.prog 53 #[.pointer (some ⟨b, 0, none⟩), .string (tx t)] w (Ends w0 w b L (wantT L s t) (Ret (.tuple #[]))) := by
  have P := psr_accept w0 w b L s t h ht
  have F := fun w1 h1 => psr_fault w0 w1 b L s 11 h1
  have he := h.e
  cases hB : isT L s t with
  | false =>
    have hn : takeT L s t = s := by rw [takeT, hB, if_neg (by simp)]
    have hw : wantT L s t = { s with e := 11, pos := (curT L s).pos } := by
      rw [wantT, hB, if_neg (by simp), failT, if_pos he]
    rw [hB, hn] at P
    rw [hw]
    clear h hB hn hw he
    go_enter Tryz.func53, Tryz.ntmps53
    go_wp2_with fail
    refine P.mono ?_
    rintro e1 w1 hr
    obtain ⟨rfl, H1⟩ := hr.out1
    clear hr P
    go_wp2_with fail
    refine (F w1 H1.out.1).mono ?_
    rintro e2 w2 hr
    obtain ⟨rfl, H2⟩ := hr.out1
    clear hr F
    go_wp2_with fail
    exact ⟨rfl, H1.out.2.trans H2.out.2, .inr ⟨(by decide : (11 : Int) ≠ 0), rfl⟩⟩
  | true =>
    have hn : takeT L s t = s.go := by rw [takeT, hB, if_pos rfl]
    have hw : wantT L s t = s.go := by rw [wantT, hB, if_pos rfl]
    rw [hB, hn] at P
    rw [hw]
    clear F hB hn hw h
    go_enter Tryz.func53, Tryz.ntmps53
    go_wp2_with fail
    refine P.mono ?_
    rintro e1 w1 hr
    obtain ⟨rfl, H1⟩ := hr.out1
    clear hr P
    go_wp2_with fail
    go_end0
    exact ⟨H1.out.2, .inl ⟨he, H1.out.1, rfl⟩⟩


/-- A token of a kind. -/
theorem psr_kind (w0 w : World) (b : Nat) (L : List Tk) (s : PS) (k : Int) (h : Psr w0 w b L s) (hk : k ≠ 0) :
    Calls Tryz.prog 54 #[.pointer (some ⟨b, 0, none⟩), .int .i64 k] w (Ends w0 w b L (if (curT L s).kind = k then s.go else { s with e := 11, pos := (curT L s).pos }) (Ret (tokV (curT L s)))) := by
  have H := Lib.hid h
  have P := fun w1 h1 => psr_peek w0 w1 b L s h1
  have F := fun w1 h1 => psr_fault w0 w1 b L s 11 h1
  have f0 := tok_kind (curT L s)
  have HA := Lib.hid (h.chg ((Chg.refl [] w).alloc tok0) (fun x hx => by cases hx))
  by_cases hB : (curT L s).kind = k
  · rw [if_pos hB]
    have hm : s.i + 1 < L.length := h.ok.more s.i h.lt (by change (curT L s).kind ≠ 0; rw [hB]; exact hk)
    have K := fun w1 h1 => psr_take w0 w1 b L s h1 hm
    have he := h.e
    have hkb : (k == k) = true := by simp
    unfold tokV at P K
    unfold tokV
    generalize curT L s = t at *
    obtain ⟨kd, tt, p⟩ := t
    simp only at P K f0 hB
    subst hB
    clear h F hm hk
    go_enter Tryz.func54, Tryz.ntmps54
    go_wp2_with fail
    refine (P _ HA.out).mono ?_
    rintro e1 w1 hr
    obtain ⟨rfl, H1⟩ := hr.out1
    have HZ := Lib.hid (row_kept H.out.blt H1.out.2)
    clear hr P
    go_wp2_with fail
    refine (K w1 H1.out.1).mono ?_
    rintro e2 w2 hr
    obtain ⟨rfl, H2⟩ := hr.out1
    have HZ2 := Lib.hid ((H2.out.2.block w.heap.size (Array.getElem?_eq_some_iff.1 HZ.out).1 (by have := H.out.blt; rw [List.mem_singleton]; omega)).trans HZ.out)
    clear hr K
    go_wp2_with (refine wpList_store_row rfl 52 (.tmp 4) (.tmp 14) rfl w.heap.size _ rfl rfl _ _ HZ2.out (tok_info ⟨kd, tt, p⟩) rfl (tok_ones ⟨kd, tt, p⟩) ?_)
    try simp only [Exit.inBlock, Exit.then]
    refine bodyPost_ret (res_tok rfl _ _ w.heap.size ⟨kd, tt, p⟩ rfl (setRow_heap _ _ _ _ _ _ HZ2.out)) rfl ?_
    have hb := H.out.blt
    exact ⟨((((Chg.refl [b] w).alloc _).trans H1.out.2).trans H2.out.2).setRow (.inr (Nat.le_refl _)) _, .inl ⟨he, H2.out.1.setRow hb _, rfl⟩⟩
  · rw [if_neg hB]
    have hkb : ((curT L s).kind == k) = false := by simpa using hB
    unfold tokV at P
    generalize curT L s = t at *
    obtain ⟨kd, tt, p⟩ := t
    simp only at P f0 hB hkb F
    clear h hk
    go_enter Tryz.func54, Tryz.ntmps54
    go_wp2_with fail
    refine (P _ HA.out).mono ?_
    rintro e1 w1 hr
    obtain ⟨rfl, H1⟩ := hr.out1
    clear hr P
    go_wp2_with fail
    refine (F w1 H1.out.1).mono ?_
    rintro e2 w2 hr
    obtain ⟨rfl, H2⟩ := hr.out1
    clear hr F
    go_wp2_with fail
    exact ⟨rfl, (((Chg.refl [b] w).alloc _).trans H1.out.2).trans H2.out.2, .inr ⟨(by decide : (11 : Int) ≠ 0), rfl⟩⟩

theorem psr_open (w0 w : World) (b : Nat) (L : List Tk) (s : PS) (t : List UInt8) (h : Psr w0 w b L s) (ht : t ∈ wordsL) :
    Calls Tryz.prog 115 #[.pointer (some ⟨b, 0, none⟩), .string (tx t)] w (Ends w0 w b L (openT L s t) (Ret (.tuple #[]))) := by
  have P := psr_peek w0 w b L s h
  have hi := isT_text h.x h.lt h.e ht
  have y1 := tx_list (curT L s).text
  have y2 := tx_list t
  have f1 := tok_text (curT L s)
  have he := h.e
  have hdp := h.deep
  have F := fun x w1 h1 => psr_fault w0 w1 b L s x h1
  have H := Lib.hid h
  unfold tokV at P
  obtain ⟨a, n, c, g1, _⟩ := h.r
  have q1 := g1.c1
  cases hB : isT L s t with
  | false =>
    have hw : openT L s t = { s with e := 11, pos := (curT L s).pos, deep := s.deep + 1 } := by
      unfold openT
      simp only
      rw [hB, if_neg (by simp), wantT, hB, if_neg (by simp), failT, if_pos he]
    rw [hw]
    rw [hB] at hi
    have hne : ¬ (curT L s).text = t := of_decide_eq_false hi.symm
    have hnb : ((curT L s).text == t) = false := by simpa using hne
    clear h hi hB hw q1 g1
    go_enter Tryz.func115, Tryz.ntmps115
    go_wp2_with fail
    refine P.mono ?_
    rintro e1 w1 hr
    obtain ⟨rfl, H1⟩ := hr.out1
    clear hr P
    go_wp2_with fail
    refine (F 11 w1 H1.out.1).mono ?_
    rintro e2 w2 hr
    obtain ⟨rfl, H2⟩ := hr.out1
    clear hr F
    go_wp2_with fail
    exact ⟨rfl, H1.out.2.trans H2.out.2, .inr ⟨(by decide : (11 : Int) ≠ 0), rfl⟩⟩
  | true =>
    rw [hB] at hi
    have htx : (curT L s).text = t := of_decide_eq_true hi.symm
    have heb : (t == t) = true := by simp
    have hmore := isT_more h.ok hB h.lt
    rw [htx] at P y1 f1
    by_cases h40 : s.deep = 40
    · have hw : openT L s t = { s with e := 12, pos := (curT L s).pos, deep := s.deep + 1 } := by
        unfold openT
        simp only
        rw [hB, if_pos ⟨rfl, by omega⟩, wantT, isT_err (fail_e (by decide)), if_neg (by simp), fail_err (fail_e (by decide)), failT, if_pos he]
      rw [hw]
      clear hw hB hi htx
      rw [h40] at q1
      have R1 := fun w1 => fun (hc : Chg [b] w w1) (h1 : Psr w0 w1 b L s) => show w1.cell? ⟨b, 1, none⟩ = some (.int .i64 ((40 : Nat) : Int)) by
        obtain ⟨a, n, c, g1, _⟩ := h1.r
        rw [← h40]
        exact g1.c1
      have R := Lib.hid R1
      clear R1 h g1 q1
      go_enter Tryz.func115, Tryz.ntmps115
      go_wp2_with fail
      refine P.mono ?_
      rintro e1 w1 hr
      obtain ⟨rfl, H1⟩ := hr.out1
      have q1 := R.out w1 H1.out.2 H1.out.1
      clear hr P
      go_wp2_with fail
      refine (F 12 w1 H1.out.1).mono ?_
      rintro e2 w2 hr
      obtain ⟨rfl, H2⟩ := hr.out1
      clear hr F
      go_wp2_with fail
      exact ⟨rfl, H1.out.2.trans H2.out.2, .inr ⟨(by decide : (12 : Int) ≠ 0), rfl⟩⟩
    · have hw : openT L s t = { s.go with deep := s.deep + 1 } := by
        unfold openT
        simp only
        rw [if_neg (fun hh => h40 (by have := hh.2; omega)), wantT, if_pos hB]
        rfl
      rw [hw]
      clear hw hB hi htx F
      have hz : ¬ (s.deep : Int) = 40 := by omega
      have R := Lib.hid (fun w1 (h1 : Psr w0 w1 b L s) => show w1.cell? ⟨b, 1, none⟩ = some (.int .i64 (s.deep : Int)) ∧ w1.frozen? ⟨b, 1, none⟩ = false ∧ Psr w0 (w1.setCell ⟨b, 1, none⟩ (.int .i64 ((s.deep + 1 : Nat) : Int))) b L { s with deep := s.deep + 1 } from by
        obtain ⟨a, n, c, g1, g2, g3, g4⟩ := h1.r
        have hc : Chg [b] w1 (w1.setCell ⟨b, 1, none⟩ (.int .i64 ((s.deep + 1 : Nat) : Int))) := (Chg.refl [b] w1).set (.inl (List.mem_singleton.2 rfl)) 1 _
        exact ⟨g1.c1, g1.fz 1, ⟨a, n, c, g1.set1 _, g2, g3, g4⟩, h1.e, h1.lo, h1.b.trans (hc.below h1.b.size fun x hx => by rw [List.mem_singleton] at hx; rw [hx]; exact h1.lo), h1.lt, h1.ok, h1.x, by show s.deep + 1 ≤ 40; omega⟩)
      have K := Lib.hid (fun w1 h1 => psr_take w0 w1 b L { s with deep := s.deep + 1 } h1 hmore)
      clear h g1 q1 hmore
      go_enter Tryz.func115, Tryz.ntmps115
      go_wp2_with fail
      refine P.mono ?_
      rintro e1 w1 hr
      obtain ⟨rfl, H1⟩ := hr.out1
      obtain ⟨q1, fz, hset⟩ := R.out w1 H1.out.1
      rw [show ((s.deep + 1 : Nat) : Int) = (s.deep : Int) + 1 by omega] at hset
      have HS := Lib.hid hset
      clear hr P hset
      go_wp2_with fail
      refine (K.out _ HS.out).mono ?_
      rintro e2 w2 hr
      obtain ⟨rfl, H2⟩ := hr.out1
      clear hr K
      go_wp2_with fail
      go_end0
      exact ⟨(H1.out.2.set (.inl (List.mem_singleton.2 rfl)) 1 _).trans H2.out.2, .inl ⟨he, H2.out.1, rfl⟩⟩

theorem psr_shut (w0 w : World) (b : Nat) (L : List Tk) (s : PS) (h : Psr w0 w b L s) (hd : 1 ≤ s.deep) :
    Calls Tryz.prog 117 #[.pointer (some ⟨b, 0, none⟩)] w (Pets w0 w b L s.shut (.returned (.tuple #[]))) := by
  obtain ⟨a, n, c, g1, g2, g3, g4⟩ := h.r
  obtain ⟨d, hd2⟩ : ∃ d, s.deep = d + 1 := ⟨s.deep - 1, by omega⟩
  have hdp := h.deep
  have q1 := g1.c1
  have fz := g1.fz 1
  rw [hd2] at q1
  have hc : Chg [b] w (w.setCell ⟨b, 1, none⟩ (.int .i64 (d : Int))) := (Chg.refl [b] w).set (.inl (List.mem_singleton.2 rfl)) 1 _
  have FIN : Hid (Pets w0 w b L s.shut (.returned (.tuple #[])) (.returned (.tuple #[])) (w.setCell ⟨b, 1, none⟩ (.int .i64 (d : Int)))) := Lib.hid ⟨rfl, ⟨⟨a, n, c, by show PaS _ b a n c (s.deep - 1); rw [hd2]; exact g1.set1 d, g2, g3, g4⟩, h.e, h.lo, h.b.trans (hc.below h.b.size fun x hx => by rw [List.mem_singleton] at hx; rw [hx]; exact h.lo), h.lt, h.ok, h.x, by show s.deep - 1 ≤ 40; omega⟩, hc⟩
  have q1' : w.cell? ⟨b, 1, none⟩ = some (.int .i64 ((d : Int) + 1)) := by rw [q1]; rfl
  have hw : wrap64 (d : Int) = (d : Int) := wrap64_id _ (by omega)
  clear h g1 g4 hc q1 hd hd2
  go_enter Tryz.func117, Tryz.ntmps117
  go_wp2_with fail
  go_end0
  have := FIN.out
  simpa using this

theorem name_is (L : List Tk) (s : PS) (he : s.e = 0) : nameT L s = (if (curT L s).kind = 1 then (curT L s).text else [], if (curT L s).kind = 1 then s.go else { s with e := 11, pos := (curT L s).pos }) := by
  unfold nameT failT
  by_cases h : (curT L s).kind = 1
  · rw [if_neg (by rw [not_or, Decidable.not_not, Decidable.not_not]; exact ⟨he, h⟩), if_pos h, if_pos h]
  · rw [if_pos (.inr h), if_neg h, if_neg h, if_pos he]
theorem psr_name (w0 w : World) (b : Nat) (L : List Tk) (s : PS) (h : Psr w0 w b L s) :
    Calls Tryz.prog 92 #[.pointer (some ⟨b, 0, none⟩)] w (Ends w0 w b L (nameT L s).2 (Ret (.string (tx (nameT L s).1)))) := by
  have P := psr_kind w0 w b L s 1 h (by decide)
  have f1 := tok_text (curT L s)
  have hn := name_is L s h.e
  obtain ⟨⟨r, s1⟩, hr⟩ : ∃ q, nameT L s = q := ⟨_, rfl⟩
  rw [hr] at hn ⊢
  have h2 : (if (curT L s).kind = 1 then s.go else { s with e := 11, pos := (curT L s).pos }) = s1 := (congrArg Prod.snd hn).symm
  have h1 : s1.e = 0 → r = (curT L s).text := fun he => by
    have e1 := congrArg Prod.fst hn
    simp only at e1
    rw [e1]
    split
    · rfl
    · rename_i hk
      rw [if_neg hk] at h2
      rw [← h2] at he
      exact absurd he (show ¬ (11 : Int) = 0 by decide)
  rw [h2] at P
  unfold tokV at P
  have H1 := Lib.hid h1
  clear hn hr h2 h1 h
  go_enter Tryz.func92, Tryz.ntmps92
  go_wp2_with fail
  refine P.mono ?_
  rintro e1 w1 hr
  rcases hr.out1 with ⟨h0, hv, X⟩ | ⟨h0, rfl, X⟩
  · obtain rfl : e1 = _ := hv
    clear hr P
    go_wp2_with fail
    go_ret
    rw [H1.out h0]
    exact ⟨X.out.2, .inl ⟨h0, X.out.1, rfl⟩⟩
  · clear hr P
    go_wp2_with fail
    exact ⟨rfl, X.out, .inr ⟨h0, rfl⟩⟩

theorem psr_qname (w0 w : World) (b : Nat) (L : List Tk) (s : PS) (h : Psr w0 w b L s) :
    Calls Tryz.prog 152 #[.pointer (some ⟨b, 0, none⟩)] w (Ends w0 w b L (qnameT L s).2 (Ret (.tuple #[.string (tx (qnameT L s).1.1), .string (tx (qnameT L s).1.2)]))) := by
  have P := psr_name w0 w b L s h
  have hL := h.ok
  obtain ⟨⟨⟨R1, R2⟩, R⟩, hR⟩ : ∃ q, qnameT L s = q := ⟨_, rfl⟩
  rw [hR]
  unfold qnameT at hR
  simp only at hR ⊢
  obtain ⟨⟨r, s1⟩, hr⟩ : ∃ q, nameT L s = q := ⟨_, rfl⟩
  rw [hr] at P hR
  have A := Lib.hid (fun w1 h1 => psr_accept w0 w1 b L s1 [46] h1 (by decide))
  have N := Lib.hid (fun w1 h1 => psr_name w0 w1 b L s1.go h1)
  simp only at P hR
  have HR := Lib.hid hR
  clear hr h hR
  go_enter Tryz.func152, Tryz.ntmps152
  go_wp2_with fail
  refine P.mono ?_
  rintro e1 w1 hr
  rcases hr.out1 with ⟨h0, hv, X⟩ | ⟨h0, rfl, X⟩
  · obtain rfl : e1 = _ := hv
    clear hr P
    go_wp2_with fail
    refine (A.out w1 X.out.1).mono ?_
    rintro e2 w2 hr
    obtain ⟨rfl, X2⟩ := hr.out1
    clear hr A
    cases hB : isT L s1 [46] with
    | true =>
      rw [takeT, if_pos hB] at X2
      have hR := HR.out
      rw [if_pos hB] at hR
      clear hB HR
      obtain ⟨⟨r2, s2⟩, hr2⟩ : ∃ q, nameT L s1.go = q := ⟨_, rfl⟩
      rw [hr2] at N hR
      simp only [Prod.mk.injEq] at N hR
      obtain ⟨⟨rfl, rfl⟩, rfl⟩ := hR
      clear hr2
      go_wp2_with fail
      refine (N.out w2 X2.out.1).mono ?_
      rintro e3 w3 hr
      rcases hr.out1 with ⟨h0, hv, X3⟩ | ⟨h0, rfl, X3⟩
      · obtain rfl : e3 = _ := hv
        clear hr N
        go_wp2_with fail
        go_ret2
        exact ⟨(X.out.2.trans X2.out.2).trans X3.out.2, .inl ⟨h0, X3.out.1, rfl⟩⟩
      · clear hr N
        go_wp2_with fail
        exact ⟨rfl, (X.out.2.trans X2.out.2).trans X3.out, .inr ⟨h0, rfl⟩⟩
    | false =>
      rw [takeT, hB, if_neg (by simp)] at X2
      have hR := HR.out
      rw [hB, if_neg (by simp)] at hR
      simp only [Prod.mk.injEq] at hR
      obtain ⟨⟨rfl, rfl⟩, rfl⟩ := hR
      clear hB N HR
      go_wp2_with fail
      go_ret2
      exact ⟨X.out.2.trans X2.out.2, .inl ⟨h0, X2.out.1, rfl⟩⟩
  · have hR := HR.out
    rw [isT_err h0, if_neg (by simp)] at hR
    simp only [Prod.mk.injEq] at hR
    obtain ⟨⟨rfl, rfl⟩, rfl⟩ := hR
    clear hr P A N HR
    go_wp2_with fail
    exact ⟨rfl, X.out, .inr ⟨h0, rfl⟩⟩

end Go.Proofs.YtfcfbdemfbkgmaaGreatDoor

/- Lists of nodes; the reference's two and num. Numbers and types by name. -/
namespace Go.Proofs.YtfcfbdemfbkgmaaGreatDoor
open Go.RowKit Go.Lib
set_option maxRecDepth 100000

def nv (o : Nd) : List Value := [.int .i64 o.kind, .int .i64 o.num, .string (tx o.mod), .string (tx o.name), .int .i64 o.a, .int .i64 o.b, .int .i64 (o.pos : Int)]
def nvs (L : List Nd) : List Value := L.flatMap nv
theorem nvs_length (L : List Nd) : (nvs L).length = L.length * 7 := by
  induction L with
  | nil => rfl
  | cons o L ih => simp only [nvs, List.flatMap_cons, List.length_append, List.length_cons] at *; rw [ih]; simp [nv]; omega
theorem nvs_snoc (L : List Nd) (o : Nd) : nvs (L ++ [o]) = nvs L ++ nv o := by simp [nvs]
theorem nvs_at {L : List Nd} {k : Nat} {o : Nd} (h : L[k]? = some o) (j : Nat) (hj : j < 7) : (nvs L)[k * 7 + j]? = (nv o)[j]? := by
  induction L generalizing k with
  | nil => cases h
  | cons p L ih =>
    have e : nvs (p :: L) = nv p ++ nvs L := by simp [nvs]
    cases k with
    | zero =>
      simp only [List.getElem?_cons_zero, Option.some.injEq] at h
      subst h
      rw [e, Nat.zero_mul, Nat.zero_add, List.getElem?_append_left (by simp [nv]; omega)]
    | succ k =>
      rw [List.getElem?_cons_succ] at h
      rw [e, List.getElem?_append_right (by simp [nv]; omega), ← ih h]
      congr 1
      simp [nv]; omega
theorem nv_one (o : Nd) : ∀ u ∈ nv o, u.oneCell' = true := by
  intro u hu
  simp only [nv, List.mem_cons, List.not_mem_nil, or_false] at hu
  rcases hu with rfl | rfl | rfl | rfl | rfl | rfl | rfl <;> rfl
theorem elemNode : Elem 110 148 (.agg #[.int .i64 0, .int .i64 0, .string ⟨#[]⟩, .string ⟨#[]⟩, .int .i64 0, .int .i64 0, .int .i64 0]) 7 72 := ⟨Tryz.underlying110, by kernel_rfl, by decide, by decide⟩
/-- A list of nodes can be read. -/
def Ndr (w : World) (v : Value) (n : Nat) (L : List Nd) : Prop := n = L.length ∧ n ≤ 100000 ∧ Cells w v 7 n (nvs L)
theorem Ndr.shape {w : World} {v : Value} {n : Nat} {L : List Nd} (h : Ndr w v n L) : ∃ ao c, v = .slice ao n c := by
  obtain ⟨_, _, ao, c, rfl, _⟩ := h
  exact ⟨ao, c, rfl⟩
theorem Ndr.later {w w' : World} {v : Value} {n : Nat} {L : List Nd} (h : Ndr w v n L) (hg : Grow w w') : Ndr w' v n L := ⟨h.1, h.2.1, h.2.2.later hg⟩
theorem Ndr.nil (w : World) : Ndr w (.slice none 0 0) 0 [] := ⟨rfl, Nat.zero_le _, none, 0, rfl, rfl, Nat.le_refl _, fun _ => ⟨rfl, rfl⟩, fun a h => by cases h⟩
/-- Nodes' own row. -/
def OwnN (w : World) (base : Nat) (v : Value) (n : Nat) (L : List Nd) : Prop := n = L.length ∧ w.ownsRow base 148 7 v n (nvs L)
theorem OwnN.nil (w : World) (base : Nat) : OwnN w base (.slice none 0 0) 0 [] := ⟨rfl, World.ownsRow_nil _ _ _ _⟩
theorem OwnN.read {w : World} {base : Nat} {v : Value} {n : Nat} {L : List Nd} (h : OwnN w base v n L) (hn : n ≤ 100000) : Ndr w v n L := ⟨h.1, hn, Cells.own h.2 (by decide)⟩
theorem OwnN.shape {w : World} {base : Nat} {v : Value} {n : Nat} {L : List Nd} (h : OwnN w base v n L) : ∃ ao c, v = .slice ao n c := by
  rcases h.2.2 with ⟨rfl, rfl⟩ | ⟨g, cap, cur, rfl, _⟩
  · exact ⟨none, 0, rfl⟩
  · exact ⟨_, _, rfl⟩
theorem node_lit (w : World) (o : Nd) : Cells (w.alloc (.cells #[.int .i64 o.kind, .int .i64 o.num, .string (tx o.mod), .string (tx o.name), .int .i64 o.a, .int .i64 o.b, .int .i64 (o.pos : Int)] 148)) (.slice (some ⟨w.heap.size, 0, none⟩) 1 1) 7 1 (nv o) := Cells.lit w (nv o) 148 (0, 0) 7 1 rfl
/-- It stays where its block is left. -/
theorem OwnN.chg {w w' : World} {base : Nat} {v : Value} {n : Nat} {L : List Nd} {F : List Nat} (h : OwnN w base v n L) (hc : Chg F w w') (hF : ∀ k, v.ownBlock = some k → k ∉ F) : OwnN w' base v n L := by
  refine ⟨h.1, ?_⟩
  rcases h.2.2 with ⟨rfl, rfl⟩ | ⟨g, cap, cur, rfl, hb, hg, hr⟩
  · exact ⟨h.2.1, .inl ⟨rfl, rfl⟩⟩
  · exact ⟨h.2.1, .inr ⟨g, cap, cur, rfl, hb, (hc.block g (Array.getElem?_eq_some_iff.1 hg).1 (hF g rfl)).trans hg, hr⟩⟩
/-- The block of a row, if it has one. -/
def rowF (v : Value) : List Nat := v.ownBlock.toList
theorem rowF_mem {v : Value} {k : Nat} : k ∈ rowF v ↔ v.ownBlock = some k := by
  unfold rowF
  cases v.ownBlock <;> simp [eq_comm]
/-- A row that came out of another: in its block, or in a new one. -/
def FromRow (w : World) (v v' : Value) : Prop := v'.ownBlock = v.ownBlock ∨ ∀ k, v'.ownBlock = some k → w.heap.size ≤ k
theorem FromRow.refl (w : World) (v : Value) : FromRow w v v := .inl rfl
theorem FromRow.mem {w : World} {v v' : Value} (h : FromRow w v v') {F : List Nat} {x : Nat} (hx : x ∈ rowF v') (hF : ∀ y ∈ rowF v, y ∈ F) : x ∈ F ∨ w.heap.size ≤ x := by
  rw [rowF_mem] at hx
  rcases h with h | h
  · exact .inl (hF x (rowF_mem.2 (by rw [← h]; exact hx)))
  · exact .inr (h x hx)
theorem FromRow.trans {w w1 : World} {v v1 v2 : Value} (h : FromRow w v v1) (h2 : FromRow w1 v1 v2) (hs : w.heap.size ≤ w1.heap.size) : FromRow w v v2 := by
  rcases h2 with e | e
  · rcases h with h | h
    · exact .inl (e.trans h)
    · exact .inr fun k hk => h k (by rw [← e]; exact hk)
  · exact .inr fun k hk => Nat.le_trans hs (e k hk)

/-- What appends to a row leave. -/
def RetsA (w : World) (base : Nat) (v : Value) (l : List Nd) (e : Ending) (w' : World) : Prop :=
  ∃ ao m c, e = .returned (.slice ao m c) ∧ OwnN w' base (.slice ao m c) m l ∧ Chg (rowF v) w w' ∧ FromRow w v (.slice ao m c)
theorem ref_two (w : World) (base : Nat) (v : Value) (m : Nat) (l : List Nd) (a kind : Int) (pos : Nat) (h : OwnN w base v m l) (hm : m ≤ 50000) (hb : base ≤ w.heap.size) (ha : True) :
    Calls Tryz.prog 154 #[v, .int .i64 a, .int .i64 kind, .int .i64 (pos : Int)] w (RetsA w base v (twoT l a kind pos)) := by
  obtain ⟨ao, c, rfl⟩ := h.shape
  have H := Lib.hid h
  have FL : Hid (m + 1 ≤ 1000000) := Lib.hid (by omega)
  have HB := Lib.hid hb
  have EM := Lib.hid h.1
  clear h hb
  go_enter Tryz.func154, Tryz.ntmps154
  go_wp2_with (at_builtin; go_loud (refine wpList_append_gen elemNode rfl (.tmp 9) (.tmp 17) rfl base _ m _ rfl (H.out.2.alloc _) _ 1 (nv ⟨kind, 0, [], [], a, (m : Int) - 1, pos⟩) rfl (node_lit _ ⟨kind, 0, [], [], a, (m : Int) - 1, pos⟩) (nv_one _) (m + 1) rfl FL (by decide) (by have := HB.out; simp; omega) ?_; intro ao6 c6 w6 hown6 hb6 hg6 ho6; have HA := Lib.hid (And.intro hown6 (And.intro hg6 ho6)); clear hown6 hb6 hg6 ho6))
  go_ret
  obtain ⟨h1, h2, h3⟩ := HA.out
  have em := EM.out
  refine ⟨ao6, m + 1, c6, rfl, ⟨?_, ?_⟩, ?_, ?_⟩
  · unfold twoT
    rw [List.length_append, em]
    rfl
  · unfold twoT ndK
    rw [nvs_snoc, ← em]
    exact h1
  · exact (((Chg.refl (rowF (.slice ao m c)) w).alloc _).trans' (Chg.of_grown (F := rowF (.slice ao m c)) h2 (fun k hk => rowF_mem.2 hk)) fun x hx => .inl hx)
  · rcases h3 with h3 | h3
    · exact .inl h3
    · exact .inr fun k hk => by
        rw [h3] at hk
        cases hk
        simp

/-- Digits' number. -/
theorem num_any (l : List UInt8) (hl : l.length ≤ 9) (hd : ∀ c ∈ l, isDig c = true) (w : World) :
    Calls Tryz.prog 95 #[.string (tx l)] w fun e w' => e = .returned (.int .i64 (numV l : Nat)) ∧ w = w' := by
  have hsz := tx_size l
  have HD := Lib.hid hd
  clear hd
  have hb9 : ∀ k, k ≤ 9 → k ≤ l.length → numV (l.take k) < 10 ^ k := by
    intro k
    induction k with
    | zero => intro _ _; exact Nat.one_pos
    | succ k ih =>
      intro h1 h2
      have := ih (by omega) (by omega)
      obtain ⟨c, hc⟩ : ∃ c, l[k]? = some c := ⟨_, List.getElem?_eq_getElem (by omega)⟩
      rw [List.take_add_one, hc]
      show (l.take k ++ [c]).foldl _ 0 < _
      rw [List.foldl_append]
      have hcd := HD.out c (List.mem_of_getElem? hc)
      unfold isDig at hcd
      simp only [Bool.and_eq_true, decide_eq_true_eq] at hcd
      change 10 * numV (l.take k) + (c.toNat - 48) < _
      rw [Nat.pow_succ]
      omega
  have HB := Lib.hid hb9
  clear hb9
  go_enter Tryz.func95, Tryz.ntmps95
  go_wp2_with fail
  go_loopw [3, 4] (fun x i wr => ∃ (k q : Nat), k ≤ l.length ∧ q < 1000000000 ∧ x = .int .i64 q ∧ i = .int .i64 k ∧ Hid (q = numV (l.take k)) ∧ w = wr)
    (fun _ i _ => l.length - (RowKit.intOf i).toNat)
  case atStart => exact ⟨0, 0, Nat.zero_le _, by decide, rfl, rfl, Lib.hid rfl, rfl⟩
  case round =>
    obtain ⟨k, q, hk, hq, rfl, rfl, hs, rfl⟩ := hrel
    by_cases hlt : k < l.length
    · have h3 : (k : Int) < (l.length : Int) := by omega
      obtain ⟨c, hc⟩ : ∃ c, l[k]? = some c := ⟨_, List.getElem?_eq_getElem hlt⟩
      have hb := tx_at hc (by rw [hsz]; exact hlt)
      have hcd := HD.out c (List.mem_of_getElem? hc)
      unfold isDig at hcd
      simp only [Bool.and_eq_true, decide_eq_true_eq] at hcd
      have hn := HB.out (k + 1) (by omega) hlt
      have he : numV (l.take (k + 1)) = 10 * q + (c.toNat - 48) := by
        rw [List.take_add_one, hc, hs.out]
        show (l.take k ++ [c]).foldl _ 0 = _
        rw [List.foldl_append]
        rfl
      rw [he] at hn
      have hp : 10 ^ (k + 1) ≤ 10 ^ 9 := Nat.pow_le_pow_right (by decide) (by omega)
      have hq2 : 10 * q + (c.toNat - 48) < 1000000000 := Nat.lt_of_lt_of_le hn (by simpa using hp)
      have HE := Lib.hid he
      obtain ⟨d, hdd⟩ : ∃ d, c.toNat = d + 48 := ⟨c.toNat - 48, by omega⟩
      have hsub : IntKind.u8.wrap ((c.toNat : Int) - 48) = (d : Int) := by
        simp [IntKind.wrap, IntKind.bits, IntKind.signed]
        omega
      have hd9 : d ≤ 9 := by omega
      obtain ⟨q2, hq3⟩ : ∃ q2, q2 = 10 * q + d := ⟨_, rfl⟩
      have hq4 : 10 * (q : Int) + (d : Int) = (q2 : Int) := by omega
      have hq5 : q2 < 1000000000 := by omega
      have HQ : Hid (q2 = numV (l.take (k + 1))) := Lib.hid (by rw [he]; omega)
      clear hcd hn he hp hq2 hq3 hdd HE hs hc
      go_wp2_with fail
      exact ⟨⟨k + 1, q2, by omega, hq5, rfl, by go_num, HQ, by first | rfl | trivial⟩, by simp [RowKit.intOf]; omega⟩
    · have h3 : ¬ (k : Int) < (l.length : Int) := by omega
      obtain rfl : k = l.length := by omega
      go_wp2_with fail
      go_ret
      rw [hs.out, List.take_length]
      exact ⟨rfl, rfl⟩

end Go.Proofs.YtfcfbdemfbkgmaaGreatDoor

namespace Go.Proofs.YtfcfbdemfbkgmaaGreatDoor
open Go.RowKit Go.Lib

variable {L : List Tk}
/-- Each node has a token of its own. -/
def PotOk (L : List Tk) (U : EX) : Prop := ∀ s l, s.i < L.length → (U s l).1.length + remT L (U s l).2 ≤ l.length + remT L s
theorem two_len (l : List Nd) (a k : Int) (pos : Nat) : (twoT l a k pos).length = l.length + 1 := by
  unfold twoT
  rw [List.length_append]
  rfl
theorem opLoop_pot (hL : TokL L) (ops : List (List UInt8 × Int)) {U : EX} (hU : ∀ s l, Goes L s (U s l).2) (hP : PotOk L U) : ∀ n, PotOk L (opLoop L ops U n)
  | 0 => fun s l _ => Nat.le_refl _
  | n + 1 => fun s l hi => by
    unfold opLoop
    split
    · exact Nat.le_refl _
    · cases h : whichT L s ops with
      | none => exact Nat.le_refl _
      | some k =>
        obtain ⟨t, ht⟩ := which_is h
        have h1 := isT_more hL ht hi
        have h2 := hP s.go l h1
        have h3 := opLoop_pot hL ops hU hP n (U s.go l).2 (twoT (U s.go l).1 ((l.length : Int) - 1) k (curT L s).pos) ((hU _ _).lt h1)
        have h4 := rem_go (L := L) (isT_e ht).1 hi
        rw [two_len] at h3
        simp only
        omega
theorem opT_pot (hL : TokL L) (ops : List (List UInt8 × Int)) {U : EX} (hU : ∀ s l, Goes L s (U s l).2) (hP : PotOk L U) (n : Nat) : PotOk L (opT L ops U n) := fun s l hi => by
  have h1 := hP s l hi
  have h2 := opLoop_pot hL ops hU hP n (U s l).2 (U s l).1 ((hU _ _).lt hi)
  unfold opT
  simp only
  omega
theorem expr_pot (hL : TokL L) {U : EX} (hU : ∀ s l, Goes L s (U s l).2) (hP : PotOk L U) (n : Nat) : PotOk L (exprT L U n) := fun s l hi => by
  have hS : ∀ s l, Goes L s (sumT L U n s l).2 := fun s l => opT_goes hL _ (fun s l => opT_goes hL _ hU n s l) n s l
  have hPS : PotOk L (sumT L U n) := opT_pot hL _ (fun s l => opT_goes hL _ hU n s l) (opT_pot hL _ hU hP n) n
  have h1 := hPS s l hi
  unfold exprT
  simp only
  cases h : whichT L (sumT L U n s l).2 relOps with
  | none => exact h1
  | some k =>
    obtain ⟨t, ht⟩ := which_is h
    have hi1 := (hS s l).lt hi
    have h2 := isT_more hL ht hi1
    have h3 := hPS (sumT L U n s l).2.go (sumT L U n s l).1 h2
    have h4 := rem_go (L := L) (isT_e ht).1 hi1
    simp only
    rw [two_len]
    omega
theorem rem_shut (s : PS) : remT L s.shut = remT L s := rfl
theorem open_lt (hL : TokL L) {s : PS} {t : List UInt8} (hi : s.i < L.length) : (openT L s t).i < L.length := by
  have h1 : Goes L s (if isT L s t = true ∧ 40 ≤ s.deep then failT L s 12 else s) := by
    split
    · exact fail_goes _ _
    · exact Goes.refl _ _
  exact (h1.trans (want_goes hL _ t)).lt hi
theorem unary_pot (hL : TokL L) : ∀ n, PotOk L (unaryT L n)
  | 0 => fun s l _ => Nat.le_refl _
  | n + 1 => fun s l hi => by
    unfold unaryT
    simp only
    split
    · exact Nat.le_refl _
    rename_i he
    have he : s.e = 0 := by simpa using he
    split
    · have h1 := unary_pot hL n (openT L s (curT L s).text) l (open_lt hL hi)
      have h2 := rem_open (L := L) (t := (curT L s).text) he hi
      simp only [List.length_append, List.length_singleton, rem_shut]
      omega
    split
    · have h1 := expr_pot hL (unary_goes hL n) (unary_pot hL n) n (openT L s [40]) l (open_lt hL hi)
      have h2 := rem_open (L := L) (t := [40]) he hi
      have h3 := (want_goes hL (exprT L (unaryT L n) n (openT L s [40]) l).2 [41]).rem
      simp only [rem_shut]
      omega
    split
    · have := rem_go (L := L) he hi
      simp only [List.length_append, List.length_singleton]
      omega
    split
    · have := rem_qname hL he hi
      simp only [List.length_append, List.length_singleton]
      omega
    · have := rem_fail (L := L) (x := 11) (by decide) he hi
      simp only
      omega

/-- So deep. -/
def Dok (s : PS) : Prop := s.deep ≤ 100 ∧ (s.e = 0 → s.deep ≤ 40)
theorem Goes.e0 {s s' : PS} (h : Goes L s s') (he : s'.e = 0) : s.e = 0 := by
  by_cases hs : s.e = 0
  · exact hs
  · rw [h.err hs] at he
    exact he
theorem Goes.dok {s s' : PS} (h : Goes L s s') (hd : Dok s) : Dok s' := ⟨by rw [h.deep]; exact hd.1, fun he => by rw [h.deep]; exact hd.2 (h.e0 he)⟩
theorem open_deep (hL : TokL L) (s : PS) (t : List UInt8) : (openT L s t).deep = s.deep + 1 := by
  have h1 : Goes L s (if isT L s t = true ∧ 40 ≤ s.deep then failT L s 12 else s) := by
    split
    · exact fail_goes _ _
    · exact Goes.refl _ _
  unfold openT
  simp only
  rw [(h1.trans (want_goes hL _ t)).deep]
theorem open_e {s : PS} {t : List UInt8} (he : (openT L s t).e = 0) : s.e = 0 ∧ isT L s t = true ∧ s.deep < 40 := by
  unfold openT at he
  simp only at he
  split at he
  · exfalso
    have h1 : (failT L s 12).e ≠ 0 := fail_e (by decide)
    unfold wantT at he
    rw [isT_err h1, if_neg (by simp), fail_err h1] at he
    exact h1 he
  · rename_i h
    unfold wantT at he
    split at he
    · rename_i h2
      refine ⟨(isT_e h2).1, h2, ?_⟩
      rw [not_and] at h
      have := h h2
      omega
    · exact absurd he (fail_e (by decide))
theorem open_dok (hL : TokL L) {s : PS} (t : List UInt8) (hd : s.deep ≤ 41) : Dok (openT L s t) := by
  have h1 := open_deep hL s t
  refine ⟨by omega, fun he => ?_⟩
  have := open_e he
  omega

end Go.Proofs.YtfcfbdemfbkgmaaGreatDoor
