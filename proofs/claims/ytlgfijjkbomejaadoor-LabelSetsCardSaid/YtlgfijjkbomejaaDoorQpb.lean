/- The code's parser: accept, fault, expect, expectKind, open, shut, name, qname. Numbers and types by name. -/
import Derived.Test.YtlgfijjkbomejaaDoorQpa
import Derived.Test.YtlgfijjkbomejaaDoorPay
namespace Go.Proofs.YtlgfijjkbomejaaDoor
open Go.RowKit Go.Lib
set_option maxRecDepth 100000

/-- What a parser panics with. -/
def fltV (e : Int) (p : Nat) : Value := .agg #[.int .i64 e, .int .i64 (p : Int)]
abbrev Pnk (s : PS) : Ending := .panicked [{ v := .iface 64 (fltV s.e s.pos), recovered := false }]
/-- What a piece of the parser leaves: a value and the state, or a panic with the first error. -/
def Ends (w0 w : World) (b : Nat) (L : List Tk) (s' : PS) (V : World → Ending → Prop) (e : Ending) (w' : World) : Prop :=
  Chg [b] w w' ∧ ((s'.e = 0 ∧ Psr w0 w' b L s' ∧ V w' e) ∨ (s'.e ≠ 0 ∧ e = Pnk s'))
theorem Ends.out1 {w0 w w' : World} {b : Nat} {L : List Tk} {s' : PS} {V : World → Ending → Prop} {e : Ending} (h : Ends w0 w b L s' V e w') : (s'.e = 0 ∧ V w' e ∧ Hid (Psr w0 w' b L s' ∧ Chg [b] w w')) ∨ (s'.e ≠ 0 ∧ e = Pnk s' ∧ Hid (Chg [b] w w')) := by
  obtain ⟨hc, ⟨h0, h1, h2⟩ | ⟨h0, h1⟩⟩ := h
  · exact .inl ⟨h0, h2, Lib.hid ⟨h1, hc⟩⟩
  · exact .inr ⟨h0, h1, Lib.hid hc⟩
def Ret (v : Value) : World → Ending → Prop := fun _ e => e = .returned v

theorem psr_accept (w0 w : World) (b : Nat) (L : List Tk) (s : PS) (t : List UInt8) (h : Psr w0 w b L s) (ht : t ∈ wordsL) :
    Calls Tryd.prog 41 #[.pointer (some ⟨b, 0, none⟩), .string (tx t)] w (Pets w0 w b L (takeT L s t) (.returned (.bool (isT L s t)))) := by
  have P := psr_peek w0 w b L s h
  have hi := isT_text h.x h.lt h.e ht
  have y1 := tx_list (curT L s).text
  have y2 := tx_list t
  unfold tokV at P
  have f1 := tok_text (curT L s)
  cases hB : isT L s t with
  | false =>
    have hn : takeT L s t = s := by rw [takeT, hB, if_neg (by simp)]
    rw [hn]
    rw [hB] at hi
    have hne : ¬ (curT L s).text = t := of_decide_eq_false hi.symm
    have hnb : ((curT L s).text == t) = false := by simpa using hne
    clear h hi hB hn
    go_enter Tryd.func41, Tryd.ntmps41
    go_wp2_with fail
    refine P.mono ?_
    rintro e1 w1 hr
    obtain ⟨rfl, H1⟩ := hr.out1
    clear hr P
    go_wp2_with fail
    go_ret
    exact ⟨rfl, H1.out⟩
  | true =>
    have hn : takeT L s t = s.go := by rw [takeT, hB, if_pos rfl]
    rw [hn]
    rw [hB] at hi
    have he : (curT L s).text = t := of_decide_eq_true hi.symm
    have hm := isT_more h.ok hB h.lt
    have K := fun w1 h1 => psr_take w0 w1 b L s h1 hm
    unfold tokV at K
    rw [he] at P y1 f1
    have heb : (t == t) = true := by simp
    clear h hi hB hn he hm
    go_enter Tryd.func41, Tryd.ntmps41
    go_wp2_with fail
    refine P.mono ?_
    rintro e1 w1 hr
    obtain ⟨rfl, H1⟩ := hr.out1
    clear hr P
    go_wp2_with fail
    refine (K w1 H1.out.1).mono ?_
    rintro e2 w2 hr
    obtain ⟨rfl, H2⟩ := hr.out1
    clear hr K
    go_wp2_with fail
    go_ret
    exact ⟨rfl, H2.out.1, H1.out.2.trans H2.out.2⟩

theorem Chg.setRow {F : List Nat} {a w : World} (h : Chg F a w) {c : Nat} (hc : c ∈ F ∨ a.heap.size ≤ c) (cs : Array Value) : Chg F a (w.setRow c cs) :=
  ⟨h.os, h.tape, h.output, by simpa using h.size, fun i hi hn => (setRow_other w c i cs (by rintro rfl; exact hc.elim hn (fun e => by omega))).trans (h.block i hi hn)⟩
theorem Psr.setRow {w0 w : World} {b : Nat} {L : List Tk} {s : PS} (h : Psr w0 w b L s) {c : Nat} (hc : b < c) (cs : Array Value) : Psr w0 (w.setRow c cs) b L s :=
  h.chg (F := [c]) ((Chg.refl [c] w).setRow (.inl (List.mem_singleton.2 rfl)) cs) (fun x hx => by rw [List.mem_singleton] at hx; rw [hx]; exact hc)
/-- A block that was made ahead is as it was. -/
theorem row_kept {w w1 : World} {b : Nat} {o : Obj} (hb : b < w.heap.size) (hc : Chg [b] (w.alloc o) w1) : w1.heap[w.heap.size]? = some o :=
  (hc.block w.heap.size (by simp) (by rw [List.mem_singleton]; omega)).trans (heap_alloc_new w o)
theorem flt_info (x : Int) (p : Nat) : (Tryd.prog.info? 64).map (·.size) = some (#[Value.int .i64 x, .int .i64 (p : Int)]).size := by
  show _ = some 2
  kernel_rfl
theorem flt_ones (x : Int) (p : Nat) : (#[Value.int .i64 x, .int .i64 (p : Int)]).all (·.oneCell') = true := by simp [Value.oneCell']
theorem tok_info (t : Tk) : (Tryd.prog.info? 80).map (·.size) = some (#[Value.int .i64 t.kind, .string (tx t.text), .int .i64 (t.pos : Int)]).size := by
  show _ = some 3
  kernel_rfl
theorem tok_ones (t : Tk) : (#[Value.int .i64 t.kind, .string (tx t.text), .int .i64 (t.pos : Int)]).all (·.oneCell') = true := by simp [Value.oneCell']
theorem psr_fault (w0 w : World) (b : Nat) (L : List Tk) (s : PS) (x : Int) (h : Psr w0 w b L s) :
    Calls Tryd.prog 42 #[.pointer (some ⟨b, 0, none⟩), .int .i64 x] w (Pets w0 w b L s (.returned (fltV x (curT L s).pos))) := by
  have P := fun w1 h1 => psr_peek w0 w1 b L s h1
  have H := Lib.hid h
  unfold tokV at P
  unfold fltV
  have f2 := tok_pos (curT L s)
  generalize curT L s = t at *
  obtain ⟨kd, tt, p⟩ := t
  simp only at P f2
  have HA := Lib.hid (h.chg ((Chg.refl [] w).alloc (.cells #[.int .i64 0, .int .i64 0] 64)) (fun x hx => by cases hx))
  clear h
  go_enter Tryd.func42, Tryd.ntmps42
  go_wp2_with fail
  refine (P _ HA.out).mono ?_
  rintro e1 w1 hr
  obtain ⟨rfl, H1⟩ := hr.out1
  have HZ := Lib.hid (row_kept H.out.blt H1.out.2)
  clear hr P
  go_wp2_with (refine wpList_store_row rfl 64 (.tmp 4) (.tmp 9) rfl w.heap.size _ rfl rfl _ _ HZ.out (flt_info _ _) rfl (flt_ones _ _) ?_)
  try simp only [Exit.inBlock, Exit.then]
  refine bodyPost_ret (results_cell_row rfl _ _ w.heap.size _ _ _ _ rfl (setRow_heap _ _ _ _ _ _ HZ.out) Tryd.underlying64 rfl (flt_info _ _)) rfl ?_
  have hb := H.out.blt
  exact ⟨rfl, H1.out.1.setRow hb _, (((Chg.refl [b] w).alloc _).trans H1.out.2).setRow (.inr (Nat.le_refl _)) _⟩

theorem psr_expect (w0 w : World) (b : Nat) (L : List Tk) (s : PS) (t : List UInt8) (h : Psr w0 w b L s) (ht : t ∈ wordsL) :
    Calls Tryd.prog 33 #[.pointer (some ⟨b, 0, none⟩), .string (tx t)] w (Ends w0 w b L (wantT L s t) (Ret (.tuple #[]))) := by
  have P := psr_accept w0 w b L s t h ht
  have F := fun w1 h1 => psr_fault w0 w1 b L s 11 h1
  have he := h.e
  cases hB : isT L s t with
  | false =>
    have hn : takeT L s t = s := by rw [takeT, hB, if_neg (by simp)]
    have hw : wantT L s t = { s with e := 11, pos := (curT L s).pos } := by
      rw [wantT, hB, if_neg (by simp), failT, if_pos he]
    rw [hB, hn] at P
    rw [hw]
    clear h hB hn hw he
    go_enter Tryd.func33, Tryd.ntmps33
    go_wp2_with fail
    refine P.mono ?_
    rintro e1 w1 hr
    obtain ⟨rfl, H1⟩ := hr.out1
    clear hr P
    go_wp2_with fail
    refine (F w1 H1.out.1).mono ?_
    rintro e2 w2 hr
    obtain ⟨rfl, H2⟩ := hr.out1
    clear hr F
    go_wp2_with fail
    exact ⟨rfl, H1.out.2.trans H2.out.2, .inr ⟨(by decide : (11 : Int) ≠ 0), rfl⟩⟩
  | true =>
    have hn : takeT L s t = s.go := by rw [takeT, hB, if_pos rfl]
    have hw : wantT L s t = s.go := by rw [wantT, hB, if_pos rfl]
    rw [hB, hn] at P
    rw [hw]
    clear F hB hn hw h
    go_enter Tryd.func33, Tryd.ntmps33
    go_wp2_with fail
    refine P.mono ?_
    rintro e1 w1 hr
    obtain ⟨rfl, H1⟩ := hr.out1
    clear hr P
    go_wp2_with fail
    go_end0
    exact ⟨H1.out.2, .inl ⟨he, H1.out.1, rfl⟩⟩


/-- A token of a kind. -/
theorem psr_kind (w0 w : World) (b : Nat) (L : List Tk) (s : PS) (k : Int) (h : Psr w0 w b L s) (hk : k ≠ 0) :
    Calls Tryd.prog 43 #[.pointer (some ⟨b, 0, none⟩), .int .i64 k] w (Ends w0 w b L (if (curT L s).kind = k then s.go else { s with e := 11, pos := (curT L s).pos }) (Ret (tokV (curT L s)))) := by
  have H := Lib.hid h
  have P := fun w1 h1 => psr_peek w0 w1 b L s h1
  have F := fun w1 h1 => psr_fault w0 w1 b L s 11 h1
  have f0 := tok_kind (curT L s)
  have HA := Lib.hid (h.chg ((Chg.refl [] w).alloc tok0) (fun x hx => by cases hx))
  by_cases hB : (curT L s).kind = k
  · rw [if_pos hB]
    have hm : s.i + 1 < L.length := h.ok.more s.i h.lt (by change (curT L s).kind ≠ 0; rw [hB]; exact hk)
    have K := fun w1 h1 => psr_take w0 w1 b L s h1 hm
    have he := h.e
    have hkb : (k == k) = true := by simp
    unfold tokV at P K
    unfold tokV
    generalize curT L s = t at *
    obtain ⟨kd, tt, p⟩ := t
    simp only at P K f0 hB
    subst hB
    clear h F hm hk
    go_enter Tryd.func43, Tryd.ntmps43
    go_wp2_with fail
    refine (P _ HA.out).mono ?_
    rintro e1 w1 hr
    obtain ⟨rfl, H1⟩ := hr.out1
    have HZ := Lib.hid (row_kept H.out.blt H1.out.2)
    clear hr P
    go_wp2_with fail
    refine (K w1 H1.out.1).mono ?_
    rintro e2 w2 hr
    obtain ⟨rfl, H2⟩ := hr.out1
    have HZ2 := Lib.hid ((H2.out.2.block w.heap.size (Array.getElem?_eq_some_iff.1 HZ.out).1 (by have := H.out.blt; rw [List.mem_singleton]; omega)).trans HZ.out)
    clear hr K
    go_wp2_with (refine wpList_store_row rfl 80 (.tmp 4) (.tmp 14) rfl w.heap.size _ rfl rfl _ _ HZ2.out (tok_info ⟨kd, tt, p⟩) rfl (tok_ones ⟨kd, tt, p⟩) ?_)
    try simp only [Exit.inBlock, Exit.then]
    refine bodyPost_ret (res_tok rfl _ _ w.heap.size ⟨kd, tt, p⟩ rfl (setRow_heap _ _ _ _ _ _ HZ2.out)) rfl ?_
    have hb := H.out.blt
    exact ⟨((((Chg.refl [b] w).alloc _).trans H1.out.2).trans H2.out.2).setRow (.inr (Nat.le_refl _)) _, .inl ⟨he, H2.out.1.setRow hb _, rfl⟩⟩
  · rw [if_neg hB]
    have hkb : ((curT L s).kind == k) = false := by simpa using hB
    unfold tokV at P
    generalize curT L s = t at *
    obtain ⟨kd, tt, p⟩ := t
    simp only at P f0 hB hkb F
    clear h hk
    go_enter Tryd.func43, Tryd.ntmps43
    go_wp2_with fail
    refine (P _ HA.out).mono ?_
    rintro e1 w1 hr
    obtain ⟨rfl, H1⟩ := hr.out1
    clear hr P
    go_wp2_with fail
    refine (F w1 H1.out.1).mono ?_
    rintro e2 w2 hr
    obtain ⟨rfl, H2⟩ := hr.out1
    clear hr F
    go_wp2_with fail
    exact ⟨rfl, (((Chg.refl [b] w).alloc _).trans H1.out.2).trans H2.out.2, .inr ⟨(by decide : (11 : Int) ≠ 0), rfl⟩⟩

theorem name_is (L : List Tk) (s : PS) (he : s.e = 0) : nameT L s = (if (curT L s).kind = 1 then (curT L s).text else [], if (curT L s).kind = 1 then s.go else { s with e := 11, pos := (curT L s).pos }) := by
  unfold nameT failT
  by_cases h : (curT L s).kind = 1
  · rw [if_neg (by rw [not_or, Decidable.not_not, Decidable.not_not]; exact ⟨he, h⟩), if_pos h, if_pos h]
  · rw [if_pos (.inr h), if_neg h, if_neg h, if_pos he]
end Go.Proofs.YtlgfijjkbomejaaDoor
