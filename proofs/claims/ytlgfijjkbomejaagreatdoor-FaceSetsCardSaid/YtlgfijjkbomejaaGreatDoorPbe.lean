/- The reference's stmt, over expr, call and block. Numbers and types by name. -/
import Derived.Test.YtlgfijjkbomejaaGreatDoorPbd
namespace Go.Proofs.YtlgfijjkbomejaaGreatDoor
open Go.RowKit Go.Lib
set_option maxRecDepth 100000

/-- What is asked of stmt, of block, of call. -/
def StK (f : FuncId) (w0 : World) (b n : Nat) (vl : Value) (L : List Tk) (N : Nat) : Prop :=
  ∀ (w : World) (s : PS), Rdr w0 w b n vl L s → Dok s → remT L s < N → Calls Tryz.prog f #[.pointer (some ⟨b, 0, none⟩)] w (StTold w0 w b n vl L (stmtT L N s))
def BlTold (w0 w : World) (b n : Nat) (vl : Value) (L : List Tk) (r : List Stm × PS) (e : Ending) (w' : World) : Prop :=
  ∃ ao m c, e = .returned (.slice ao m c) ∧ StmsP w' (fun k => w.heap.size ≤ k ∧ k < w'.heap.size) (.slice ao m c) m r.1 ∧ Rdr w0 w' b n vl L r.2 ∧ Chg [b] w w'
def BlK (f : FuncId) (w0 : World) (b n : Nat) (vl : Value) (L : List Tk) (N : Nat) : Prop :=
  ∀ (w : World) (s : PS), Rdr w0 w b n vl L s → Dok s → remT L s < N → Calls Tryz.prog f #[.pointer (some ⟨b, 0, none⟩)] w (BlTold w0 w b n vl L (blockT L (stmtT L N) N s))
def CaTold (w0 w : World) (b n : Nat) (vl : Value) (L : List Tk) (r : SH × PS) (e : Ending) (w' : World) : Prop :=
  ∃ vA nA, e = .returned (.agg (stmHead r.1 (.slice none 0 0) vA (.slice none 0 0) (.slice none 0 0)).toArray) ∧ r.1.e = [] ∧ ArgsP w' (fun k => w.heap.size ≤ k ∧ k < w'.heap.size) vA nA r.1.args ∧ Rdr w0 w' b n vl L r.2 ∧ Chg [b] w w'
def CaK (f : FuncId) (w0 : World) (b n : Nat) (vl : Value) (L : List Tk) : Prop :=
  ∀ (w : World) (s : PS) (pos : Nat), Rdr w0 w b n vl L s → Dok s → Calls Tryz.prog f #[.pointer (some ⟨b, 0, none⟩), .agg (stmHead (sh0 pos) (.slice none 0 0) (.slice none 0 0) (.slice none 0 0) (.slice none 0 0)).toArray] w (CaTold w0 w b n vl L (callT L s pos))

set_option maxHeartbeats 8000000 in
theorem stmt_walk (w0 : World) (b n : Nat) (vl : Value) (L : List Tk) (N : Nat) (hL : TokL L) (KC : CaK 164 w0 b n vl L) (KB : BlK 106 w0 b n vl L N) :
    StK 136 w0 b n vl L (N + 1) := by
  intro w s hr hd hn
  obtain ⟨R, hR⟩ : ∃ R, stmtT L (N + 1) s = R := ⟨_, rfl⟩
  rw [hR]
  unfold stmtT at hR
  simp only at hR
  have HR := Lib.hid hR
  have HK := Lib.hid (And.intro hL (And.intro KC KB))
  have HN := Lib.hid (And.intro hn hd)
  have hbw := hr.blt
  have hwa : Rdr w0 (w.alloc (.cells (stmHead (sh0 0) (.slice none 0 0) (.slice none 0 0) (.slice none 0 0) (.slice none 0 0)).toArray 63)) b n vl L s :=
    hr.chg (F := []) ((Chg.refl _ _).alloc _) (fun x hx => by cases hx) (hr.r.chg (F := []) ((Chg.refl _ _).alloc _) (by simp)) hr.lt hr.deep
  have P := rdr_here w0 _ b n vl L s hwa
  clear hR KC KB hL hn hd hr hwa
  go_enter Tryz.func136, Tryz.ntmps136
  go_wp2_with fail
  refine P.mono ?_
  rintro e1 w1 hr
  obtain ⟨rfl, H1⟩ := hr.out1
  clear hr P
  have h0 : StAt w0 w (w1.alloc (.cells (stmHead (sh0 (curT L s).pos) (.slice none 0 0) (.slice none 0 0) (.slice none 0 0) (.slice none 0 0)).toArray 63)) b n vl L w1.heap.size w.heap.size (sh0 (curT L s).pos) (.slice none 0 0) (.slice none 0 0) (.slice none 0 0) (.slice none 0 0) [] [] s := by
    have hs1 := H1.out.2.size
    simp only [World.size_alloc] at hs1
    have hca : Chg [] w1 (w1.alloc (.cells (stmHead (sh0 (curT L s).pos) (.slice none 0 0) (.slice none 0 0) (.slice none 0 0) (.slice none 0 0)).toArray 63)) := (Chg.refl _ _).alloc _
    have hz : SBlk w1 w.heap.size (sh0 0) (.slice none 0 0) (.slice none 0 0) (.slice none 0 0) (.slice none 0 0) := (show SBlk (w.alloc _) w.heap.size _ _ _ _ _ from heap_alloc_new w _).chg H1.out.2 (by simp only [List.mem_singleton]; omega)
    exact ⟨H1.out.1.chg hca (fun x hx => by cases hx) (H1.out.1.r.chg hca (by simp)) H1.out.1.lt H1.out.1.deep, (((Chg.refl [b] w).alloc _).trans H1.out.2).alloc _, heap_alloc_new w1 _, hz.chg hca (by simp), ⟨0, RowsP.nil _ _ _ _⟩, ⟨0, RowsP.nil _ _ _ _⟩, ⟨0, RowsP.nil _ _ _ _⟩, ⟨0, RowsP.nil _ _ _ _⟩, by omega, hbw, by omega, by omega, Nat.le_refl _⟩
  have H0 : Hid (StAt w0 w (w1.alloc (.cells #[.int .i64 0, .int .i64 ((curT L s).pos : Int), .string ⟨#[]⟩, .string ⟨#[]⟩, .string ⟨#[]⟩, .bool false, .string ⟨#[]⟩, .string ⟨#[]⟩, .slice none 0 0, .slice none 0 0, .slice none 0 0, .slice none 0 0] 63)) b n vl L w1.heap.size w.heap.size (sh0 (curT L s).pos) (.slice none 0 0) (.slice none 0 0) (.slice none 0 0) (.slice none 0 0) [] [] s) := Lib.hid h0
  clear h0
  go_upto_region 4 with fail
  generalize w1.alloc (.cells #[.int .i64 0, .int .i64 ((curT L s).pos : Int), .string ⟨#[]⟩, .string ⟨#[]⟩, .string ⟨#[]⟩, .bool false, .string ⟨#[]⟩, .string ⟨#[]⟩, .slice none 0 0, .slice none 0 0, .slice none 0 0, .slice none 0 0] 63) = W at *
  generalize w1.heap.size = T at *
  have HBW := Lib.hid hbw
  clear hbw
  generalize w.heap.size = U at H0 ⊢
  have r0 := H0.out.r.r.c0
  have r1 := H0.out.r.r.c1
  have r3 := H0.out.r.r.c3
  obtain ⟨ta, tc, rfl, hin, d0, d1, d2⟩ := H0.out.r.cur (Grow.refl W)
  obtain ⟨kd, hkd⟩ : ∃ k, (curT L s).kind = k := ⟨_, rfl⟩
  rw [hkd] at d0
  have HKD := Lib.hid hkd
  clear hkd d1 d2
  by_cases hA : s.e = 0 ∧ kd = 1
  · obtain ⟨he, rfl⟩ := hA
    rw [he] at r3
    have hR1 := HR.out
    rw [if_pos ⟨he, HKD.out⟩] at hR1
    have HR1 := Lib.hid hR1
    clear hR1
    go_quiet (fail)
    have hq : Chg [b] W (W.drewN nq) := (Chg.refl _ _).drewN _
    have H1 := Lib.hid (H0.out.keep (H0.out.r.drewN nq) hq HBW.out)
    clear r0 r1 r3 d0 hin hq H0
    generalize W.drewN nq = W1 at *
    go_wp2_with fail
    refine (rdr_qname w0 W1 b n _ L s H1.out.r).mono ?_
    rintro e2 w2 hr
    obtain ⟨rfl, H2⟩ := hr.out1
    clear hr
    have H3 := Lib.hid (H1.out.keep H2.out.1 H2.out.2 HBW.out)
    have c0 := H3.out.s.cell 0 _ rfl
    have c2 := H3.out.s.cell 2 _ rfl
    have c3 := H3.out.s.cell 3 _ rfl
    have f0 := H3.out.s.free 0
    have f2 := H3.out.s.free 2
    have f3 := H3.out.s.free 3
    clear H1 H2
    have H4 := Lib.hid (((H3.out.field 0 (.int .i64 2) { sh0 (curT L s).pos with kind := 2 } rfl rfl rfl).field 2 (.string (tx (qnameT L s).1.1)) { sh0 (curT L s).pos with kind := 2, mod := (qnameT L s).1.1 } rfl rfl rfl).field 3 (.string (tx (qnameT L s).1.2)) { sh0 (curT L s).pos with kind := 2, mod := (qnameT L s).1.1, name := (qnameT L s).1.2 } rfl rfl rfl)
    clear H3
    go_wp2_with fail
    generalize ((w2.setCell ⟨T, 0, none⟩ (.int .i64 2)).setCell ⟨T, 2, none⟩ (.string (tx (qnameT L s).1.1))).setCell ⟨T, 3, none⟩ (.string (tx (qnameT L s).1.2)) = w3 at *
    refine (rdr_want w0 w3 b n _ L _ [61] H4.out.r).mono ?_
    rintro e3 w4 hr
    obtain ⟨rfl, H5'⟩ := hr.out1
    clear hr
    have H5 := Lib.hid (H4.out.keep H5'.out.1 H5'.out.2 HBW.out)
    have hdk : Dok (wantT L (qnameT L s).2 [61]) := ((qname_goes HK.out.1 s).trans (want_goes HK.out.1 _ _)).dok HN.out.2
    clear c0 c2 c3 f0 f2 f3 H4 H5'
    go_wp2_with fail
    refine (rdr_expr w0 w4 b n _ L _ H5.out.r hdk).mono ?_
    rintro e4 w5 ⟨ao5, m5, c5, rfl, o5, r5, cc5, f5, hm5⟩
    have H6 := Lib.hid (H5.out.keep r5 cc5 HBW.out)
    have H7' := H6.out.put 8 (.slice ao5 m5 c5) (h' := { sh0 (curT L s).pos with kind := 2, mod := (qnameT L s).1.1, name := (qnameT L s).1.2, e := (exprN L (wantT L (qnameT L s).2 [61])).1 }) (vE' := .slice ao5 m5 c5) rfl (H5.out.nodes o5 f5 hm5) H6.out.a H6.out.bo H6.out.el
    have H7 := Lib.hid H7'
    have c8 := H6.out.s.cell 8 _ rfl
    have f8 := H6.out.s.free 8
    clear H5 o5 r5 cc5 f5 H6 H7' hdk
    go_wp2_with fail
    refine (rdr_want w0 _ b n _ L _ [59] H7.out.r).mono ?_
    rintro e7 w7 hr
    obtain ⟨rfl, H8'⟩ := hr.out1
    clear hr
    have HZ := Lib.hid (H7.out.keep H8'.out.1 H8'.out.2 HBW.out)
    clear H7 H8'
    go_wp2_with (first | (refine wpList_load_row rfl 63 (.tmp 3) rfl T rfl _ _ _ _ HZ.out.s Tryz.underlying63 rfl (stmt_info _ _ _ _ _) ?_) | (refine wpList_store_row rfl 63 (.tmp 2) (.tmp 119) rfl U _ rfl rfl _ _ HZ.out.z (stmt_info _ _ _ _ _) rfl HZ.out.ones ?_))
    try simp only [Exit.inBlock, Exit.then]
    refine bodyPost_ret (results_cell_row rfl _ _ U _ _ _ _ rfl (setRow_heap _ U _ _ _ _ HZ.out.z) Tryz.underlying63 rfl (stmt_info _ _ _ _ _)) rfl ?_
    rw [← HR1.out]
    exact HZ.out.told
  · have hR1 := HR.out
    rw [if_neg (by rw [HKD.out]; exact hA)] at hR1
    have HRB := Lib.hid hR1
    have HI := Lib.hid H0.out.r.lt
    have hor : (s.e == 0) = false ∨ (s.e = 0 ∧ (kd == 1) = false) := by
      by_cases he : s.e = 0
      · exact .inr ⟨he, by simp only [beq_eq_false_iff_ne, ne_eq]; exact fun h => hA ⟨he, h⟩⟩
      · exact .inl (by simpa using he)
    clear hA hR1 HR
    rcases hor with q1 | ⟨q1, q2⟩
    case' inr => rw [q1] at r3
    all_goals
      go_quiet (fail)
      have hq : Chg [b] W (W.drewN nq) := (Chg.refl _ _).drewN _
      have H1 := Lib.hid (H0.out.keep (H0.out.r.drewN nq) hq HBW.out)
      clear r0 r1 r3 d0 hin hq H0
      generalize W.drewN nq = W1 at *
      go_wp2_with fail
      refine (rdr_take w0 _ b n _ L s kLet H1.out.r).mono ?_
      rintro e1 w1 hr
      obtain ⟨rfl, X1⟩ := hr.out1
      clear hr
      cases hB0 : isT L s kLet with
      | true =>
        rw [takeT, if_pos hB0] at X1
        have H2 := Lib.hid (H1.out.keep X1.out.1 X1.out.2 HBW.out)
        have c3 := H2.out.s.cell 0 _ rfl
        have f4 := H2.out.s.free 0
        have H5 := Lib.hid (H2.out.field 0 (.int .i64 1) ({ sh0 (curT L s).pos with kind := 1 } : SH) rfl rfl rfl)
        go_wp2_with fail
        refine (rdr_name w0 _ b n _ L _ H5.out.r).mono ?_
        rintro e6 w7 hr
        obtain ⟨rfl, X8⟩ := hr.out1
        clear hr
        have H9 := Lib.hid (H5.out.keep X8.out.1 X8.out.2 HBW.out)
        clear c3 f4
        have c10 := H9.out.s.cell 3 _ rfl
        have f11 := H9.out.s.free 3
        have H12 := Lib.hid (H9.out.field 3 (.string (tx (nameT L s.go).1)) ({ sh0 (curT L s).pos with kind := 1, name := (nameT L s.go).1 } : SH) rfl rfl rfl)
        go_wp2_with fail
        refine (rdr_want w0 _ b n _ L _ [58] H12.out.r).mono ?_
        rintro e13 w14 hr
        obtain ⟨rfl, X15⟩ := hr.out1
        clear hr
        have H16 := Lib.hid (H12.out.keep X15.out.1 X15.out.2 HBW.out)
        clear c10 f11
        go_wp2_with fail
        refine (rdr_name w0 _ b n _ L _ H16.out.r).mono ?_
        rintro e17 w18 hr
        obtain ⟨rfl, X19⟩ := hr.out1
        clear hr
        have H20 := Lib.hid (H16.out.keep X19.out.1 X19.out.2 HBW.out)
        have c21 := H20.out.s.cell 4 _ rfl
        have f22 := H20.out.s.free 4
        have H23 := Lib.hid (H20.out.field 4 (.string (tx (nameT L (wantT L (nameT L s.go).2 [58])).1)) ({ sh0 (curT L s).pos with kind := 1, name := (nameT L s.go).1, label := (nameT L (wantT L (nameT L s.go).2 [58])).1 } : SH) rfl rfl rfl)
        go_wp2_with fail
        refine (rdr_want w0 _ b n _ L _ [61] H23.out.r).mono ?_
        rintro e24 w25 hr
        obtain ⟨rfl, X26⟩ := hr.out1
        clear hr
        have H27 := Lib.hid (H23.out.keep X26.out.1 X26.out.2 HBW.out)
        clear c21 f22
        go_wp2_with fail
        have d28 : Dok (wantT L (nameT L (wantT L (nameT L s.go).2 [58])).2 [61]) := ((is_goes HK.out.1 hB0).trans ((name_goes HK.out.1 _).trans ((want_goes HK.out.1 _ _).trans ((name_goes HK.out.1 _).trans (want_goes HK.out.1 _ _))))).dok HN.out.2
        refine (rdr_expr w0 _ b n _ L _ H27.out.r d28).mono ?_
        rintro e29 w30 ⟨aok31, mk31, ck31, rfl, ok31, rk31, cck31, fk31, hmk31⟩
        have N33 := Lib.hid (H27.out.nodes ok31 fk31 hmk31)
        have H32 := Lib.hid (H27.out.keep rk31 cck31 HBW.out)
        clear d28 ok31 rk31 cck31 fk31 hmk31
        have c34 := H32.out.s.cell 8 _ rfl
        have f35 := H32.out.s.free 8
        have H36' := H32.out.put 8 (.slice aok31 mk31 ck31) (h' := ({ sh0 (curT L s).pos with kind := 1, name := (nameT L s.go).1, label := (nameT L (wantT L (nameT L s.go).2 [58])).1, e := (exprN L (wantT L (nameT L (wantT L (nameT L s.go).2 [58])).2 [61])).1 } : SH)) (vE' := .slice aok31 mk31 ck31) (vB' := .slice none 0 0) (vC' := .slice none 0 0) (body' := []) (els' := []) rfl (N33.out) (H32.out.a) (H32.out.bo) (H32.out.el)
        have H36 := Lib.hid H36'
        clear H36'
        go_wp2_with fail
        refine (rdr_want w0 _ b n _ L _ [59] H36.out.r).mono ?_
        rintro e37 w38 hr
        obtain ⟨rfl, X39⟩ := hr.out1
        clear hr
        have H40 := Lib.hid (H36.out.keep X39.out.1 X39.out.2 HBW.out)
        clear c34 f35
        have HZ := H40
        go_wp2_with (first | (refine wpList_load_row rfl 63 (.tmp 3) rfl T rfl _ _ _ _ HZ.out.s Tryz.underlying63 rfl (stmt_info _ _ _ _ _) ?_) | (refine wpList_store_row rfl 63 (.tmp 2) (.tmp 119) rfl U _ rfl rfl _ _ HZ.out.z (stmt_info _ _ _ _ _) rfl HZ.out.ones ?_))
        try simp only [Exit.inBlock, Exit.then]
        refine bodyPost_ret (results_cell_row rfl _ _ U _ _ _ _ rfl (setRow_heap _ U _ _ _ _ HZ.out.z) Tryz.underlying63 rfl (stmt_info _ _ _ _ _)) rfl ?_
        have hRR := HRB.out
        rw [if_pos hB0] at hRR
        rw [← hRR]
        exact HZ.out.told
      | false =>
        rw [takeT, hB0, if_neg (by simp)] at X1
        have HF40 := Lib.hid (H1.out.keep X1.out.1 X1.out.2 HBW.out)
        go_wp2_with fail
        refine (rdr_take w0 _ b n _ L s kResult HF40.out.r).mono ?_
        rintro e42 w42 hr
        obtain ⟨rfl, X42⟩ := hr.out1
        clear hr
        cases hB1 : isT L s kResult with
        | true =>
          rw [takeT, if_pos hB1] at X42
          have H43 := Lib.hid (HF40.out.keep X42.out.1 X42.out.2 HBW.out)
          have c44 := H43.out.s.cell 0 _ rfl
          have f45 := H43.out.s.free 0
          have H46 := Lib.hid (H43.out.field 0 (.int .i64 3) ({ sh0 (curT L s).pos with kind := 3 } : SH) rfl rfl rfl)
          go_wp2_with fail
          refine (rdr_want w0 _ b n _ L _ [61] H46.out.r).mono ?_
          rintro e47 w48 hr
          obtain ⟨rfl, X49⟩ := hr.out1
          clear hr
          have H50 := Lib.hid (H46.out.keep X49.out.1 X49.out.2 HBW.out)
          clear c44 f45
          go_wp2_with fail
          have d51 : Dok (wantT L s.go [61]) := ((is_goes HK.out.1 hB1).trans (want_goes HK.out.1 _ _)).dok HN.out.2
          refine (rdr_expr w0 _ b n _ L _ H50.out.r d51).mono ?_
          rintro e52 w53 ⟨aok54, mk54, ck54, rfl, ok54, rk54, cck54, fk54, hmk54⟩
          have N56 := Lib.hid (H50.out.nodes ok54 fk54 hmk54)
          have H55 := Lib.hid (H50.out.keep rk54 cck54 HBW.out)
          clear d51 ok54 rk54 cck54 fk54 hmk54
          have c57 := H55.out.s.cell 8 _ rfl
          have f58 := H55.out.s.free 8
          have H59' := H55.out.put 8 (.slice aok54 mk54 ck54) (h' := ({ sh0 (curT L s).pos with kind := 3, e := (exprN L (wantT L s.go [61])).1 } : SH)) (vE' := .slice aok54 mk54 ck54) (vB' := .slice none 0 0) (vC' := .slice none 0 0) (body' := []) (els' := []) rfl (N56.out) (H55.out.a) (H55.out.bo) (H55.out.el)
          have H59 := Lib.hid H59'
          clear H59'
          go_wp2_with fail
          refine (rdr_want w0 _ b n _ L _ [59] H59.out.r).mono ?_
          rintro e60 w61 hr
          obtain ⟨rfl, X62⟩ := hr.out1
          clear hr
          have H63 := Lib.hid (H59.out.keep X62.out.1 X62.out.2 HBW.out)
          clear c57 f58
          have HZ := H63
          go_wp2_with (first | (refine wpList_load_row rfl 63 (.tmp 3) rfl T rfl _ _ _ _ HZ.out.s Tryz.underlying63 rfl (stmt_info _ _ _ _ _) ?_) | (refine wpList_store_row rfl 63 (.tmp 2) (.tmp 119) rfl U _ rfl rfl _ _ HZ.out.z (stmt_info _ _ _ _ _) rfl HZ.out.ones ?_))
          try simp only [Exit.inBlock, Exit.then]
          refine bodyPost_ret (results_cell_row rfl _ _ U _ _ _ _ rfl (setRow_heap _ U _ _ _ _ HZ.out.z) Tryz.underlying63 rfl (stmt_info _ _ _ _ _)) rfl ?_
          have hRR := HRB.out
          rw [if_neg (by rw [hB0]; simp), if_pos hB1] at hRR
          rw [← hRR]
          exact HZ.out.told
        | false =>
          rw [takeT, hB1, if_neg (by simp)] at X42
          have HF63 := Lib.hid (HF40.out.keep X42.out.1 X42.out.2 HBW.out)
          go_wp2_with fail
          refine (rdr_take w0 _ b n _ L s kCall HF63.out.r).mono ?_
          rintro e65 w65 hr
          obtain ⟨rfl, X65⟩ := hr.out1
          clear hr
          cases hB2 : isT L s kCall with
          | true =>
            rw [takeT, if_pos hB2] at X65
            have H66 := Lib.hid (HF63.out.keep X65.out.1 X65.out.2 HBW.out)
            have hdk : Dok s.go := HN.out.2
            go_wp2_with (refine wpList_load_row rfl 63 (.tmp 3) rfl T rfl _ _ _ _ H66.out.s Tryz.underlying63 rfl (stmt_info _ _ _ _ _) ?_)
            refine (HK.out.2.1 _ _ (curT L s).pos H66.out.r hdk).mono ?_
            rintro ec wc ⟨vA, nA, rfl, hce, oA, rA, ccA⟩
            have HC1 := Lib.hid (H66.out.keep rA ccA HBW.out)
            have HC2 := Lib.hid (HC1.out.whole (callT L s.go (curT L s).pos).1 vA (by rw [hce]; exact ⟨0, RowsP.nil _ _ _ _⟩) (H66.out.args oA ccA))
            have hon := HC2.out.ones
            clear hce oA rA ccA hdk
            go_wp2_with (refine wpList_store_row rfl 63 (.tmp 3) (.tmp 78) rfl T _ rfl rfl _ _ HC1.out.s (stmt_info _ _ _ _ _) rfl hon ?_)
            refine (rdr_want w0 _ b n _ L _ [59] HC2.out.r).mono ?_
            rintro e67 w68 hr
            obtain ⟨rfl, X69⟩ := hr.out1
            clear hr
            have H70 := Lib.hid (HC2.out.keep X69.out.1 X69.out.2 HBW.out)
            have HZ := H70
            go_wp2_with (first | (refine wpList_load_row rfl 63 (.tmp 3) rfl T rfl _ _ _ _ HZ.out.s Tryz.underlying63 rfl (stmt_info _ _ _ _ _) ?_) | (refine wpList_store_row rfl 63 (.tmp 2) (.tmp 119) rfl U _ rfl rfl _ _ HZ.out.z (stmt_info _ _ _ _ _) rfl HZ.out.ones ?_))
            try simp only [Exit.inBlock, Exit.then]
            refine bodyPost_ret (results_cell_row rfl _ _ U _ _ _ _ rfl (setRow_heap _ U _ _ _ _ HZ.out.z) Tryz.underlying63 rfl (stmt_info _ _ _ _ _)) rfl ?_
            have hRR := HRB.out
            rw [if_neg (by rw [hB0]; simp), if_neg (by rw [hB1]; simp), if_pos hB2] at hRR
            rw [← hRR]
            exact HZ.out.told
          | false =>
            rw [takeT, hB2, if_neg (by simp)] at X65
            have HF70 := Lib.hid (HF63.out.keep X65.out.1 X65.out.2 HBW.out)
            go_wp2_with fail
            refine (rdr_take w0 _ b n _ L s kEmit HF70.out.r).mono ?_
            rintro e72 w72 hr
            obtain ⟨rfl, X72⟩ := hr.out1
            clear hr
            cases hB3 : isT L s kEmit with
            | true =>
              rw [takeT, if_pos hB3] at X72
              have H73 := Lib.hid (HF70.out.keep X72.out.1 X72.out.2 HBW.out)
              have c74 := H73.out.s.cell 0 _ rfl
              have f75 := H73.out.s.free 0
              have H76 := Lib.hid (H73.out.field 0 (.int .i64 7) ({ sh0 (curT L s).pos with kind := 7 } : SH) rfl rfl rfl)
              go_wp2_with fail
              refine (rdr_name w0 _ b n _ L _ H76.out.r).mono ?_
              rintro e77 w78 hr
              obtain ⟨rfl, X79⟩ := hr.out1
              clear hr
              have H80 := Lib.hid (H76.out.keep X79.out.1 X79.out.2 HBW.out)
              clear c74 f75
              have c81 := H80.out.s.cell 3 _ rfl
              have f82 := H80.out.s.free 3
              have H83 := Lib.hid (H80.out.field 3 (.string (tx (nameT L s.go).1)) ({ sh0 (curT L s).pos with kind := 7, name := (nameT L s.go).1 } : SH) rfl rfl rfl)
              go_wp2_with fail
              refine (rdr_want w0 _ b n _ L _ [59] H83.out.r).mono ?_
              rintro e84 w85 hr
              obtain ⟨rfl, X86⟩ := hr.out1
              clear hr
              have H87 := Lib.hid (H83.out.keep X86.out.1 X86.out.2 HBW.out)
              clear c81 f82
              have HZ := H87
              go_wp2_with (first | (refine wpList_load_row rfl 63 (.tmp 3) rfl T rfl _ _ _ _ HZ.out.s Tryz.underlying63 rfl (stmt_info _ _ _ _ _) ?_) | (refine wpList_store_row rfl 63 (.tmp 2) (.tmp 119) rfl U _ rfl rfl _ _ HZ.out.z (stmt_info _ _ _ _ _) rfl HZ.out.ones ?_))
              try simp only [Exit.inBlock, Exit.then]
              refine bodyPost_ret (results_cell_row rfl _ _ U _ _ _ _ rfl (setRow_heap _ U _ _ _ _ HZ.out.z) Tryz.underlying63 rfl (stmt_info _ _ _ _ _)) rfl ?_
              have hRR := HRB.out
              rw [if_neg (by rw [hB0]; simp), if_neg (by rw [hB1]; simp), if_neg (by rw [hB2]; simp), if_pos hB3] at hRR
              rw [← hRR]
              exact HZ.out.told
            | false =>
              rw [takeT, hB3, if_neg (by simp)] at X72
              have HF87 := Lib.hid (HF70.out.keep X72.out.1 X72.out.2 HBW.out)
              go_wp2_with fail
              refine (rdr_take w0 _ b n _ L s kSkip HF87.out.r).mono ?_
              rintro e89 w89 hr
              obtain ⟨rfl, X89⟩ := hr.out1
              clear hr
              cases hB4 : isT L s kSkip with
              | true =>
                rw [takeT, if_pos hB4] at X89
                have H90 := Lib.hid (HF87.out.keep X89.out.1 X89.out.2 HBW.out)
                have c91 := H90.out.s.cell 0 _ rfl
                have f92 := H90.out.s.free 0
                have H93 := Lib.hid (H90.out.field 0 (.int .i64 8) ({ sh0 (curT L s).pos with kind := 8 } : SH) rfl rfl rfl)
                go_wp2_with fail
                refine (rdr_want w0 _ b n _ L _ [59] H93.out.r).mono ?_
                rintro e94 w95 hr
                obtain ⟨rfl, X96⟩ := hr.out1
                clear hr
                have H97 := Lib.hid (H93.out.keep X96.out.1 X96.out.2 HBW.out)
                clear c91 f92
                have HZ := H97
                go_wp2_with (first | (refine wpList_load_row rfl 63 (.tmp 3) rfl T rfl _ _ _ _ HZ.out.s Tryz.underlying63 rfl (stmt_info _ _ _ _ _) ?_) | (refine wpList_store_row rfl 63 (.tmp 2) (.tmp 119) rfl U _ rfl rfl _ _ HZ.out.z (stmt_info _ _ _ _ _) rfl HZ.out.ones ?_))
                try simp only [Exit.inBlock, Exit.then]
                refine bodyPost_ret (results_cell_row rfl _ _ U _ _ _ _ rfl (setRow_heap _ U _ _ _ _ HZ.out.z) Tryz.underlying63 rfl (stmt_info _ _ _ _ _)) rfl ?_
                have hRR := HRB.out
                rw [if_neg (by rw [hB0]; simp), if_neg (by rw [hB1]; simp), if_neg (by rw [hB2]; simp), if_neg (by rw [hB3]; simp), if_pos hB4] at hRR
                rw [← hRR]
                exact HZ.out.told
              | false =>
                rw [takeT, hB4, if_neg (by simp)] at X89
                have HF97 := Lib.hid (HF87.out.keep X89.out.1 X89.out.2 HBW.out)
                go_wp2_with fail
                refine (rdr_take w0 _ b n _ L s kIf HF97.out.r).mono ?_
                rintro e99 w99 hr
                obtain ⟨rfl, X99⟩ := hr.out1
                clear hr
                cases hB5 : isT L s kIf with
                | true =>
                  rw [takeT, if_pos hB5] at X99
                  have H100 := Lib.hid (HF97.out.keep X99.out.1 X99.out.2 HBW.out)
                  have HGO : Hid (remT L s.go < remT L s) := Lib.hid (rem_go (isT_e hB5).1 HI.out)
                  have c101 := H100.out.s.cell 0 _ rfl
                  have f102 := H100.out.s.free 0
                  have H103 := Lib.hid (H100.out.field 0 (.int .i64 5) ({ sh0 (curT L s).pos with kind := 5 } : SH) rfl rfl rfl)
                  go_wp2_with fail
                  have d104 : Dok s.go := ((is_goes HK.out.1 hB5)).dok HN.out.2
                  refine (rdr_expr w0 _ b n _ L _ H103.out.r d104).mono ?_
                  rintro e105 w106 ⟨aok107, mk107, ck107, rfl, ok107, rk107, cck107, fk107, hmk107⟩
                  have N109 := Lib.hid (H103.out.nodes ok107 fk107 hmk107)
                  have H108 := Lib.hid (H103.out.keep rk107 cck107 HBW.out)
                  clear c101 f102 d104 ok107 rk107 cck107 fk107 hmk107
                  have c110 := H108.out.s.cell 8 _ rfl
                  have f111 := H108.out.s.free 8
                  have H112' := H108.out.put 8 (.slice aok107 mk107 ck107) (h' := ({ sh0 (curT L s).pos with kind := 5, e := (exprN L s.go).1 } : SH)) (vE' := .slice aok107 mk107 ck107) (vB' := .slice none 0 0) (vC' := .slice none 0 0) (body' := []) (els' := []) rfl (N109.out) (H108.out.a) (H108.out.bo) (H108.out.el)
                  have H112 := Lib.hid H112'
                  clear H112'
                  go_wp2_with fail
                  have d113 := (is_goes HK.out.1 hB5).trans (exprN_goes HK.out.1 _)
                  refine (HK.out.2.2 _ _ H112.out.r (d113.dok HN.out.2) (by have := (exprN_goes HK.out.1 s.go).rem; have := HN.out.1; have := HGO.out; omega)).mono ?_
                  rintro e114 w115 ⟨aok116, mk116, ck116, rfl, ok116, rk116, cck116⟩
                  have N118 := Lib.hid (H112.out.stms ok116 cck116)
                  have H117 := Lib.hid (H112.out.keep rk116 cck116 HBW.out)
                  clear c110 f111 d113 ok116 rk116 cck116
                  have c119 := H117.out.s.cell 10 _ rfl
                  have f120 := H117.out.s.free 10
                  have H121' := H117.out.put 10 (.slice aok116 mk116 ck116) (h' := ({ sh0 (curT L s).pos with kind := 5, e := (exprN L s.go).1 } : SH)) (vE' := .slice aok107 mk107 ck107) (vB' := .slice aok116 mk116 ck116) (vC' := .slice none 0 0) (body' := (blockT L (stmtT L N) N (exprN L s.go).2).1) (els' := []) rfl (H117.out.e) (H117.out.a) (N118.out) (H117.out.el)
                  have H121 := Lib.hid H121'
                  clear H121'
                  go_wp2_with fail
                  refine (rdr_take w0 _ b n _ L _ kElse H121.out.r).mono ?_
                  rintro e122 w123 hr
                  obtain ⟨rfl, X124⟩ := hr.out1
                  clear hr c119 f120
                  cases hE : isT L (blockT L (stmtT L N) N (exprN L s.go).2).2 kElse with
                  | true =>
                    rw [takeT, if_pos hE] at X124
                    have H125 := Lib.hid (H121.out.keep X124.out.1 X124.out.2 HBW.out)
                    go_wp2_with fail
                    have d126 := ((is_goes HK.out.1 hB5).trans ((exprN_goes HK.out.1 s.go).trans (block_goes HK.out.1 (stmt_goes HK.out.1 N) N _))).trans (is_goes HK.out.1 hE)
                    refine (HK.out.2.2 _ _ H125.out.r (d126.dok HN.out.2) (by have := ((exprN_goes HK.out.1 s.go).trans ((block_goes HK.out.1 (stmt_goes HK.out.1 N) N _).trans (is_goes HK.out.1 hE))).rem; have := HN.out.1; have := HGO.out; omega)).mono ?_
                    rintro e127 w128 ⟨aok129, mk129, ck129, rfl, ok129, rk129, cck129⟩
                    have N131 := Lib.hid (H125.out.stms ok129 cck129)
                    have H130 := Lib.hid (H125.out.keep rk129 cck129 HBW.out)
                    clear d126 ok129 rk129 cck129
                    have c132 := H130.out.s.cell 11 _ rfl
                    have f133 := H130.out.s.free 11
                    have H134' := H130.out.put 11 (.slice aok129 mk129 ck129) (h' := ({ sh0 (curT L s).pos with kind := 5, e := (exprN L s.go).1 } : SH)) (vE' := .slice aok107 mk107 ck107) (vB' := .slice aok116 mk116 ck116) (vC' := .slice aok129 mk129 ck129) (body' := (blockT L (stmtT L N) N (exprN L s.go).2).1) (els' := (blockT L (stmtT L N) N (blockT L (stmtT L N) N (exprN L s.go).2).2.go).1) rfl (H130.out.e) (H130.out.a) (H130.out.bo) (N131.out)
                    have H134 := Lib.hid H134'
                    clear H134'
                    have HZ := H134
                    go_wp2_with (first | (refine wpList_load_row rfl 63 (.tmp 3) rfl T rfl _ _ _ _ HZ.out.s Tryz.underlying63 rfl (stmt_info _ _ _ _ _) ?_) | (refine wpList_store_row rfl 63 (.tmp 2) (.tmp 105) rfl U _ rfl rfl _ _ HZ.out.z (stmt_info _ _ _ _ _) rfl HZ.out.ones ?_))
                    try simp only [Exit.inBlock, Exit.then]
                    refine bodyPost_ret (results_cell_row rfl _ _ U _ _ _ _ rfl (setRow_heap _ U _ _ _ _ HZ.out.z) Tryz.underlying63 rfl (stmt_info _ _ _ _ _)) rfl ?_
                    have hRR := HRB.out
                    rw [if_neg (by rw [hB0]; simp), if_neg (by rw [hB1]; simp), if_neg (by rw [hB2]; simp), if_neg (by rw [hB3]; simp), if_neg (by rw [hB4]; simp), if_pos hB5] at hRR
                    try simp only at hRR
                    rw [if_pos hE] at hRR
                    rw [← hRR]
                    exact HZ.out.told
                  | false =>
                    rw [takeT, hE, if_neg (by simp)] at X124
                    have H125 := Lib.hid (H121.out.keep X124.out.1 X124.out.2 HBW.out)
                    have HZ := H125
                    go_wp2_with (first | (refine wpList_load_row rfl 63 (.tmp 3) rfl T rfl _ _ _ _ HZ.out.s Tryz.underlying63 rfl (stmt_info _ _ _ _ _) ?_) | (refine wpList_store_row rfl 63 (.tmp 2) (.tmp 105) rfl U _ rfl rfl _ _ HZ.out.z (stmt_info _ _ _ _ _) rfl HZ.out.ones ?_))
                    try simp only [Exit.inBlock, Exit.then]
                    refine bodyPost_ret (results_cell_row rfl _ _ U _ _ _ _ rfl (setRow_heap _ U _ _ _ _ HZ.out.z) Tryz.underlying63 rfl (stmt_info _ _ _ _ _)) rfl ?_
                    have hRR := HRB.out
                    rw [if_neg (by rw [hB0]; simp), if_neg (by rw [hB1]; simp), if_neg (by rw [hB2]; simp), if_neg (by rw [hB3]; simp), if_neg (by rw [hB4]; simp), if_pos hB5] at hRR
                    try simp only at hRR
                    rw [hE, if_neg (by simp)] at hRR
                    rw [← hRR]
                    exact HZ.out.told
                | false =>
                  rw [takeT, hB5, if_neg (by simp)] at X99
                  have HF124 := Lib.hid (HF97.out.keep X99.out.1 X99.out.2 HBW.out)
                  go_wp2_with fail
                  refine (rdr_take w0 _ b n _ L s kWhile HF124.out.r).mono ?_
                  rintro e126 w126 hr
                  obtain ⟨rfl, X126⟩ := hr.out1
                  clear hr
                  cases hB6 : isT L s kWhile with
                  | true =>
                    rw [takeT, if_pos hB6] at X126
                    have H127 := Lib.hid (HF124.out.keep X126.out.1 X126.out.2 HBW.out)
                    have HGO : Hid (remT L s.go < remT L s) := Lib.hid (rem_go (isT_e hB6).1 HI.out)
                    have c128 := H127.out.s.cell 0 _ rfl
                    have f129 := H127.out.s.free 0
                    have H130 := Lib.hid (H127.out.field 0 (.int .i64 6) ({ sh0 (curT L s).pos with kind := 6 } : SH) rfl rfl rfl)
                    go_wp2_with fail
                    have d131 : Dok s.go := ((is_goes HK.out.1 hB6)).dok HN.out.2
                    refine (rdr_expr w0 _ b n _ L _ H130.out.r d131).mono ?_
                    rintro e132 w133 ⟨aok134, mk134, ck134, rfl, ok134, rk134, cck134, fk134, hmk134⟩
                    have N136 := Lib.hid (H130.out.nodes ok134 fk134 hmk134)
                    have H135 := Lib.hid (H130.out.keep rk134 cck134 HBW.out)
                    clear c128 f129 d131 ok134 rk134 cck134 fk134 hmk134
                    have c137 := H135.out.s.cell 8 _ rfl
                    have f138 := H135.out.s.free 8
                    have H139' := H135.out.put 8 (.slice aok134 mk134 ck134) (h' := ({ sh0 (curT L s).pos with kind := 6, e := (exprN L s.go).1 } : SH)) (vE' := .slice aok134 mk134 ck134) (vB' := .slice none 0 0) (vC' := .slice none 0 0) (body' := []) (els' := []) rfl (N136.out) (H135.out.a) (H135.out.bo) (H135.out.el)
                    have H139 := Lib.hid H139'
                    clear H139'
                    go_wp2_with fail
                    have d140 := (is_goes HK.out.1 hB6).trans (exprN_goes HK.out.1 _)
                    refine (HK.out.2.2 _ _ H139.out.r (d140.dok HN.out.2) (by have := (exprN_goes HK.out.1 s.go).rem; have := HN.out.1; have := HGO.out; omega)).mono ?_
                    rintro e141 w142 ⟨aok143, mk143, ck143, rfl, ok143, rk143, cck143⟩
                    have N145 := Lib.hid (H139.out.stms ok143 cck143)
                    have H144 := Lib.hid (H139.out.keep rk143 cck143 HBW.out)
                    clear c137 f138 d140 ok143 rk143 cck143
                    have c146 := H144.out.s.cell 10 _ rfl
                    have f147 := H144.out.s.free 10
                    have H148' := H144.out.put 10 (.slice aok143 mk143 ck143) (h' := ({ sh0 (curT L s).pos with kind := 6, e := (exprN L s.go).1 } : SH)) (vE' := .slice aok134 mk134 ck134) (vB' := .slice aok143 mk143 ck143) (vC' := .slice none 0 0) (body' := (blockT L (stmtT L N) N (exprN L s.go).2).1) (els' := []) rfl (H144.out.e) (H144.out.a) (N145.out) (H144.out.el)
                    have H148 := Lib.hid H148'
                    clear H148'
                    have HZ := H148
                    go_wp2_with (first | (refine wpList_load_row rfl 63 (.tmp 3) rfl T rfl _ _ _ _ HZ.out.s Tryz.underlying63 rfl (stmt_info _ _ _ _ _) ?_) | (refine wpList_store_row rfl 63 (.tmp 2) (.tmp 116) rfl U _ rfl rfl _ _ HZ.out.z (stmt_info _ _ _ _ _) rfl HZ.out.ones ?_))
                    try simp only [Exit.inBlock, Exit.then]
                    refine bodyPost_ret (results_cell_row rfl _ _ U _ _ _ _ rfl (setRow_heap _ U _ _ _ _ HZ.out.z) Tryz.underlying63 rfl (stmt_info _ _ _ _ _)) rfl ?_
                    have hRR := HRB.out
                    rw [if_neg (by rw [hB0]; simp), if_neg (by rw [hB1]; simp), if_neg (by rw [hB2]; simp), if_neg (by rw [hB3]; simp), if_neg (by rw [hB4]; simp), if_neg (by rw [hB5]; simp), if_pos hB6] at hRR
                    rw [← hRR]
                    exact HZ.out.told
                  | false =>
                    rw [takeT, hB6, if_neg (by simp)] at X126
                    have HF148 := Lib.hid (HF124.out.keep X126.out.1 X126.out.2 HBW.out)
                    go_wp2_with fail
                    refine (rdr_fail w0 _ b n _ L s 11 HF148.out.r).mono ?_
                    rintro e150 w151 hr
                    obtain ⟨rfl, X152⟩ := hr.out1
                    clear hr
                    have H153 := Lib.hid (HF148.out.keep X152.out.1 X152.out.2 HBW.out)
                    have HZ := H153
                    go_wp2_with (first | (refine wpList_load_row rfl 63 (.tmp 3) rfl T rfl _ _ _ _ HZ.out.s Tryz.underlying63 rfl (stmt_info _ _ _ _ _) ?_) | (refine wpList_store_row rfl 63 (.tmp 2) (.tmp 11) rfl U _ rfl rfl _ _ HZ.out.z (stmt_info _ _ _ _ _) rfl HZ.out.ones ?_))
                    try simp only [Exit.inBlock, Exit.then]
                    refine bodyPost_ret (results_cell_row rfl _ _ U _ _ _ _ rfl (setRow_heap _ U _ _ _ _ HZ.out.z) Tryz.underlying63 rfl (stmt_info _ _ _ _ _)) rfl ?_
                    have hRR := HRB.out
                    rw [if_neg (by rw [hB0]; simp), if_neg (by rw [hB1]; simp), if_neg (by rw [hB2]; simp), if_neg (by rw [hB3]; simp), if_neg (by rw [hB4]; simp), if_neg (by rw [hB5]; simp), if_neg (by rw [hB6]; simp)] at hRR
                    rw [← hRR]
                    exact HZ.out.told

end Go.Proofs.YtlgfijjkbomejaaGreatDoor
