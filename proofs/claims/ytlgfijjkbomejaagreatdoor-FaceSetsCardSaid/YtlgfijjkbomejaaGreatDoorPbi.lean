/- The reference's call. Numbers and types by name. -/
import Derived.Test.YtlgfijjkbomejaaGreatDoorPbg
namespace Go.Proofs.YtlgfijjkbomejaaGreatDoor
open Go.RowKit Go.Lib
set_option maxRecDepth 100000

/-- The arguments, from the bracket on: what the model makes of them. -/
def argsOf (L : List Tk) (s : PS) : List (List Nd) × PS := if isT L s [41] = true then ([], s) else listLoop L (exprN L) (L.length + 1) s []
theorem list_args (L : List Tk) (s : PS) : listT L (exprN L) s [41] = ((argsOf L s).1, wantT L (argsOf L s).2 [41]) := rfl

set_option maxHeartbeats 4000000 in
theorem call_walk (w0 : World) (b n : Nat) (vl : Value) (L : List Tk) (hL : TokL L) : CaK 164 w0 b n vl L := by
  intro w s pos hr hd
  obtain ⟨R, hR⟩ : ∃ R, callT L s pos = R := ⟨_, rfl⟩
  rw [hR]
  unfold callT at hR
  simp only [list_args] at hR
  have HR := Lib.hid hR
  have HX := Lib.hid (And.intro hL hd)
  have hbw := hr.blt
  have hz : SBlk ((w.alloc (.cells (stmHead (sh0 pos) (.slice none 0 0) (.slice none 0 0) (.slice none 0 0) (.slice none 0 0)).toArray 63)).alloc (.cells (stmHead (sh0 0) (.slice none 0 0) (.slice none 0 0) (.slice none 0 0) (.slice none 0 0)).toArray 63)) (w.heap.size + 1) (sh0 0) (.slice none 0 0) (.slice none 0 0) (.slice none 0 0) (.slice none 0 0) := heap_alloc2_new w _ _
  have ht : SBlk ((w.alloc (.cells (stmHead (sh0 pos) (.slice none 0 0) (.slice none 0 0) (.slice none 0 0) (.slice none 0 0)).toArray 63)).alloc (.cells (stmHead (sh0 0) (.slice none 0 0) (.slice none 0 0) (.slice none 0 0) (.slice none 0 0)).toArray 63)) w.heap.size (sh0 pos) (.slice none 0 0) (.slice none 0 0) (.slice none 0 0) (.slice none 0 0) :=
    (show SBlk (w.alloc _) w.heap.size (sh0 pos) _ _ _ _ from heap_alloc_new w _).chg ((Chg.refl [] _).alloc _) (by simp)
  have hc2 : Chg [] w ((w.alloc (.cells (stmHead (sh0 pos) (.slice none 0 0) (.slice none 0 0) (.slice none 0 0) (.slice none 0 0)).toArray 63)).alloc (.cells (stmHead (sh0 0) (.slice none 0 0) (.slice none 0 0) (.slice none 0 0) (.slice none 0 0)).toArray 63)) := ((Chg.refl [] w).alloc _).alloc _
  have H0 : Hid (CAt w0 w ((w.alloc (.cells #[.int .i64 0, .int .i64 (pos : Int), .string ⟨#[]⟩, .string ⟨#[]⟩, .string ⟨#[]⟩, .bool false, .string ⟨#[]⟩, .string ⟨#[]⟩, .slice none 0 0, .slice none 0 0, .slice none 0 0, .slice none 0 0] 63)).alloc (.cells #[.int .i64 0, .int .i64 0, .string ⟨#[]⟩, .string ⟨#[]⟩, .string ⟨#[]⟩, .bool false, .string ⟨#[]⟩, .string ⟨#[]⟩, .slice none 0 0, .slice none 0 0, .slice none 0 0, .slice none 0 0] 63)) b n vl L w.heap.size (w.heap.size + 1) (sh0 pos) (.slice none 0 0) 0 s []) := Lib.hid
    ⟨hr.chg hc2 (fun x hx => by cases hx) (hr.r.chg hc2 (by simp)) hr.lt hr.deep, hc2.mono (fun x hx => by cases hx), ht, hz, ⟨[], World.ownsRow_nil _ _ _ _, rfl⟩, rfl, hbw, Nat.le_refl _, Nat.le_succ _, by omega, by simp [Value.ownBlock], by simp [Value.ownBlock]⟩
  clear hR hd hr hz ht hc2 hL
  show Calls _ _ #[_, .agg #[.int .i64 0, .int .i64 (pos : Int), .string ⟨#[]⟩, .string ⟨#[]⟩, .string ⟨#[]⟩, .bool false, .string ⟨#[]⟩, .string ⟨#[]⟩, .slice none 0 0, .slice none 0 0, .slice none 0 0, .slice none 0 0]] w _
  go_enter Tryz.func164, Tryz.ntmps164
  go_upto_region 1 with fail
  generalize (w.alloc (.cells #[.int .i64 0, .int .i64 (pos : Int), .string ⟨#[]⟩, .string ⟨#[]⟩, .string ⟨#[]⟩, .bool false, .string ⟨#[]⟩, .string ⟨#[]⟩, .slice none 0 0, .slice none 0 0, .slice none 0 0, .slice none 0 0] 63)).alloc (.cells #[.int .i64 0, .int .i64 0, .string ⟨#[]⟩, .string ⟨#[]⟩, .string ⟨#[]⟩, .bool false, .string ⟨#[]⟩, .string ⟨#[]⟩, .slice none 0 0, .slice none 0 0, .slice none 0 0, .slice none 0 0] 63) = W at *
  have k0 := H0.out.sb.cell 0 _ rfl
  have f0 := H0.out.sb.free 0
  have H1 := Lib.hid (H0.out.field 0 (.int .i64 4) ({ sh0 pos with kind := 4 }) rfl)
  go_wp2_with fail
  refine (rdr_qname w0 _ b n _ L s H1.out.r).mono ?_
  rintro e1 w1 hr
  obtain ⟨rfl, X1⟩ := hr.out1
  clear hr
  have H2 := Lib.hid (H1.out.keep X1.out.1 X1.out.2)
  have hgq := qname_goes HX.out.1 s
  have HGQ := Lib.hid hgq
  clear k0 f0 hgq H0 H1 X1
  generalize qnameT L s = q at *
  obtain ⟨⟨qa, qb⟩, sq⟩ := q
  simp only at HGQ
  go_wp2_with fail
  refine (rdr_take w0 _ b n _ L sq [61] H2.out.r).mono ?_
  rintro e2 w2 hr
  obtain ⟨rfl, X2⟩ := hr.out1
  clear hr
  cases hB : isT L sq [61] with
  | false =>
    rw [takeT, hB, if_neg (by simp)] at X2
    have H3 := Lib.hid (H2.out.keep X2.out.1 X2.out.2)
    clear H2 X2
    have k6 := H3.out.sb.cell 6 _ rfl
    have k7 := H3.out.sb.cell 7 _ rfl
    have f6 := H3.out.sb.free 6
    have f7 := H3.out.sb.free 7
    have HT7 := Lib.hid ((H3.out.field 6 (.string (tx qa)) ({ { sh0 pos with kind := 4 } with toMod := qa }) rfl).field 7 (.string (tx qb)) ({ { sh0 pos with kind := 4 } with toMod := qa, «to» := qb }) rfl)
    go_wp2_with fail
    refine (rdr_want w0 _ b n _ L sq [40] HT7.out.r).mono ?_
    rintro e7 w7 hr
    obtain ⟨rfl, X7⟩ := hr.out1
    clear hr
    have HT8 := Lib.hid (HT7.out.keep X7.out.1 X7.out.2)
    have hdk : Dok (wantT L sq [40]) := (HGQ.out.trans (want_goes HX.out.1 _ _)).dok HX.out.2
    have HDK := Lib.hid hdk
    clear k6 k7 f6 f7 hdk
    go_wp2_with fail
    refine (rdr_is w0 _ b n _ L (wantT L sq [40]) [41] HT8.out.r).mono ?_
    rintro e8 w8 hr
    obtain ⟨rfl, X8⟩ := hr.out1
    clear hr
    have HT9 := Lib.hid (HT8.out.keep X8.out.1 X8.out.2)
    generalize hS1 : (wantT L sq [40]) = s1 at *
    cases hI : isT L s1 [41] with
    | true =>
      go_wp2_with fail
      refine (rdr_want w0 _ b n _ L s1 [41] HT9.out.r).mono ?_
      rintro e9 w9 hr
      obtain ⟨rfl, X9⟩ := hr.out1
      clear hr
      have HE9 := Lib.hid (HT9.out.keep X9.out.1 X9.out.2)
      have HZ := HE9
      have hmz : 0 ≤ 100000 := by omega
      go_wp2_with (first | (refine wpList_load_row rfl 63 (.tmp 3) rfl w.heap.size rfl _ _ _ _ HZ.out.sb Tryz.underlying63 rfl (stmt_info _ _ _ _ _) ?_) | (refine wpList_store_row rfl 63 (.tmp 4) (.tmp 55) rfl (w.heap.size + 1) _ rfl rfl _ _ HZ.out.z (stmt_info _ _ _ _ _) rfl HZ.out.ones ?_))
      try simp only [Exit.inBlock, Exit.then]
      refine bodyPost_ret (results_cell_row rfl _ _ (w.heap.size + 1) _ _ _ _ rfl (setRow_heap _ (w.heap.size + 1) _ _ _ _ HZ.out.z) Tryz.underlying63 rfl (stmt_info _ _ _ _ _)) rfl ?_
      have hRR := HR.out
      simp only [hB, Bool.false_eq_true, if_false] at hRR
      rw [← hRR]
      have hao : argsOf L s1 = ([], s1) := if_pos hI
      rw [hS1, hao]
      exact HZ.out.told hmz _ rfl rfl rfl
    | false =>
      obtain ⟨RL, hRL⟩ : ∃ RL, listLoop L (exprN L) (L.length + 1) s1 [] = RL := ⟨_, rfl⟩
      have HRL := Lib.hid hRL
      have hA0 : Hid (CAt w0 w w8 b n vl L w.heap.size (w.heap.size + 1) ({ { sh0 pos with kind := 4 } with toMod := qa, «to» := qb }) (.slice none 0 0) 0 s1 [] ∧ listLoop L (exprN L) (L.length + 1) s1 [] = RL ∧ remT L s1 < L.length + 1 ∧ 0 + remT L s1 ≤ 20000 ∧ Dok s1) := Lib.hid ⟨HT9.out, hRL, rem_lt HT9.out.r.lt, by have := rem_lt (L := L) HT9.out.r.lt; have := HX.out.1.few; omega, HDK.out⟩
      clear hRL
      go_wp2_with fail
      go_loopw [38] (fun _ wr => ∃ (ao : Option Addr) (m c q : Nat) (s2 : PS) (acc : List (List Nd)), Hid (CAt w0 w wr b n vl L w.heap.size (w.heap.size + 1) ({ { sh0 pos with kind := 4 } with toMod := qa, «to» := qb }) (.slice ao m c) m s2 acc ∧ listLoop L (exprN L) q s2 acc = RL ∧ remT L s2 < q ∧ m + remT L s2 ≤ 20000 ∧ Dok s2))
        (fun _ wr => remW L b wr)
      case atStart => exact ⟨none, 0, 0, _, s1, [], hA0⟩
      case round =>
        obtain ⟨ao, m, c, q, s2, acc, hG⟩ := hrel
        have r3 := hG.out.1.r.r.c3
        clear hA0
        obtain ⟨q', rfl⟩ : ∃ q', q = q' + 1 := ⟨q - 1, by have := hG.out.2.2.1; omega⟩
        by_cases he : s2.e = 0
        · rw [he] at r3
          have HE := Lib.hid he
          have hm : m ≤ 20000 := by have := hG.out.2.2.2.1; omega
          have HD1 : Hid (CAt w0 w wr.drew b n vl L w.heap.size (w.heap.size + 1) ({ { sh0 pos with kind := 4 } with toMod := qa, «to» := qb }) (.slice ao m c) m s2 acc) := Lib.hid (hG.out.1.keep (hG.out.1.r.drewN 1) ((Chg.refl [b] wr).drewN 1))
          obtain ⟨cs, ho1, hp1⟩ := HD1.out.o
          have HOP := Lib.hid (And.intro ho1 hp1)
          have FL : Hid (m + 1 ≤ 1000000) := Lib.hid (by omega)
          have hloop : (if isT L (exprN L s2).2 [44] = true then listLoop L (exprN L) q' (exprN L s2).2.go (acc ++ [(exprN L s2).1]) else (acc ++ [(exprN L s2).1], (exprN L s2).2)) = RL := by
            have := hG.out.2.1
            unfold listLoop at this
            rw [if_neg (by simp [HE.out])] at this
            exact this
          have HLP := Lib.hid hloop
          have hgo : isT L (exprN L s2).2 [44] = true → remT L (exprN L s2).2.go < remT L s2 := fun h => by
            have h1 := isT_e h
            have h2 := (exprN_goes HX.out.1 s2).rem
            have h3 := rem_go (L := L) h1.1 ((exprN_goes HX.out.1 s2).lt hG.out.1.r.lt)
            omega
          have HGO := Lib.hid hgo
          have hdk2 : Dok (exprN L s2).2 := (exprN_goes HX.out.1 s2).dok hG.out.2.2.2.2
          have HD2 := Lib.hid hdk2
          clear he ho1 hp1 hloop hgo hdk2
          go_upto_region 15 with fail
          have k9 : wr.cell? ⟨w.heap.size, 9, none⟩ = some (.slice ao m c) := hG.out.1.sb.cell 9 _ rfl
          have k9d : wr.drew.cell? ⟨w.heap.size, 9, none⟩ = some (.slice ao m c) := HD1.out.sb.cell 9 _ rfl
          go_region_law (first | (refine step_append_gen elemArgs rfl (.tmp 44) (.tmp 47) rfl w.heap.size (.slice ao m c) m cs (by simp [Act.eval]) HO5.out _ 1 [.slice ao5 m5 c5] (by simp [Act.eval]) HC5.out (by simp [Value.oneCell']) (m + 1) rfl FL (by decide) HB5.out ?_; intro ao7 c7 w7 hown7 hb7 hg7 ho7; have HN := Lib.hid (CAt.next HD1.out HOP.out.1 HOP.out.2 H5.out.1 H5.out.2.1 H5.out.2.2.1 H5.out.2.2.2.1 H5.out.2.2.2.2 hown7 hg7 ho7); have k97 := HN.out.1.cell 9 _ rfl; have f97 := HN.out.1.free 9; clear hown7 hb7 hg7 ho7) | (go_simp; go_at_call 163; refine (rdr_expr w0 _ b n _ L s2 HD1.out.r hG.out.2.2.2.2).mono ?_; rintro e w5 ⟨ao5, m5, c5, rfl, o5, r5, cc5, f5, hm5⟩; have k95 : w5.cell? ⟨w.heap.size, 9, none⟩ = some (.slice ao m c) := (HD1.out.sb.chg cc5 (by simp only [List.mem_singleton]; omega)).cell 9 _ rfl; have k95b : (w5.alloc (.cells #[.slice ao5 m5 c5] 59)).cell? ⟨w.heap.size, 9, none⟩ = some (.slice ao m c) := ((HD1.out.sb.chg cc5 (by simp only [List.mem_singleton]; omega)).chg ((Chg.refl [] w5).alloc _) (by simp)).cell 9 _ rfl; have HO5 : Hid ((w5.alloc (.cells #[.slice ao5 m5 c5] 59)).ownsRow w.heap.size 59 1 (.slice ao m c) m cs) := Lib.hid ((owns_chg HOP.out.1 cc5 (fun k hk hm => by have := (HOP.out.1.lt k hk).1; simp only [List.mem_singleton] at hm; omega)).alloc _); have HC5 := Lib.hid (Cells.lit w5 [.slice ao5 m5 c5] 59 (0, 0) 1 1 rfl); have HB5 : Hid (w.heap.size ≤ (w5.alloc (.cells #[.slice ao5 m5 c5] 59)).heap.size) := Lib.hid (Nat.le_trans (Nat.le_trans HD1.out.c.size cc5.size) (by simp)); have H5 := Lib.hid (And.intro o5 (And.intro r5 (And.intro cc5 (And.intro f5 hm5)))); clear o5 r5 cc5 f5 hm5))
          all_goals
            go_wp2_with fail
            refine (rdr_take w0 _ b n _ L _ [44] HN.out.2.r).mono ?_
            rintro e8 wt hr
            obtain ⟨rfl, XT⟩ := hr.out1
            clear hr
            cases hB9 : isT L (exprN L s2).2 [44] with
            | true =>
              rw [takeT, if_pos hB9] at XT
              have HT := Lib.hid (HN.out.2.keep XT.out.1 XT.out.2)
              have hrm := HGO.out hB9
              have hLP := HLP.out
              rw [if_pos hB9] at hLP
              have HLQ := Lib.hid hLP
              have hms : remW L b wt < remW L b wr := by
                rw [HT.out.r.rem, hG.out.1.r.rem]
                exact hrm
              have HMS := Lib.hid hms
              have HQ := Lib.hid hrm
              clear hrm hms hLP
              go_wp2_with fail
              exact ⟨⟨_, m + 1, _, q', _, _, Lib.hid ⟨HT.out, HLQ.out, by have := HQ.out; have := hG.out.2.2.1; omega, by have := HQ.out; have := hG.out.2.2.2.1; omega, HD2.out⟩⟩, HMS.out⟩
            | false =>
              rw [takeT, hB9, if_neg (by simp)] at XT
              have HX1 := Lib.hid (HN.out.2.keep XT.out.1 XT.out.2)
              have hLP := HLP.out
              rw [hB9, if_neg (by simp)] at hLP
              have hst := Lib.hid hLP.symm
              clear hLP
              go_wp2_with fail
              refine (rdr_want w0 _ b n _ L (exprN L s2).2 [41] HX1.out.r).mono ?_
              rintro e9 w9 hr
              obtain ⟨rfl, X9⟩ := hr.out1
              clear hr
              have HE9 := Lib.hid (HX1.out.keep X9.out.1 X9.out.2)
              have HZ := HE9
              have hmz : (m + 1) ≤ 100000 := by omega
              go_wp2_with (first | (refine wpList_load_row rfl 63 (.tmp 3) rfl w.heap.size rfl _ _ _ _ HZ.out.sb Tryz.underlying63 rfl (stmt_info _ _ _ _ _) ?_) | (refine wpList_store_row rfl 63 (.tmp 4) (.tmp 55) rfl (w.heap.size + 1) _ rfl rfl _ _ HZ.out.z (stmt_info _ _ _ _ _) rfl HZ.out.ones ?_))
              try simp only [Exit.inBlock, Exit.then]
              refine bodyPost_ret (results_cell_row rfl _ _ (w.heap.size + 1) _ _ _ _ rfl (setRow_heap _ (w.heap.size + 1) _ _ _ _ HZ.out.z) Tryz.underlying63 rfl (stmt_info _ _ _ _ _)) rfl ?_
              have hRR := HR.out
              simp only [hB, Bool.false_eq_true, if_false] at hRR
              rw [← hRR]
              have hao : argsOf L s1 = (acc ++ [(exprN L s2).1], (exprN L s2).2) := by unfold argsOf; rw [hI, if_neg (by simp), HRL.out, hst.out]
              rw [hS1, hao]
              exact HZ.out.told hmz _ rfl rfl rfl
        · have he2 : (s2.e == 0) = false := by simpa using he
          have hst : RL = (acc, s2) := by
            have := hG.out.2.1
            unfold listLoop at this
            rw [if_pos he] at this
            exact this.symm
          have hmm := hG.out.2.2.2.1
          have hG1 := Lib.hid hG.out.1
          go_wp2_with fail
          refine (rdr_want w0 _ b n _ L s2 [41] hG1.out.r).mono ?_
          rintro e9 w9 hr
          obtain ⟨rfl, X9⟩ := hr.out1
          clear hr
          have HE9 := Lib.hid (hG1.out.keep X9.out.1 X9.out.2)
          have HZ := HE9
          have hmz : m ≤ 100000 := by omega
          go_wp2_with (first | (refine wpList_load_row rfl 63 (.tmp 3) rfl w.heap.size rfl _ _ _ _ HZ.out.sb Tryz.underlying63 rfl (stmt_info _ _ _ _ _) ?_) | (refine wpList_store_row rfl 63 (.tmp 4) (.tmp 55) rfl (w.heap.size + 1) _ rfl rfl _ _ HZ.out.z (stmt_info _ _ _ _ _) rfl HZ.out.ones ?_))
          try simp only [Exit.inBlock, Exit.then]
          refine bodyPost_ret (results_cell_row rfl _ _ (w.heap.size + 1) _ _ _ _ rfl (setRow_heap _ (w.heap.size + 1) _ _ _ _ HZ.out.z) Tryz.underlying63 rfl (stmt_info _ _ _ _ _)) rfl ?_
          have hRR := HR.out
          simp only [hB, Bool.false_eq_true, if_false] at hRR
          rw [← hRR]
          have hao : argsOf L s1 = (acc, s2) := by unfold argsOf; rw [hI, if_neg (by simp), HRL.out, hst]
          rw [hS1, hao]
          exact HZ.out.told hmz _ rfl rfl rfl
  | true =>
    rw [takeT, if_pos hB] at X2
    have H3 := Lib.hid (H2.out.keep X2.out.1 X2.out.2)
    clear H2 X2
    have k5 := H3.out.sb.cell 5 _ rfl
    have k2 := H3.out.sb.cell 2 _ rfl
    have k3 := H3.out.sb.cell 3 _ rfl
    have f5 := H3.out.sb.free 5
    have f2 := H3.out.sb.free 2
    have f3 := H3.out.sb.free 3
    have H4 := Lib.hid (((H3.out.field 5 (.bool true) ({ sh0 pos with kind := 4, has := true }) rfl).field 2 (.string (tx qa)) ({ sh0 pos with kind := 4, has := true, mod := qa }) rfl).field 3 (.string (tx qb)) ({ sh0 pos with kind := 4, has := true, mod := qa, name := qb }) rfl)
    have hgt := take_goes HX.out.1 sq [61]
    rw [takeT, if_pos hB] at hgt
    have hgr := HGQ.out.trans (hgt.trans (qname_goes HX.out.1 sq.go))
    have HGR := Lib.hid hgr
    clear hgt hgr
    go_wp2_with fail
    refine (rdr_qname w0 _ b n _ L sq.go H4.out.r).mono ?_
    rintro e3 w3 hr
    obtain ⟨rfl, X3⟩ := hr.out1
    clear hr
    have H5 := Lib.hid (H4.out.keep X3.out.1 X3.out.2)
    clear k5 k2 k3 f5 f2 f3 H3 H4 X3
    generalize qnameT L sq.go = q2 at *
    obtain ⟨⟨qc, qd⟩, sr⟩ := q2
    simp only at HGR
    have k6 := H5.out.sb.cell 6 _ rfl
    have k7 := H5.out.sb.cell 7 _ rfl
    have f6 := H5.out.sb.free 6
    have f7 := H5.out.sb.free 7
    have HT7 := Lib.hid ((H5.out.field 6 (.string (tx qc)) ({ { sh0 pos with kind := 4, has := true, mod := qa, name := qb } with toMod := qc }) rfl).field 7 (.string (tx qd)) ({ { sh0 pos with kind := 4, has := true, mod := qa, name := qb } with toMod := qc, «to» := qd }) rfl)
    go_wp2_with fail
    refine (rdr_want w0 _ b n _ L sr [40] HT7.out.r).mono ?_
    rintro e7 w7 hr
    obtain ⟨rfl, X7⟩ := hr.out1
    clear hr
    have HT8 := Lib.hid (HT7.out.keep X7.out.1 X7.out.2)
    have hdk : Dok (wantT L sr [40]) := (HGR.out.trans (want_goes HX.out.1 _ _)).dok HX.out.2
    have HDK := Lib.hid hdk
    clear k6 k7 f6 f7 hdk
    go_wp2_with fail
    refine (rdr_is w0 _ b n _ L (wantT L sr [40]) [41] HT8.out.r).mono ?_
    rintro e8 w8 hr
    obtain ⟨rfl, X8⟩ := hr.out1
    clear hr
    have HT9 := Lib.hid (HT8.out.keep X8.out.1 X8.out.2)
    generalize hS1 : (wantT L sr [40]) = s1 at *
    cases hI : isT L s1 [41] with
    | true =>
      go_wp2_with fail
      refine (rdr_want w0 _ b n _ L s1 [41] HT9.out.r).mono ?_
      rintro e9 w9 hr
      obtain ⟨rfl, X9⟩ := hr.out1
      clear hr
      have HE9 := Lib.hid (HT9.out.keep X9.out.1 X9.out.2)
      have HZ := HE9
      have hmz : 0 ≤ 100000 := by omega
      go_wp2_with (first | (refine wpList_load_row rfl 63 (.tmp 3) rfl w.heap.size rfl _ _ _ _ HZ.out.sb Tryz.underlying63 rfl (stmt_info _ _ _ _ _) ?_) | (refine wpList_store_row rfl 63 (.tmp 4) (.tmp 55) rfl (w.heap.size + 1) _ rfl rfl _ _ HZ.out.z (stmt_info _ _ _ _ _) rfl HZ.out.ones ?_))
      try simp only [Exit.inBlock, Exit.then]
      refine bodyPost_ret (results_cell_row rfl _ _ (w.heap.size + 1) _ _ _ _ rfl (setRow_heap _ (w.heap.size + 1) _ _ _ _ HZ.out.z) Tryz.underlying63 rfl (stmt_info _ _ _ _ _)) rfl ?_
      have hRR := HR.out
      simp only [hB, if_true] at hRR
      rw [← hRR]
      have hao : argsOf L s1 = ([], s1) := if_pos hI
      rw [hS1, hao]
      exact HZ.out.told hmz _ rfl rfl rfl
    | false =>
      obtain ⟨RL, hRL⟩ : ∃ RL, listLoop L (exprN L) (L.length + 1) s1 [] = RL := ⟨_, rfl⟩
      have HRL := Lib.hid hRL
      have hA0 : Hid (CAt w0 w w8 b n vl L w.heap.size (w.heap.size + 1) ({ { sh0 pos with kind := 4, has := true, mod := qa, name := qb } with toMod := qc, «to» := qd }) (.slice none 0 0) 0 s1 [] ∧ listLoop L (exprN L) (L.length + 1) s1 [] = RL ∧ remT L s1 < L.length + 1 ∧ 0 + remT L s1 ≤ 20000 ∧ Dok s1) := Lib.hid ⟨HT9.out, hRL, rem_lt HT9.out.r.lt, by have := rem_lt (L := L) HT9.out.r.lt; have := HX.out.1.few; omega, HDK.out⟩
      clear hRL
      go_wp2_with fail
      go_loopw [38] (fun _ wr => ∃ (ao : Option Addr) (m c q : Nat) (s2 : PS) (acc : List (List Nd)), Hid (CAt w0 w wr b n vl L w.heap.size (w.heap.size + 1) ({ { sh0 pos with kind := 4, has := true, mod := qa, name := qb } with toMod := qc, «to» := qd }) (.slice ao m c) m s2 acc ∧ listLoop L (exprN L) q s2 acc = RL ∧ remT L s2 < q ∧ m + remT L s2 ≤ 20000 ∧ Dok s2))
        (fun _ wr => remW L b wr)
      case atStart => exact ⟨none, 0, 0, _, s1, [], hA0⟩
      case round =>
        obtain ⟨ao, m, c, q, s2, acc, hG⟩ := hrel
        have r3 := hG.out.1.r.r.c3
        clear hA0
        obtain ⟨q', rfl⟩ : ∃ q', q = q' + 1 := ⟨q - 1, by have := hG.out.2.2.1; omega⟩
        by_cases he : s2.e = 0
        · rw [he] at r3
          have HE := Lib.hid he
          have hm : m ≤ 20000 := by have := hG.out.2.2.2.1; omega
          have HD1 : Hid (CAt w0 w wr.drew b n vl L w.heap.size (w.heap.size + 1) ({ { sh0 pos with kind := 4, has := true, mod := qa, name := qb } with toMod := qc, «to» := qd }) (.slice ao m c) m s2 acc) := Lib.hid (hG.out.1.keep (hG.out.1.r.drewN 1) ((Chg.refl [b] wr).drewN 1))
          obtain ⟨cs, ho1, hp1⟩ := HD1.out.o
          have HOP := Lib.hid (And.intro ho1 hp1)
          have FL : Hid (m + 1 ≤ 1000000) := Lib.hid (by omega)
          have hloop : (if isT L (exprN L s2).2 [44] = true then listLoop L (exprN L) q' (exprN L s2).2.go (acc ++ [(exprN L s2).1]) else (acc ++ [(exprN L s2).1], (exprN L s2).2)) = RL := by
            have := hG.out.2.1
            unfold listLoop at this
            rw [if_neg (by simp [HE.out])] at this
            exact this
          have HLP := Lib.hid hloop
          have hgo : isT L (exprN L s2).2 [44] = true → remT L (exprN L s2).2.go < remT L s2 := fun h => by
            have h1 := isT_e h
            have h2 := (exprN_goes HX.out.1 s2).rem
            have h3 := rem_go (L := L) h1.1 ((exprN_goes HX.out.1 s2).lt hG.out.1.r.lt)
            omega
          have HGO := Lib.hid hgo
          have hdk2 : Dok (exprN L s2).2 := (exprN_goes HX.out.1 s2).dok hG.out.2.2.2.2
          have HD2 := Lib.hid hdk2
          clear he ho1 hp1 hloop hgo hdk2
          go_upto_region 15 with fail
          have k9 : wr.cell? ⟨w.heap.size, 9, none⟩ = some (.slice ao m c) := hG.out.1.sb.cell 9 _ rfl
          have k9d : wr.drew.cell? ⟨w.heap.size, 9, none⟩ = some (.slice ao m c) := HD1.out.sb.cell 9 _ rfl
          go_region_law (first | (refine step_append_gen elemArgs rfl (.tmp 44) (.tmp 47) rfl w.heap.size (.slice ao m c) m cs (by simp [Act.eval]) HO5.out _ 1 [.slice ao5 m5 c5] (by simp [Act.eval]) HC5.out (by simp [Value.oneCell']) (m + 1) rfl FL (by decide) HB5.out ?_; intro ao7 c7 w7 hown7 hb7 hg7 ho7; have HN := Lib.hid (CAt.next HD1.out HOP.out.1 HOP.out.2 H5.out.1 H5.out.2.1 H5.out.2.2.1 H5.out.2.2.2.1 H5.out.2.2.2.2 hown7 hg7 ho7); have k97 := HN.out.1.cell 9 _ rfl; have f97 := HN.out.1.free 9; clear hown7 hb7 hg7 ho7) | (go_simp; go_at_call 163; refine (rdr_expr w0 _ b n _ L s2 HD1.out.r hG.out.2.2.2.2).mono ?_; rintro e w5 ⟨ao5, m5, c5, rfl, o5, r5, cc5, f5, hm5⟩; have k95 : w5.cell? ⟨w.heap.size, 9, none⟩ = some (.slice ao m c) := (HD1.out.sb.chg cc5 (by simp only [List.mem_singleton]; omega)).cell 9 _ rfl; have k95b : (w5.alloc (.cells #[.slice ao5 m5 c5] 59)).cell? ⟨w.heap.size, 9, none⟩ = some (.slice ao m c) := ((HD1.out.sb.chg cc5 (by simp only [List.mem_singleton]; omega)).chg ((Chg.refl [] w5).alloc _) (by simp)).cell 9 _ rfl; have HO5 : Hid ((w5.alloc (.cells #[.slice ao5 m5 c5] 59)).ownsRow w.heap.size 59 1 (.slice ao m c) m cs) := Lib.hid ((owns_chg HOP.out.1 cc5 (fun k hk hm => by have := (HOP.out.1.lt k hk).1; simp only [List.mem_singleton] at hm; omega)).alloc _); have HC5 := Lib.hid (Cells.lit w5 [.slice ao5 m5 c5] 59 (0, 0) 1 1 rfl); have HB5 : Hid (w.heap.size ≤ (w5.alloc (.cells #[.slice ao5 m5 c5] 59)).heap.size) := Lib.hid (Nat.le_trans (Nat.le_trans HD1.out.c.size cc5.size) (by simp)); have H5 := Lib.hid (And.intro o5 (And.intro r5 (And.intro cc5 (And.intro f5 hm5)))); clear o5 r5 cc5 f5 hm5))
          all_goals
            go_wp2_with fail
            refine (rdr_take w0 _ b n _ L _ [44] HN.out.2.r).mono ?_
            rintro e8 wt hr
            obtain ⟨rfl, XT⟩ := hr.out1
            clear hr
            cases hB9 : isT L (exprN L s2).2 [44] with
            | true =>
              rw [takeT, if_pos hB9] at XT
              have HT := Lib.hid (HN.out.2.keep XT.out.1 XT.out.2)
              have hrm := HGO.out hB9
              have hLP := HLP.out
              rw [if_pos hB9] at hLP
              have HLQ := Lib.hid hLP
              have hms : remW L b wt < remW L b wr := by
                rw [HT.out.r.rem, hG.out.1.r.rem]
                exact hrm
              have HMS := Lib.hid hms
              have HQ := Lib.hid hrm
              clear hrm hms hLP
              go_wp2_with fail
              exact ⟨⟨_, m + 1, _, q', _, _, Lib.hid ⟨HT.out, HLQ.out, by have := HQ.out; have := hG.out.2.2.1; omega, by have := HQ.out; have := hG.out.2.2.2.1; omega, HD2.out⟩⟩, HMS.out⟩
            | false =>
              rw [takeT, hB9, if_neg (by simp)] at XT
              have HX1 := Lib.hid (HN.out.2.keep XT.out.1 XT.out.2)
              have hLP := HLP.out
              rw [hB9, if_neg (by simp)] at hLP
              have hst := Lib.hid hLP.symm
              clear hLP
              go_wp2_with fail
              refine (rdr_want w0 _ b n _ L (exprN L s2).2 [41] HX1.out.r).mono ?_
              rintro e9 w9 hr
              obtain ⟨rfl, X9⟩ := hr.out1
              clear hr
              have HE9 := Lib.hid (HX1.out.keep X9.out.1 X9.out.2)
              have HZ := HE9
              have hmz : (m + 1) ≤ 100000 := by omega
              go_wp2_with (first | (refine wpList_load_row rfl 63 (.tmp 3) rfl w.heap.size rfl _ _ _ _ HZ.out.sb Tryz.underlying63 rfl (stmt_info _ _ _ _ _) ?_) | (refine wpList_store_row rfl 63 (.tmp 4) (.tmp 55) rfl (w.heap.size + 1) _ rfl rfl _ _ HZ.out.z (stmt_info _ _ _ _ _) rfl HZ.out.ones ?_))
              try simp only [Exit.inBlock, Exit.then]
              refine bodyPost_ret (results_cell_row rfl _ _ (w.heap.size + 1) _ _ _ _ rfl (setRow_heap _ (w.heap.size + 1) _ _ _ _ HZ.out.z) Tryz.underlying63 rfl (stmt_info _ _ _ _ _)) rfl ?_
              have hRR := HR.out
              simp only [hB, if_true] at hRR
              rw [← hRR]
              have hao : argsOf L s1 = (acc ++ [(exprN L s2).1], (exprN L s2).2) := by unfold argsOf; rw [hI, if_neg (by simp), HRL.out, hst.out]
              rw [hS1, hao]
              exact HZ.out.told hmz _ rfl rfl rfl
        · have he2 : (s2.e == 0) = false := by simpa using he
          have hst : RL = (acc, s2) := by
            have := hG.out.2.1
            unfold listLoop at this
            rw [if_pos he] at this
            exact this.symm
          have hmm := hG.out.2.2.2.1
          have hG1 := Lib.hid hG.out.1
          go_wp2_with fail
          refine (rdr_want w0 _ b n _ L s2 [41] hG1.out.r).mono ?_
          rintro e9 w9 hr
          obtain ⟨rfl, X9⟩ := hr.out1
          clear hr
          have HE9 := Lib.hid (hG1.out.keep X9.out.1 X9.out.2)
          have HZ := HE9
          have hmz : m ≤ 100000 := by omega
          go_wp2_with (first | (refine wpList_load_row rfl 63 (.tmp 3) rfl w.heap.size rfl _ _ _ _ HZ.out.sb Tryz.underlying63 rfl (stmt_info _ _ _ _ _) ?_) | (refine wpList_store_row rfl 63 (.tmp 4) (.tmp 55) rfl (w.heap.size + 1) _ rfl rfl _ _ HZ.out.z (stmt_info _ _ _ _ _) rfl HZ.out.ones ?_))
          try simp only [Exit.inBlock, Exit.then]
          refine bodyPost_ret (results_cell_row rfl _ _ (w.heap.size + 1) _ _ _ _ rfl (setRow_heap _ (w.heap.size + 1) _ _ _ _ HZ.out.z) Tryz.underlying63 rfl (stmt_info _ _ _ _ _)) rfl ?_
          have hRR := HR.out
          simp only [hB, if_true] at hRR
          rw [← hRR]
          have hao : argsOf L s1 = (acc, s2) := by unfold argsOf; rw [hI, if_neg (by simp), HRL.out, hst]
          rw [hS1, hao]
          exact HZ.out.told hmz _ rfl rfl rfl

end Go.Proofs.YtlgfijjkbomejaaGreatDoor
