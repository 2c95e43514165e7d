/- The reference's NewDisk; are two lists of files one? Numbers and types by name. -/
import Derived.Test.YtmpjjnjggiipjaaRo
import Derived.Test.YtmpjjnjggiipjaaMvs
/- The reference's Cut. Numbers and types by name. -/
namespace Go.Proofs.Ytmpjjnjggiipjaa
open Go.RowKit Go.Maps Go.Sort Go.WideMaps

/-- append([]byte{}, b...): new memory, what was there is as it was. -/
theorem run_append_clone (ty : TypeId) (base : Nat) (z : Addr) (vb : Value) (m : Nat) (k : List UInt8) (w : World) (hown : Bs w base (.slice (some z) 0 0) 0 []) (hm : m = k.length) (hr : Reads w vb (bv k)) (h63 : m ≤ 1000000000) (hbase : base ≤ w.heap.size) :
    ∃ ao c w', (Builtin.append_ #[33, 33] ty #[.slice (some z) 0 0, vb]).run Try.prog w = .ok (.slice ao m c) w' ∧ Bs w' base (.slice ao m c) m k ∧ Grow w w' := by
  obtain ⟨i0, hi, hz0, hz1, hz2⟩ := info_parts info_byte
  obtain ⟨ab, cb, rfl, h0, h1, h2⟩ := hr
  rw [bv_length] at *
  subst hm
  rcases Nat.eq_zero_or_pos k.length with e | hpos
  · have hk : k = [] := List.eq_nil_of_length_eq_zero e
    subst hk
    refine ⟨some z, 0, w, ?_, hown, Grow.refl w⟩
    have hfc : (Builtin.firstCells 1 0 (.slice ab 0 cb)).run Try.prog w = .ok #[] w := by
      cases ab with
      | none => exact run_firstCells_none w 1 0 0 cb
      | some a => exact run_firstCells_some w 1 0 a 0 cb [] rfl (fun j v hj => by cases hj)
    cases ab <;> simp [hfc, Builtin.append_, run_underlying Try.underlying33, sizeOf, typeInfo, hi, hz1, storeCells, Builtin.lenOf, loadCells]
  · cases ab with
    | none =>
      have := (h1 rfl).1
      have h3 : (bv k).length = 0 := by rw [this]; rfl
      rw [bv_length] at h3; omega
    | some a =>
      obtain ⟨v', w', hrun, hown', hg⟩ := run_append_arg_grows (P := Try.prog) w 33 ty 5 i0 (.int .u8 0) 1 1 Try.underlying33 hi hz0 hz1 hz2 rfl (by decide) z 0 0 [] rfl (fun j u hj => by cases hj) a k.length cb (bv k) (by rw [bv_length]; omega) (h2 a rfl) (by omega) (by unfold maxLen; omega) (by omega)
      obtain ⟨ao, c, rfl⟩ := owns_shape hown'
      simp only [Nat.zero_add, List.nil_append] at hrun hown'
      exact ⟨ao, c, w', hrun, ⟨rfl, owns_base hown' hbase⟩, below_none hg (Nat.le_refl _)⟩

theorem mvRun_clone {ops : Array Oper} {o : Oper} {a : Act} {w : World} {K : Act → World → Prop} (hgd : o.guard = none) (s x : Operand)
    (ho : o.op = .call { callee := .builtin .append, args := #[s, x], argTypes := #[33, 33] })
    (base : Nat) (z : Addr) (hs : a.eval s = .slice (some z) 0 0) (hown : Bs w base (.slice (some z) 0 0) 0 []) (vb : Value) (m : Nat) (k : List UInt8) (hm : m = k.length) (hx : a.eval x = vb) (hr : Reads w vb (bv k)) (h63 : Hid (m ≤ 1000000000)) (hbase : base ≤ w.heap.size)
    (h : ∀ ao c w', Bs w' base (.slice ao m c) m k → Grow w w' → K (a.put o.dst (.slice ao m c)) w') : mvRun Try.prog ops o K a w := by
  obtain ⟨ao, c, w', hr', h2, h3⟩ := run_append_clone o.type base z vb m k w hown hm hr h63.out hbase
  have hw : Region.wanted o (yielded ops a.tmps) = true := by simp [Region.wanted, hgd]
  unfold mvRun
  rw [if_pos hw]
  unfold execOp
  simp only [ho, resolve, invoke, builtin, Sem.run_bind, Sem.run_pure, Result.andThen_ok, List.map_toArray, List.map_cons, List.map_nil, hs, hx, hr', mvUpon]
  exact h ao c w' h2 h3

set_option maxRecDepth 100000 in
set_option maxHeartbeats 4000000 in
theorem ref_cut (r : Nat) (M : MD) (F G : List Nat) (name : ByteArray) (n : Int) (w : World) (h : RD w r M F G) (hl : Lim M) :
    Calls Try.prog 23 #[theRef r, .string name, .int .i64 n] w (Left (RActed w r M F G (opCut name.data.toList n))) := by
  have hll := hl.fs.len
  have hlt := hl.fs.tot
  have hri := h.1.rising
  obtain ⟨ok, er, M1, HM, HGt⟩ := gated r M F G w h hl
  clear h
  unfold theRef
  cases ok with
  | false =>
    go_enter Try.func23, Try.ntmps23
    go_wp2_with fail
    refine HGt.out.mono ?_
    rintro e w1 ⟨rfl, hD1, t1⟩
    have HD := Lib.hid (acted_no (op := opCut name.data.toList n) HM.out hD1 t1)
    clear hD1 t1 HGt
    go_wp2_with fail
    go_ret
    exact ⟨er, rfl, HD.out⟩
  | true =>
    cases hf : M.fs.find? (isName name.data.toList) with
    | none =>
      have HPL : Hid (placeE name.data.toList M1.fs = -1) := Lib.hid (by rw [HM.out.fs]; exact place_none hf)
      have HF := Lib.hid hf
      clear hf
      go_enter Try.func23, Try.ntmps23
      go_wp2_with fail
      refine HGt.out.mono ?_
      rintro e w1 ⟨rfl, hD1, t1⟩
      have HD := Lib.hid (acted_same (op := opCut name.data.toList n) (k := 3) HM.out (by unfold opCut; rw [HF.out]) hD1 t1)
      have hT := ref_told r M1 F G 3 w1 hD1
      have hA := ref_at r M1 F G name w1 hD1 (by rw [HM.out.fs]; exact hll)
      rw [HPL.out] at hA
      unfold theRef at hT hA
      clear hD1 t1 HGt
      go_wp2_with fail
      refine hA.mono ?_
      rintro e w2 ⟨rfl, rfl⟩
      clear hA
      go_wp2_with fail
      refine hT.mono ?_
      rintro e w2 ⟨rfl, rfl⟩
      clear hT
      go_wp2_with fail
      go_ret
      exact ⟨_, rfl, HD.out⟩
    | some x =>
      obtain ⟨i, hi, hx, hset, her⟩ := place_some hri hf
      have HPL : Hid (placeE name.data.toList M1.fs = i) := Lib.hid (by rw [HM.out.fs]; exact hi)
      have hi0 : ¬ ((i : Nat) : Int) < 0 := by omega
      have hil := (List.getElem?_eq_some_iff.1 hx).1
      have hxt := tot_mem (List.mem_of_getElem? hx)
      have HF := Lib.hid (And.intro hf (And.intro (hset (fun x => (x.1, x.2.1.take n.toNat, min x.2.2 n.toNat))) hx))
      have i1 : ((i : Nat) : Int) < (M1.fs.length : Int) := by rw [HM.out.fs]; omega
      clear hf hi hx hset her hil
      go_enter Try.func23, Try.ntmps23
      go_wp2_with fail
      refine HGt.out.mono ?_
      rintro e w1 ⟨rfl, hD1, t1⟩
      have HD1 := Lib.hid (And.intro hD1 t1)
      have hA := ref_at r M1 F G name w1 hD1 (by rw [HM.out.fs]; exact hll)
      rw [HPL.out] at hA
      unfold theRef at hA
      have hT := ref_told r M1 F G 1 w1 hD1
      unfold theRef at hT
      obtain ⟨hfit, s, ao, c, xs, hR, hP, hv, hown, hTe, hFF, hnn, hGd⟩ := hD1
      have hxi : M1.fs[i]? = some x := by rw [HM.out.fs]; exact HF.out.2.2
      obtain ⟨ab, cb, q1, q2, q3, hrb, hgb⟩ := hTe.2 i x hxi
      obtain ⟨g, rfl, k2, f2⟩ := row_cell hown (by rw [hTe.1]) q2
      obtain ⟨_, e, k3, f3⟩ := row_cell hown (by rw [hTe.1]) q3
      cases e
      have c5 := hR.c5
      rw [hv] at c5
      have hgw := (hown.lt g rfl).2
      have hgr : g ≠ r := by rintro rfl; exact hnn rfl
      have hgG : g ∉ G := fun hm => (hGd g hm).1 (by rw [hFF]; simp [own_block])
      have HX := Lib.hid (And.intro hfit (And.intro hR (And.intro hP (And.intro hv (And.intro hown (And.intro hTe (And.intro hFF (And.intro hnn (And.intro hGd (And.intro hxi (And.intro hgw (And.intro hgr (And.intro hgG (And.intro q2 (And.intro q3 (And.intro hrb hgb))))))))))))))))
      clear hfit hR hP hv hown hTe hFF hnn hGd t1 HGt q1 q2 q3 hrb hgb hxi hgw hgr hgG
      go_wp2_with fail
      refine hA.mono ?_
      rintro e w2 ⟨rfl, rfl⟩
      clear hA
      by_cases hneg : n < 0
      · have hd1 : decide (n < 0) = true := by simpa using hneg
        have HD := Lib.hid (acted_same (op := opCut name.data.toList n) (k := 1) HM.out (by unfold opCut; rw [HF.out.1]; simp only; rw [if_pos (.inl hneg)]) HD1.out.1 HD1.out.2)
        clear hneg
        go_wp2_with fail
        refine hT.mono ?_
        rintro e w2 ⟨rfl, rfl⟩
        clear hT
        go_wp2_with fail
        go_ret
        exact ⟨_, rfl, HD.out⟩
      · have hd1 : decide (n < 0) = false := by simpa using hneg
        by_cases hbig : (x.2.1.length : Int) < n
        · have HD := Lib.hid (acted_same (op := opCut name.data.toList n) (k := 1) HM.out (by unfold opCut; rw [HF.out.1]; simp only; rw [if_pos (.inr hbig)]) HD1.out.1 HD1.out.2)
          clear hneg
          go_wp2_with fail
          refine hT.mono ?_
          rintro e w2 ⟨rfl, rfl⟩
          clear hT
          go_wp2_with fail
          go_ret
          exact ⟨_, rfl, HD.out⟩
        · clear hT
          go_wp2_with fail
          obtain ⟨q, rfl⟩ : ∃ q : Nat, n = q := ⟨n.toNat, (Int.toNat_of_nonneg (by omega)).symm⟩
          obtain ⟨hfit, hR, hP, hv, hown, hTe, hFF, hnn, hGd, hxi, hgw, hgr, hgG, q2, q3, hrb, hgb⟩ := HX.out
          have hql : q ≤ x.2.1.length := by omega
          have hcb : x.2.1.length ≤ cb := by
            obtain ⟨_, _, e, h0, _⟩ := hrb
            simp only [Value.slice.injEq, bv_length] at e h0
            omega
          have L5 : ∀ w', Grow w1.drew w' → w'.cell? ⟨r, 5, none⟩ = some (.slice (some ⟨g, 0, none⟩) M1.fs.length c) := fun w' hG => (World.cell?_of_block (hG.block _ (World.block_lt_of_cell? w1 _ c5))).trans c5
          have L2 : ∀ w', Grow w1.drew w' → w'.cell? ⟨g, i * 3 + 1, none⟩ = some (.slice ab x.2.1.length cb) := fun w' hG => (World.cell?_of_block (hG.block _ (World.block_lt_of_cell? w1 _ k2))).trans k2
          have z0 : (0 : Int) ≤ (q : Int) := by omega
          have z1 : (q : Int) ≤ (cb : Int) := by omega
          have z2 : q ≤ cb := by omega
          have z3 : ¬ ((i : Nat) : Int) < 0 := by omega
          have z4 : i < M1.fs.length := by omega
          have hs2 : Reads w1 (.slice ab q cb) (bv (x.2.1.take q)) := by have := Reads.taken hrb q hql; rwa [show (bv x.2.1).take q = bv (x.2.1.take q) by simp [bv, List.map_take]] at this
          have HS2 := Lib.hid hs2
          have hgw2 := hgw
          clear hd1 hneg hbig hfit hR hP hv hown hTe hFF hnn hGd hxi q2 q3 hrb hgb hs2
          refine wp_region_mvs 19 [(0, 5, true), (6, 10, true), (5, 1, false), (16, 1, false), (17, 1, false), (18, 1, false), (19, 1, false)] (by kernel_rfl) (by kernel_rfl) ?_
          simp only [mvAll, mvSeg, List.drop_succ_cons, List.drop_zero, List.cons_append, List.nil_append, Nat.reduceAdd]
          iterate 15
            refine wpLins_still ?_ (fun w' hG K hK => ?_) (fun K hK => ?_)
            rotate_left
            · unfold mvVal
              go_simp
              try exact hK
            go_simp
            refine hK _ ?_
            clear hK K
          refine wpLins_call (fun K hK => ?_)
          unfold mvRun
          go_simp
          simp only [mvUpon]
          refine hK _ _ ((Below.refl _ w1.drew).alloc (Nat.le_refl _) _) ?_
          clear hK K
          have F1 : Hid (q ≤ 1000000000) := Lib.hid (by omega)
          have HQL : Hid (q = (x.2.1.take q).length) := Lib.hid (by rw [List.length_take]; omega)
          refine wpLins_call (fun K hK => ?_)
          refine mvRun_clone rfl (.tmp 47) (.tmp 57) rfl w1.heap.size ⟨w1.heap.size, 0, none⟩ (by simp [Act.eval]; rfl) (Bs.empty w1.drew w1.heap.size (Nat.le_refl _)) _ q (x.2.1.take q) HQL.out (by simp [Act.eval]; rfl) (HS2.out.alloc _) F1 (by simp) ?_
          intro ao5 c5' w5 hown5 hg5
          refine hK _ _ hg5 ?_
          clear hK K
          have hb15 : Grow w1.drew w5 := Grow.trans ((Below.refl _ w1.drew).alloc (Nat.le_refl _) _) hg5
          have k25 : w5.cell? ⟨g, i * 3 + 1, none⟩ = some (.slice ab x.2.1.length cb) := L2 w5 hb15
          have f25 : w5.frozen? ⟨g, i * 3 + 1, none⟩ = false := by
            exact (World.frozen?_of_block (hb15.block g hgw2)).trans f2
          iterate 2
            refine wpLins_call (fun K hK => ?_)
            unfold mvRun
            go_simp
            simp only [mvUpon]
            refine hK _ _ (Grow.refl _) ?_
            clear hK K
          refine wpLins_last (fun K hK => ?_)
          unfold mvRun
          go_simp
          simp only [mvUpon]
          refine hK _ _ ?_
          clear hK K
          refine wpLins_nil ?_
          obtain ⟨hfit, hR, hP, hv, hown, hTe, hFF, hnn, hGd, hxi, hgw, hgr, hgG, q2, q3, hrb, hgb⟩ := HX.out
          have hlow : Below w1.heap.size w1 w5 := ⟨hb15.os, hb15.tape, hb15.output, hb15.size, hb15.block⟩
          have t15 := turn_below hlow
          have hR5 := hR.turn t15 (by simp)
          have hown15 := owns_turn hown t15 (by simp)
          have hxl : xs.length = M1.fs.length * 3 := hTe.1
          have hil2 : i * 3 + 1 < xs.length := by omega
          have tS : Turn [g] w5 (w5.setCell ⟨g, i * 3 + 1, none⟩ (.slice ao5 q c5')) := (Turn.refl [g] w5).set (.inl (by simp)) _ _
          have hR6 := hR5.turn tS (by simpa using fun e => hgr e.symm)
          have hown6 := own_set hown15 (i * 3 + 1) (.slice ao5 q c5') hil2
          have q36 : (xs.set (i * 3 + 1) (.slice ao5 q c5'))[i * 3 + 2]? = some (.int .i64 (x.2.2 : Nat)) := by rw [List.getElem?_set_ne (by omega)]; exact q3
          obtain ⟨_, e, d3, g3⟩ := row_cell hown6 (by rw [List.length_set]; exact hxl) q36
          cases e
          have d5 := hR6.c5
          rw [hv] at d5
          have hr6 : Reads (w5.setCell ⟨g, i * 3 + 1, none⟩ (.slice ao5 q c5')) (.slice ao5 (x.2.1.take q).length c5') (bv (x.2.1.take q)) := by
            rw [← HQL.out]
            refine hown5.reads.turn tS fun hne a n c e => ?_
            simp only [Value.slice.injEq] at e
            have hob : (Value.slice ao5 q c5').ownBlock = some a.block := by
              rcases hown5.2.2 with ⟨e2, _⟩ | ⟨g5, _, _, e2, _⟩
              · simp only [Value.slice.injEq] at e2; rw [e2.1] at e; cases e.1
              · simp only [Value.slice.injEq] at e2; rw [e2.1] at e ⊢; cases e.1; rfl
            have := (hown5.2.lt a.block hob).1
            simp only [List.mem_singleton]
            omega
          obtain ⟨H, hH1, hH2⟩ : ∃ H : List Nat, (∀ a, ao5 = some a → a.block ∈ H) ∧ ∀ b ∈ H, w1.heap.size ≤ b ∧ b < w5.heap.size := by
            cases hao : ao5 with
            | none => exact ⟨[], fun a e => (by cases e), by simp⟩
            | some a =>
              refine ⟨[a.block], fun a' e => (by cases e; simp), fun b hb => ?_⟩
              simp only [List.mem_singleton] at hb
              subst hb
              have hob : (Value.slice ao5 q c5').ownBlock = some a.block := by
                rcases hown5.2.2 with ⟨e2, _⟩ | ⟨g5, _, _, e2, _⟩
                · simp only [Value.slice.injEq] at e2; rw [hao] at e2; cases e2.1
                · simp only [Value.slice.injEq] at e2; rw [e2.1] at hao ⊢; cases hao; rfl
              exact hown5.2.lt a.block hob
          have hgH : g ∉ G ++ H := fun hm => by
            rcases List.mem_append.1 hm with hm | hm
            · exact hgG hm
            · have := (hH2 g hm).1; omega
          have hT5 := (hTe.turn t15 (by simp)).more (G' := G ++ H) fun k hk => List.mem_append_left _ hk
          have hT6 := hT5.bytes tS hgH hxi (x.2.1.take q) ao5 c5' hr6 (fun _ a e => List.mem_append_right _ (hH1 a e))
          rw [← HQL.out] at hT6
          have HY := Lib.hid (And.intro hT6 (And.intro hown6 (And.intro (t15.mono (G := [g]) (by simp)) (And.intro tS (And.intro hH2 hgH)))))
          clear hfit hR hP hv hown hTe hFF hnn hGd hxi hgw hgr hgG q2 q3 hrb hgb hlow t15 hR5 hown15 hR6 hown6 q36 hr6 hH1 hH2 hgH hT5 hT6 hxl hil2
          go_wp2_with fail
          generalize w5.setCell ⟨g, i * 3 + 1, none⟩ (.slice ao5 q c5') = w6 at *
          go_still_tail 17, (by kernel_rfl)
          change wpList _ _ _ _ _ w6.drew
          go_wp2_with fail
          obtain ⟨hfit, hR, hP, hv, hown, hTe, hFF, hnn, hGd, hxi, hgw, hgr, hgG, q2, q3, hrb, hgb⟩ := HX.out
          obtain ⟨hT6, hown6, t15, tS, hH2, hgH⟩ := HY.out
          have em : min ((x.2.2 : Nat) : Int) (q : Int) = ((min x.2.2 q : Nat) : Int) := by omega
          rw [em]
          have tD : Turn [g] w6 ((w6.setCell ⟨g, i * 3 + 2, none⟩ (.int .i64 ((min x.2.2 q : Nat) : Int))).drew) := ((Turn.refl [g] w6).set (.inl (by simp)) _ _).drew
          have hxs : (M1.fs.set i (x.1, x.2.1.take q, x.2.2))[i]? = some (x.1, x.2.1.take q, x.2.2) := List.getElem?_set_self (List.getElem?_eq_some_iff.1 hxi).1
          have hT7 := hT6.synced tD hgH hxs (min x.2.2 q)
          simp only [List.set_set] at hT7
          have hown7 := own_set hown6 (i * 3 + 2) (.int .i64 ((min x.2.2 q : Nat) : Int)) (by rw [List.length_set, hTe.1]; omega)
          have tAll := (t15.trans tS).trans tD
          have e5s := tS.size
          have e6s := tD.size
          have hset := HF.out.2.1
          simp only [Int.toNat_natCast] at hset
          have hN := RD.filed (k := i) (y := (x.1, x.2.1.take q, min x.2.2 q)) (G' := G ++ H) hR hP hv rfl (by rw [hFF]; rfl) hgr hgw hGd (by
            rw [HM.out.fs, hset, ← HM.out.fs]
            exact hfit.upd _ (fun _ => rfl) fun y hy _ => by have := hfit.sy y hy; simp only [List.length_take]; omega) tAll hown7 hT7 (fun k hk => List.mem_append_left _ hk) (fun k hk => (List.mem_append.1 hk).imp id fun h => (hH2 k h).1) (fun k hk => (List.mem_append.1 hk).elim (fun h => Nat.lt_of_lt_of_le (hGd k h).2 tAll.size) fun h => by have := (hH2 k h).2; omega)
          obtain ⟨F2, G2, hD2, h2F, h2G, t2⟩ := hN
          rw [HM.out.fs, hset] at hD2
          have hT := ref_told r _ F2 G2 0 _ hD2
          unfold theRef at hT
          refine hT.mono ?_
          rintro e w7 ⟨rfl, hw7⟩
          have HQ := Lib.hid (acted_yes (op := opCut name.data.toList (q : Int)) (k := 0) (fs' := updE name.data.toList (fun x => (x.1, x.2.1.take q, min x.2.2 q)) M.fs) HM.out (by unfold opCut; rw [HF.out.1]; simp only; rw [if_neg (by rintro (h | h) <;> omega)]) (by unfold opCut; rw [HF.out.1]; simp only; rw [if_neg (by rintro (h | h) <;> omega)]; simp only [Int.toNat_natCast]) (RNext.after HD1.out.2 ⟨F2, G2, hD2, h2F, h2G, t2⟩))
          rw [hw7] at HQ
          clear hT hw7 hD2 h2F h2G t2 tAll hown7 hT7 hxs tD hfit hR hP hv hown hTe hFF hnn hGd hxi hgw hgr hgG q2 q3 hrb hgb hT6 hown6 t15 tS hH2 hgH hset em
          go_wp2_with fail
          go_ret
          exact ⟨_, rfl, HQ.out⟩

end Go.Proofs.Ytmpjjnjggiipjaa

/- The reference's Append. Numbers and types by name. -/
namespace Go.Proofs.Ytmpjjnjggiipjaa
open Go.RowKit Go.Maps Go.Sort Go.WideMaps

theorem tot_take_next {fs : List Ent} {j : Nat} {y : Ent} (h : fs[j]? = some y) : tot (fs.take (j + 1)) = tot (fs.take j) + y.2.1.length := by
  rw [List.take_add_one, h]
  simp [tot]
theorem tot_take_le (fs : List Ent) (j : Nat) : tot (fs.take j) ≤ tot fs := by
  have := congrArg tot (List.take_append_drop j fs)
  rw [tot_append] at this
  omega

set_option maxRecDepth 100000 in
set_option maxHeartbeats 4000000 in
theorem ref_append (r : Nat) (M : MD) (F G : List Nat) (name : ByteArray) (vb : Value) (l : List UInt8) (w : World) (h : RD w r M F G) (hl : Lim M) (hcap : M.cap ≤ 9223372036854775807) (hr : Reads w vb (bv l)) (hll2 : l.length ≤ 50000000) (hvb : l ≠ [] → ∀ a n c, vb = .slice (some a) n c → a.block ∉ F) :
    Calls Try.prog 20 #[theRef r, .string name, vb] w (Left (RActed w r M F G (opAppend name.data.toList l))) := by
  have hll := hl.fs.len
  have hlt := hl.fs.tot
  have hri := h.1.rising
  have hrF := h.lt.1
  obtain ⟨avb, cvb, rfl⟩ : ∃ ao c, vb = .slice ao l.length c := by obtain ⟨ao, c, rfl, _⟩ := hr; exact ⟨ao, c, by rw [bv_length]⟩
  obtain ⟨ok, er, M1, HM, HGt⟩ := gated r M F G w h hl
  obtain ⟨lb, hlb⟩ : ∃ lb, lb = l.length := ⟨_, rfl⟩
  rw [← hlb] at hr hvb hll2 ⊢
  have HLB := Lib.hid (And.intro hlb (And.intro hr hvb))
  clear h hlb hr hvb
  unfold theRef
  cases ok with
  | false =>
    go_enter Try.func20, Try.ntmps20
    go_wp2_with fail
    refine HGt.out.mono ?_
    rintro e w1 ⟨rfl, hD1, t1⟩
    have HD := Lib.hid (acted_no (op := opAppend name.data.toList l) HM.out hD1 t1)
    clear hD1 t1 HGt
    go_wp2_with fail
    go_ret
    exact ⟨er, rfl, HD.out⟩
  | true =>
    cases hf : M.fs.find? (isName name.data.toList) with
    | none =>
      have HPL : Hid (placeE name.data.toList M1.fs = -1) := Lib.hid (by rw [HM.out.fs]; exact place_none hf)
      have HF := Lib.hid hf
      clear hf
      go_enter Try.func20, Try.ntmps20
      go_wp2_with fail
      refine HGt.out.mono ?_
      rintro e w1 ⟨rfl, hD1, t1⟩
      have HD := Lib.hid (acted_same (op := opAppend name.data.toList l) (k := 3) HM.out (by unfold opAppend; rw [HF.out]) hD1 t1)
      have hT := ref_told r M1 F G 3 w1 hD1
      have hA := ref_at r M1 F G name w1 hD1 (by rw [HM.out.fs]; exact hll)
      rw [HPL.out] at hA
      unfold theRef at hT hA
      clear hD1 t1 HGt
      go_wp2_with fail
      refine hA.mono ?_
      rintro e w2 ⟨rfl, rfl⟩
      clear hA
      go_wp2_with fail
      refine hT.mono ?_
      rintro e w2 ⟨rfl, rfl⟩
      clear hT
      go_wp2_with fail
      go_ret
      exact ⟨_, rfl, HD.out⟩
    | some x =>
      obtain ⟨i, hi, hx, hset, her⟩ := place_some hri hf
      have HPL : Hid (placeE name.data.toList M1.fs = i) := Lib.hid (by rw [HM.out.fs]; exact hi)
      have hi0 : ¬ ((i : Nat) : Int) < 0 := by omega
      have hil := (List.getElem?_eq_some_iff.1 hx).1
      have hxt := tot_mem (List.mem_of_getElem? hx)
      have HF := Lib.hid (And.intro hf (And.intro (hset (fun x => (x.1, x.2.1 ++ l, x.2.2))) hx))
      obtain ⟨n, hn⟩ : ∃ n, n = M1.fs.length := ⟨_, rfl⟩
      have HN := Lib.hid hn
      have i1 : ((i : Nat) : Int) < (n : Int) := by rw [hn, HM.out.fs]; omega
      have hln : n < 900000 := by rw [hn, HM.out.fs]; exact hll
      clear hf hi hx hset her hil
      go_enter Try.func20, Try.ntmps20
      go_wp2_with fail
      refine HGt.out.mono ?_
      rintro e w1 ⟨rfl, hD1, t1⟩
      have HD1 := Lib.hid (And.intro hD1 t1)
      have hA := ref_at r M1 F G name w1 hD1 (by rw [HM.out.fs]; exact hll)
      rw [HPL.out] at hA
      unfold theRef at hA
      have hT := ref_told r M1 F G 5 w1 hD1
      unfold theRef at hT
      have hvr : Reads w1 (.slice avb lb cvb) (bv l) := HLB.out.2.1.turn t1 fun hne a n c e => HLB.out.2.2 (by intro e2; rw [e2] at hne; exact hne rfl) a n c e
      obtain ⟨hfit, s, ao, c, xs, hR, hP, hv, hown, hTe, hFF, hnn, hGd⟩ := hD1
      have hxi : M1.fs[i]? = some x := by rw [HM.out.fs]; exact HF.out.2.2
      obtain ⟨ab, cb, q1, q2, q3, hrb, hgb⟩ := hTe.2 i x hxi
      obtain ⟨g, rfl, k2, f2⟩ := row_cell hown (by rw [hTe.1]) q2
      have c5 := hR.c5
      have c0 := hR.c0
      rw [hv, ← hn] at c5
      rw [hP.cap, HM.out.cap] at c0
      have hgw := (hown.lt g rfl).2
      have hgr : g ≠ r := by rintro rfl; exact hnn rfl
      have hgG : g ∉ G := fun hm => (hGd g hm).1 (by rw [hFF]; simp [own_block])
      have HX := Lib.hid (And.intro hfit (And.intro hR (And.intro hP (And.intro hv (And.intro hown (And.intro hTe (And.intro hFF (And.intro hnn (And.intro hGd (And.intro hxi (And.intro hgw (And.intro hgr (And.intro hgG (And.intro q2 (And.intro hvr (And.intro hrb hgb))))))))))))))))
      clear hfit hR hP hv hown hTe hFF hnn hGd t1 HGt q1 q2 q3 hrb hgb hxi hgw hgr hgG hvr hn hrF
      go_wp2_with fail
      refine hA.mono ?_
      rintro e w2 ⟨rfl, rfl⟩
      clear hA
      by_cases hneg : M.cap < 0
      · have HD := Lib.hid (acted_same (op := opAppend name.data.toList l) (k := 5) HM.out (by unfold opAppend; rw [HF.out.1]; simp only; rw [if_pos (by omega)]) HD1.out.1 HD1.out.2)
        go_wp2_with fail
        refine hT.mono ?_
        rintro e w2 ⟨rfl, rfl⟩
        clear hT
        go_wp2_with fail
        go_ret
        exact ⟨_, rfl, HD.out⟩
      · go_wp2_with fail
        go_loopw [10, 11] (fun rv iv wr => ∃ j : Nat, j ≤ n ∧ iv = .int .i64 j ∧ rv = .int .i64 (M.cap - (tot (M.fs.take j) : Nat)) ∧ w1 = wr)
          (fun _ iv _ => n - (intOf iv).toNat)
        case atStart => exact ⟨0, Nat.zero_le _, rfl, by simp [tot], rfl⟩
        case round =>
          obtain ⟨j, hj, rfl, rfl, rfl⟩ := hrel
          have hle := tot_take_le M.fs j
          by_cases h1 : j < n
          · have h3 : (j : Int) < (n : Int) := by omega
            obtain ⟨y, hy⟩ : ∃ y, M.fs[j]? = some y := ⟨_, List.getElem?_eq_getElem (by have := HN.out; rw [HM.out.fs] at this; omega)⟩
            obtain ⟨_, _, p1, p2, _⟩ := HX.out.2.2.2.2.2.1.2 j y (by rw [HM.out.fs]; exact hy)
            obtain ⟨_, e, m2, _⟩ := row_cell HX.out.2.2.2.2.1 (by rw [HX.out.2.2.2.2.2.1.1]) p2
            cases e
            have hnx := tot_take_next hy
            have hle2 := tot_take_le M.fs (j + 1)
            have hu : wrap64 (M.cap - (tot (M.fs.take j) : Nat) - (y.2.1.length : Nat)) = M.cap - (tot (M.fs.take (j + 1)) : Nat) := by rw [wrap64_id _ (by omega)]; omega
            have HU := Lib.hid (And.intro hu hnx)
            clear hy p1 p2 hu hnx hT
            generalize tot (M.fs.take j) = tj at *
            go_wp2_with fail
            refine ⟨⟨j + 1, by omega, by simp, ?_, trivial⟩, by simp [intOf]; omega⟩
            have h1 := HU.out.2
            have e : M.cap - (tj : Int) - (y.2.1.length : Nat) = M.cap - (tot (M.fs.take (j + 1)) : Nat) := by omega
            rw [e, wrap64_id _ (by omega)]
          · have h3 : ¬ (j : Int) < (n : Int) := by omega
            obtain rfl : j = n := by omega
            have hkL : M.fs.take j = M.fs := List.take_of_length_le (by have := HN.out; rw [HM.out.fs] at this; omega)
            rw [hkL] at hle ⊢
            clear hkL h1 hle
            obtain ⟨T, hTT⟩ : ∃ T, T = tot M.fs := ⟨_, rfl⟩
            have HTT := Lib.hid hTT
            rw [← hTT] at hlt hxt ⊢
            clear hTT
            by_cases hbig : M.cap - (T : Nat) < (lb : Int)
            · have HD := Lib.hid (acted_same (op := opAppend name.data.toList l) (k := 5) HM.out (by unfold opAppend; rw [HF.out.1]; simp only; rw [if_pos (by rw [← HTT.out, ← HLB.out.1]; omega)]) HD1.out.1 HD1.out.2)
              go_wp2_with fail
              refine hT.mono ?_
              rintro e w2 ⟨rfl, rfl⟩
              clear hT
              go_wp2_with fail
              go_ret
              exact ⟨_, rfl, HD.out⟩
            · clear hT
              have c5' := fun o => cell_new c5 o
              have k2' := fun o => cell_new k2 o
              obtain ⟨q, hq⟩ : ∃ q, q = x.2.1.length := ⟨_, rfl⟩
              have HQ1 := Lib.hid hq
              rw [← hq] at k2 k2' hxt
              have hqr : Hid (Reads w1 (.slice ab q cb) (bv x.2.1)) := Lib.hid (by rw [hq]; exact HX.out.2.2.2.2.2.2.2.2.2.2.2.2.2.2.2.1)
              clear hq
              have F1 : Hid (q ≤ maxLen) := Lib.hid (by unfold maxLen; omega)
              have F2 : Hid (q * 1 ≤ 140737488355328) := Lib.hid (by omega)
              have F3 : Hid (q + lb ≤ maxLen) := Lib.hid (by unfold maxLen; omega)
              have F4 : Hid ((q + lb) * 1 ≤ 140737488355328) := Lib.hid (by omega)
              have hvr : Hid (Reads w1 (.slice avb lb cvb) (bv l)) := Lib.hid HX.out.2.2.2.2.2.2.2.2.2.2.2.2.2.2.1
              have hgw := HX.out.2.2.2.2.2.2.2.2.2.2.1
              have hrw := HX.out.2.1.lt
              go_wp2_with (first | (at_builtin; refine wpList_append_bytes rfl (.tmp 63) (.tmp 71) rfl w1.heap.size _ 0 [] rfl (Bs.empty w1 w1.heap.size (Nat.le_refl _)) _ q x.2.1 HQ1.out rfl (hqr.out.alloc _) q (Nat.zero_add q).symm F1 F2 (by simp) ?_; intro ao5 cc5 w5 hown5 hb5; have hb15 : Below w1.heap.size w1 w5 := ((Below.refl _ w1).alloc (Nat.le_refl _) _).trans hb5; clear hb5) | (at_builtin; refine wpList_append_bytes rfl (.tmp 73) (.tmp 74) rfl w1.heap.size _ q _ rfl hown5 _ lb l HLB.out.1 rfl (hvr.out.later hb15) (q + lb) rfl F3 F4 hb15.size ?_; intro ao6 cc6 w6 hown6 hb6; have hb16 : Below w1.heap.size w1 w6 := hb15.trans hb6; have c56 : w6.cell? ⟨r, 5, none⟩ = some (.slice (some ⟨g, 0, none⟩) j c) := (World.cell?_of_block (hb16.block _ hrw)).trans c5; have k26 : w6.cell? ⟨g, i * 3 + 1, none⟩ = some (.slice ab q cb) := (World.cell?_of_block (hb16.block _ hgw)).trans k2; have f26 : w6.frozen? ⟨g, i * 3 + 1, none⟩ = false := (World.frozen?_of_block (hb16.block _ hgw)).trans f2; have HY := Lib.hid (And.intro hown6 hb16); clear hown5 hown6 hb15 hb6 hb16))
              obtain ⟨hfit, hR, hP, hv, hown, hTe, hFF, hnn, hGd, hxi, _, hgr, hgG, q2, _, hrb, hgb⟩ := HX.out
              obtain ⟨hown6, hb16⟩ := HY.out
              have t16 := turn_below hb16
              have hown16 := owns_turn hown t16 (by simp)
              have hlen6 : q + lb = (x.2.1 ++ l).length := by rw [List.length_append, ← HQ1.out, ← HLB.out.1]
              have tS : Turn [g] w6 (w6.setCell ⟨g, i * 3 + 1, none⟩ (.slice ao6 (q + lb) cc6)) := (Turn.refl [g] w6).set (.inl (by simp)) _ _
              have hob : ∀ a, ao6 = some a → (Value.slice ao6 (q + lb) cc6).ownBlock = some a.block := by
                intro a hao
                rcases hown6.2.2 with ⟨e2, _⟩ | ⟨g5, _, _, e2, _⟩
                · simp only [Value.slice.injEq] at e2; rw [hao] at e2; cases e2.1
                · simp only [Value.slice.injEq] at e2; rw [e2.1] at hao ⊢; cases hao; rfl
              obtain ⟨H, hH1, hH2⟩ : ∃ H : List Nat, (∀ a, ao6 = some a → a.block ∈ H) ∧ ∀ b ∈ H, w1.heap.size ≤ b ∧ b < w6.heap.size := by
                cases hao : ao6 with
                | none => exact ⟨[], fun a e => (by cases e), by simp⟩
                | some a =>
                  refine ⟨[a.block], fun a' e => (by cases e; simp), fun b hb => ?_⟩
                  simp only [List.mem_singleton] at hb
                  subst hb
                  exact hown6.2.lt a.block (hob a hao)
              have hgH : g ∉ G ++ H := fun hm => by
                rcases List.mem_append.1 hm with hm | hm
                · exact hgG hm
                · have := (hH2 g hm).1; omega
              have hr6 : Reads (w6.setCell ⟨g, i * 3 + 1, none⟩ (.slice ao6 (q + lb) cc6)) (.slice ao6 (x.2.1 ++ l).length cc6) (bv (x.2.1 ++ l)) := by
                rw [← hlen6]
                refine hown6.reads.turn tS fun hne a n c e => ?_
                simp only [Value.slice.injEq] at e
                have := (hown6.2.lt a.block (hob a e.1)).1
                simp only [List.mem_singleton]
                omega
              have hT5 := (hTe.turn t16 (by simp)).more (G' := G ++ H) fun k hk => List.mem_append_left _ hk
              have hT6 := hT5.bytes tS hgH hxi (x.2.1 ++ l) ao6 cc6 hr6 (fun _ a e => List.mem_append_right _ (hH1 a e))
              rw [← hlen6] at hT6
              have hown7 := own_set hown16 (i * 3 + 1) (.slice ao6 (q + lb) cc6) (by have := (List.getElem?_eq_some_iff.1 q2).1; omega)
              have tAll := (t16.mono (G := [g]) (by simp)).trans tS
              have e6s := tS.size
              have hN := RD.filed (k := i) (y := (x.1, x.2.1 ++ l, x.2.2)) (G' := G ++ H) hR hP hv rfl (by rw [hFF]; rfl) hgr hgw hGd (by
                rw [HM.out.fs, HF.out.2.1, ← HM.out.fs]
                exact hfit.upd _ (fun _ => rfl) fun y hy _ => by have := hfit.sy y hy; simp only [List.length_append]; omega) tAll (by rw [← HN.out] at hown7 ⊢; exact hown7) hT6 (fun k hk => List.mem_append_left _ hk) (fun k hk => (List.mem_append.1 hk).imp id fun h => (hH2 k h).1) (fun k hk => (List.mem_append.1 hk).elim (fun h => Nat.lt_of_lt_of_le (hGd k h).2 tAll.size) fun h => by have := (hH2 k h).2; omega)
              obtain ⟨F2', G2, hD2, h2F, h2G, t2⟩ := hN
              rw [HM.out.fs, HF.out.2.1] at hD2
              have hT := ref_told r _ F2' G2 0 _ hD2
              unfold theRef at hT
              refine hT.mono ?_
              rintro e w7 ⟨rfl, hw7⟩
              have HQ := Lib.hid (acted_yes (op := opAppend name.data.toList l) (k := 0) (fs' := updE name.data.toList (fun x => (x.1, x.2.1 ++ l, x.2.2)) M.fs) HM.out (by unfold opAppend; rw [HF.out.1]; simp only; rw [if_neg (by rw [← HTT.out, ← HLB.out.1]; omega)]) (by unfold opAppend; rw [HF.out.1]; simp only; rw [if_neg (by rw [← HTT.out, ← HLB.out.1]; omega)]) (RNext.after HD1.out.2 ⟨F2', G2, hD2, h2F, h2G, t2⟩))
              rw [hw7] at HQ
              clear hT hw7 hD2 h2F h2G t2 tAll hown7 hT6 hT5 hfit hR hP hv hown hTe hFF hnn hGd hxi hgr hgG q2 hrb hgb hown6 t16 tS hH1 hH2 hgH hown16 hob hr6 hb16 hlen6
              go_wp2_with fail
              go_ret
              exact ⟨_, rfl, HQ.out⟩

end Go.Proofs.Ytmpjjnjggiipjaa

/- The reference's Restart. Numbers and types by name. -/
namespace Go.Proofs.Ytmpjjnjggiipjaa
open Go.RowKit Go.Maps Go.Sort Go.WideMaps

theorem resE_at {keep : List Int} {fs : List Ent} {j : Nat} {x : Ent} (hx : fs[j]? = some x) : (resE keep fs j)[j]? = some x := by
  unfold resE
  rw [List.getElem?_mapIdx, hx]
  simp
theorem resE_set {keep : List Int} {fs : List Ent} {j : Nat} {x : Ent} (hx : fs[j]? = some x) : (resE keep fs j).set j (survE (keep.getD j 0) x) = resE keep fs (j + 1) := by
  have hlt := (List.getElem?_eq_some_iff.1 hx).1
  apply List.ext_getElem?
  intro i
  unfold resE
  by_cases hij : i = j
  · subst hij
    rw [List.getElem?_set_self (by simpa using hlt), List.getElem?_mapIdx, hx]
    simp
  · rw [List.getElem?_set_ne (fun e => hij e.symm), List.getElem?_mapIdx, List.getElem?_mapIdx]
    cases fs[i]? with
    | none => rfl
    | some y =>
      simp only [Option.map_some, Option.some.injEq]
      by_cases h1 : i < j
      · rw [if_pos h1, if_pos (by omega)]
      · rw [if_neg h1, if_neg (by omega)]
theorem resE_zero (keep : List Int) (fs : List Ent) : resE keep fs 0 = fs := by
  unfold resE
  apply List.ext_getElem?
  intro i
  rw [List.getElem?_mapIdx]
  cases fs[i]? <;> simp
theorem resE_length (keep : List Int) (fs : List Ent) (j : Nat) : (resE keep fs j).length = fs.length := by simp [resE]

/-- One file behind a crash: the round's two stores. -/
theorem RD.rounded {w w5 : World} {r n c g j q c5 : Nat} {M : MD} {F G : List Nat} {s : RS} {xs : List Value} {x : Ent} {ao5 : Option Addr} (hR : RefC w r s) (hP : RP w s M G) (hv : s.fv = .slice (some ⟨g, 0, none⟩) n c) (hn : n = M.fs.length) (hF : F = [r, g]) (hne : g ≠ r) (hGd : ∀ q ∈ G, q ∉ F ∧ q < w.heap.size)
    (hown : w.ownsRow 0 79 3 (.slice (some ⟨g, 0, none⟩) n c) n xs) (hT : TellR w G xs M.fs) (hx : M.fs[j]? = some x) (hfit : Fit (M.fs.set j (x.1, x.2.1.take q, q))) (hq : q ≤ x.2.1.length) (hb5 : Below w.heap.size w w5) (hown5 : Bs w5 w.heap.size (.slice ao5 q c5) q (x.2.1.take q)) :
    RefC (w5.setCell ⟨g, j * 3 + 1, none⟩ (.slice ao5 q c5)) r s ∧ (w5.setCell ⟨g, j * 3 + 1, none⟩ (.slice ao5 q c5)).cell? ⟨g, j * 3 + 1, none⟩ = some (.slice ao5 q c5) ∧
    (w5.setCell ⟨g, j * 3 + 1, none⟩ (.slice ao5 q c5)).cell? ⟨g, j * 3 + 2, none⟩ = some (.int .i64 (x.2.2 : Nat)) ∧ (w5.setCell ⟨g, j * 3 + 1, none⟩ (.slice ao5 q c5)).frozen? ⟨g, j * 3 + 2, none⟩ = false ∧
    ∃ G2, RD (((w5.setCell ⟨g, j * 3 + 1, none⟩ (.slice ao5 q c5)).drew).setCell ⟨g, j * 3 + 2, none⟩ (.int .i64 (q : Nat))) r { M with fs := M.fs.set j (x.1, x.2.1.take q, q) } F G2 ∧ (∀ k ∈ G2, k ∈ G ∨ w.heap.size ≤ k) ∧ Turn [g] w (((w5.setCell ⟨g, j * 3 + 1, none⟩ (.slice ao5 q c5)).drew).setCell ⟨g, j * 3 + 2, none⟩ (.int .i64 (q : Nat))) := by
  subst hn hF
  have t15 := turn_below hb5
  have hgw := (hown.lt g rfl).2
  have hR5 := hR.turn t15 (by simp)
  have hown15 := owns_turn hown t15 (by simp)
  have hxl : xs.length = M.fs.length * 3 := hT.1
  have hjl := (List.getElem?_eq_some_iff.1 hx).1
  obtain ⟨ab, cb, q1, q2, q3, _⟩ := hT.2 j x hx
  have hgG : g ∉ G := fun hm => (hGd g hm).1 (by simp)
  have tS : Turn [g] w5 (w5.setCell ⟨g, j * 3 + 1, none⟩ (.slice ao5 q c5)) := (Turn.refl [g] w5).set (.inl (by simp)) _ _
  have hR6 := hR5.turn tS (by simpa using fun e => hne e.symm)
  have hown6 := own_set hown15 (j * 3 + 1) (.slice ao5 q c5) (by omega)
  have q26 : (xs.set (j * 3 + 1) (.slice ao5 q c5))[j * 3 + 1]? = some (.slice ao5 q c5) := List.getElem?_set_self (by omega)
  have q36 : (xs.set (j * 3 + 1) (.slice ao5 q c5))[j * 3 + 2]? = some (.int .i64 (x.2.2 : Nat)) := by rw [List.getElem?_set_ne (by omega)]; exact q3
  obtain ⟨_, e, d2, _⟩ := row_cell hown6 (by rw [List.length_set]; exact hxl) q26
  cases e
  obtain ⟨_, e, d3, g3⟩ := row_cell hown6 (by rw [List.length_set]; exact hxl) q36
  cases e
  have hql : q = (x.2.1.take q).length := by rw [List.length_take]; omega
  have hob : ∀ a, ao5 = some a → (Value.slice ao5 q c5).ownBlock = some a.block := by
    intro a hao
    rcases hown5.2.2 with ⟨e2, _⟩ | ⟨g5, _, _, e2, _⟩
    · simp only [Value.slice.injEq] at e2; rw [hao] at e2; cases e2.1
    · simp only [Value.slice.injEq] at e2; rw [e2.1] at hao ⊢; cases hao; rfl
  have hr6 : Reads (w5.setCell ⟨g, j * 3 + 1, none⟩ (.slice ao5 q c5)) (.slice ao5 (x.2.1.take q).length c5) (bv (x.2.1.take q)) := by
    rw [← hql]
    refine hown5.reads.turn tS fun hne a n c e => ?_
    simp only [Value.slice.injEq] at e
    have := (hown5.2.lt a.block (hob a e.1)).1
    simp only [List.mem_singleton]
    omega
  obtain ⟨H, hH1, hH2⟩ : ∃ H : List Nat, (∀ a, ao5 = some a → a.block ∈ H) ∧ ∀ b ∈ H, w.heap.size ≤ b ∧ b < w5.heap.size := by
    cases hao : ao5 with
    | none => exact ⟨[], fun a e => (by cases e), by simp⟩
    | some a =>
      refine ⟨[a.block], fun a' e => (by cases e; simp), fun b hb => ?_⟩
      simp only [List.mem_singleton] at hb
      subst hb
      exact hown5.2.lt a.block (hob a hao)
  have hgH : g ∉ G ++ H := fun hm => by
    rcases List.mem_append.1 hm with hm | hm
    · exact hgG hm
    · have := (hH2 g hm).1; omega
  have hT5 := (hT.turn t15 (by simp)).more (G' := G ++ H) fun k hk => List.mem_append_left _ hk
  have hT6 := hT5.bytes tS hgH hx (x.2.1.take q) ao5 c5 hr6 (fun _ a e => List.mem_append_right _ (hH1 a e))
  rw [← hql] at hT6
  have tD : Turn [g] (w5.setCell ⟨g, j * 3 + 1, none⟩ (.slice ao5 q c5)) (((w5.setCell ⟨g, j * 3 + 1, none⟩ (.slice ao5 q c5)).drew).setCell ⟨g, j * 3 + 2, none⟩ (.int .i64 (q : Nat))) := (Turn.refl [g] _).drew.set (.inl (by simp)) _ _
  have hxs : (M.fs.set j (x.1, x.2.1.take q, x.2.2))[j]? = some (x.1, x.2.1.take q, x.2.2) := List.getElem?_set_self hjl
  have hT7 := hT6.synced tD hgH hxs q
  simp only [List.set_set] at hT7
  have hown7 := own_set (show (w5.setCell ⟨g, j * 3 + 1, none⟩ (.slice ao5 q c5)).drew.ownsRow 0 79 3 _ _ _ from hown6) (j * 3 + 2) (.int .i64 (q : Nat)) (by rw [List.length_set]; omega)
  have tAll := ((t15.mono (G := [g]) (by simp)).trans tS).trans tD
  have e5s := tS.size
  have e6s := tD.size
  obtain ⟨F2, G2, hD2, h2F, h2G, t2⟩ := RD.filed (k := j) (y := (x.1, x.2.1.take q, q)) (G' := G ++ H) hR hP hv rfl rfl hne hgw hGd hfit tAll hown7 hT7 (fun k hk => List.mem_append_left _ hk) (fun k hk => (List.mem_append.1 hk).imp id fun h => (hH2 k h).1) (fun k hk => (List.mem_append.1 hk).elim (fun h => Nat.lt_of_lt_of_le (hGd k h).2 tAll.size) fun h => by have := (hH2 k h).2; omega)
  have hF2 : F2 = [r, g] := by
    obtain ⟨_, s2, ao2, c2, xs2, hR2, hP2, hv2, hown2, hTe2, hF2, _⟩ := hD2
    have hR7 := (hR6.turn tD (by simpa using fun e => hne e.symm)).c5
    rw [hR2.c5] at hR7
    simp only [Option.some.injEq] at hR7
    rw [hR7, hv] at hv2
    simp only [Value.slice.injEq] at hv2
    rw [hF2, ← hv2.1]
    rfl
  refine ⟨hR6, d2, d3, g3, G2, by rw [← hF2]; exact hD2, fun k hk => ?_, tAll⟩
  rcases h2G k hk with h | h | h
  · exact .inl h
  · cases h
  · exact .inr h

end Go.Proofs.Ytmpjjnjggiipjaa

/- The reference's Restart: the walk. Numbers and types by name. -/
namespace Go.Proofs.Ytmpjjnjggiipjaa
open Go.RowKit Go.Maps Go.Sort Go.WideMaps

set_option maxRecDepth 100000 in
set_option maxHeartbeats 4000000 in
theorem ref_restart (r : Nat) (M : MD) (F G : List Nat) (cap cr : Int) (dn : Bool) (fl kp : Value) (zs ks : List Int) (w : World) (h : RD w r M F G) (hl : Lim M) (hrf : Reads w fl (iv zs)) (hrk : Reads w kp (iv ks)) (P : List Nat)
    (hfP : zs ≠ [] → ∀ a n c, fl = .slice (some a) n c → a.block ∈ P) (hkP : ks ≠ [] → ∀ a n c, kp = .slice (some a) n c → a.block ∈ P) (hPd : ∀ q ∈ P, q ∉ F ∧ q < w.heap.size) :
    Calls Try.prog 28 #[theRef r, .agg #[.int .i64 cap, fl, .int .i64 cr, .bool dn, kp]] w fun e w' => e = .returned (.tuple #[]) ∧ RNext w w' r (M.restart cap cr dn zs ks) F G P := by
  obtain ⟨afl, cfl, rfl⟩ : ∃ ao c, fl = .slice ao zs.length c := by obtain ⟨ao, c, rfl, _⟩ := hrf; exact ⟨ao, c, by rw [iv_length]⟩
  obtain ⟨akp, ckp, rfl⟩ : ∃ ao c, kp = .slice ao ks.length c := by obtain ⟨ao, c, rfl, _⟩ := hrk; exact ⟨ao, c, by rw [iv_length]⟩
  have hlt := hl.fs.tot
  have hll := hl.fs.len
  have hfitM := h.1
  have hFlt := h.lt.1
  have tb : Turn [] w (w.alloc (.cells #[.int .i64 cap, (.slice afl zs.length cfl), .int .i64 cr, .bool dn, (.slice akp ks.length ckp)] 24)) := (Turn.refl [] w).alloc _
  have hbox := heap_alloc_new w (.cells #[.int .i64 cap, (.slice afl zs.length cfl), .int .i64 cr, .bool dn, (.slice akp ks.length ckp)] 24)
  have h1 := h.new tb
  have hbx : w.heap.size ∉ F := fun hm => by have := hFlt _ hm; omega
  obtain ⟨n, hn⟩ : ∃ n, n = M.fs.length := ⟨_, rfl⟩
  unfold theRef
  go_enter Try.func28, Try.ntmps28
  go_wp2_with fail
  have e1 : (w.alloc (.cells #[.int .i64 cap, (.slice afl zs.length cfl), .int .i64 cr, .bool dn, (.slice akp ks.length ckp)] 24)).heap.size = w.heap.size + 1 := by simp
  generalize w.alloc (.cells #[.int .i64 cap, (.slice afl zs.length cfl), .int .i64 cr, .bool dn, (.slice akp ks.length ckp)] 24) = w1 at *
  have HS := Lib.hid (And.intro h1 (And.intro tb (And.intro hbox (And.intro hbx (And.intro e1 (And.intro hfitM hn))))))
  have HA := Lib.hid (And.intro hrf (And.intro hrk (And.intro hfP (And.intro hkP (And.intro hPd h)))))
  have hln : n < 900000 := by omega
  clear h h1 tb hbox hbx e1 hfitM hrf hrk hfP hkP hPd hFlt hn
  go_loopw [4] (fun iv wr => ∃ j : Nat, j ≤ n ∧ iv = .int .i64 j ∧ Hid (∃ Gj, RD wr r { M with fs := resE M.keep M.fs j } F Gj ∧ (∀ q ∈ Gj, q ∈ G ∨ w.heap.size ≤ q) ∧ Turn F w1 wr))
    (fun iv _ => n - (intOf iv).toNat)
  case atStart => exact ⟨0, Nat.zero_le _, rfl, Lib.hid ⟨G, by rw [resE_zero]; exact HS.out.1, fun q hq => .inl hq, Turn.refl _ _⟩⟩
  case round =>
    obtain ⟨j, hj, rfl, hrel⟩ := hrel
    obtain ⟨Gj, hDj, hGj, tj⟩ := hrel.out
    clear hrel
    have HDj := Lib.hid (And.intro hDj (And.intro hGj tj))
    obtain ⟨hfit, s, ao, c, xs, hR, hP, hv, hown, hTe, hFF, hnn, hGd⟩ := hDj
    simp only [resE_length] at hv hown hTe hFF hnn
    have hnM := HS.out.2.2.2.2.2.2
    rw [← hnM] at hv hown hFF hnn
    have c5 := hR.c5
    rw [hv] at c5
    by_cases hlt2 : j < n
    · have h3 : (j : Int) < (n : Int) := by omega
      obtain ⟨x, hx⟩ : ∃ x, M.fs[j]? = some x := ⟨_, List.getElem?_eq_getElem (by omega)⟩
      have hxr := resE_at (keep := M.keep) hx
      obtain ⟨ab, cb, q1, q2, q3, hrb, hgb⟩ := hTe.2 j x hxr
      have hxl : xs.length = n * 3 := by rw [hTe.1, resE_length, ← hnM]
      obtain ⟨g, rfl, k2, f2⟩ := row_cell hown hxl q2
      obtain ⟨_, e, k3, f3⟩ := row_cell hown hxl q3
      cases e
      have c4 := hR.c4
      obtain ⟨ak, ck, hkv⟩ : ∃ ak ck, s.kp = .slice ak M.keep.length ck := by obtain ⟨a', c', e, _⟩ := hP.keep; exact ⟨a', c', by rw [e, iv_length]⟩
      rw [hkv] at c4
      have hkr : Reads wr (.slice ak M.keep.length ck) (iv M.keep) := by rw [← hkv]; exact hP.keep
      obtain ⟨kl, hkl⟩ : ∃ kl, kl = M.keep.length := ⟨_, rfl⟩
      rw [← hkl] at c4 hkr
      have hsy := HS.out.2.2.2.2.2.1.sy x (List.mem_of_getElem? hx)
      have hxt := tot_mem (List.mem_of_getElem? hx)
      obtain ⟨kq, hkq⟩ : ∃ kq, kq = M.keep.getD j 0 := ⟨_, rfl⟩
      obtain ⟨nv, hnv⟩ : ∃ nv : Nat, nv = min kq.toNat (x.2.1.length - x.2.2) := ⟨_, rfl⟩
      have hnle : nv ≤ x.2.1.length - x.2.2 := by omega
      have hgw := (hown.lt g rfl).2
      have hgr : g ≠ r := by rintro rfl; exact hnn rfl
      have HX := Lib.hid (And.intro hfit (And.intro hR (And.intro hP (And.intro hv (And.intro hown (And.intro hTe (And.intro hFF (And.intro hnn (And.intro hGd (And.intro hxr (And.intro hgw (And.intro hgr (And.intro hrb (And.intro hx (And.intro hkq hnv)))))))))))))))
      have u1 : IntKind.i64.wrap ((x.2.1.length : Int) - (x.2.2 : Int)) = ((x.2.1.length - x.2.2 : Nat) : Int) := by rw [IntKind.wrap_i64]; omega
      have u2 : max (0 : Int) (min kq ((x.2.1.length - x.2.2 : Nat) : Int)) = ((nv : Nat) : Int) := by omega
      obtain ⟨q, hq⟩ : ∃ q, q = x.2.2 + nv := ⟨_, rfl⟩
      have u3 : IntKind.i64.wrap ((x.2.2 : Int) + (nv : Int)) = (q : Int) := by rw [IntKind.wrap_i64]; omega
      have hqx : q ≤ x.2.1.length := by omega
      have hcb : x.2.1.length ≤ cb := by
        obtain ⟨_, _, e, h0, _⟩ := hrb
        simp only [Value.slice.injEq, bv_length] at e h0
        omega
      have HQ := Lib.hid hq
      have hrq : Reads wr (.slice ab q cb) (bv (x.2.1.take q)) := by have := Reads.taken hrb q hqx; rwa [show (bv x.2.1).take q = bv (x.2.1.take q) by simp [bv, List.map_take]] at this
      have HRQ := Lib.hid hrq
      have u0 : ¬ j < kl → nv = 0 := fun hjk => by
        rw [hnv, hkq, List.getD_eq_getElem?_getD, List.getElem?_eq_none (by omega)]
        simp
      have hL : ∀ W, Turn [] wr W → (∀ w', Grow W.drew w' → w'.cell? ⟨r, 5, none⟩ = some (.slice (some ⟨g, 0, none⟩) n c)) ∧ (∀ w', Grow W.drew w' → w'.cell? ⟨g, j * 3 + 1, none⟩ = some (.slice ab x.2.1.length cb)) ∧ (∀ w', Grow W.drew w' → w'.cell? ⟨g, j * 3 + 2, none⟩ = some (.int .i64 (x.2.2 : Nat))) ∧ (∀ w', Grow W.drew w' → w'.frozen? ⟨g, j * 3 + 1, none⟩ = false) := fun W tW => by
        have up : ∀ {a : Addr} {v : Value}, wr.cell? a = some v → ∀ w', Grow W.drew w' → w'.cell? a = some v := fun {a v} h w' hG => by
          have hlt := World.block_lt_of_cell? wr _ h
          exact (World.cell?_of_block (hG.block _ (Nat.lt_of_lt_of_le hlt tW.size))).trans ((World.cell?_of_block (tW.block _ hlt (by simp))).trans h)
        refine ⟨up c5, up k2, up k3, fun w' hG => ?_⟩
        exact (World.frozen?_of_block (hG.block _ (Nat.lt_of_lt_of_le hgw tW.size))).trans ((World.frozen?_of_block (tW.block _ hgw (by simp))).trans f2)
      clear hfit hR hP hv hown hTe hFF hnn hGd q1 q2 q3 hrb hgb hxr hgr hx hkv hnM hrq hq
      have z0 : (0 : Int) ≤ (q : Int) := by omega
      have z1 : (q : Int) ≤ (cb : Int) := by omega
      have z2 : q ≤ cb := by omega
      by_cases hjk : j < kl
      case' pos =>
        have hjk2 : (j : Int) < (kl : Int) := by omega
        obtain ⟨a, rfl, hkc⟩ := ints_at hkr (k := j) (by omega)
        rw [← hkq] at hkc
        clear hkr hkq hnv u0
        go_wp2_with fail
        go_quiet (fail)
        go_wp2_with fail
        clear hkc hjk2 u1 u2
        generalize hWe : wr.drewN nq = W
        have tW : Turn [] wr W := by rw [← hWe]; exact (Turn.refl [] wr).drewN nq
      case' neg =>
        have hjk2 : ¬ (j : Int) < (kl : Int) := by omega
        have u0' := u0 hjk
        have u3z : IntKind.i64.wrap (x.2.2 : Int) = (q : Int) := by rw [← u3, u0']; simp
        have u3y : IntKind.i64.wrap ((x.2.2 : Int) + 0) = (q : Int) := by rw [← u3, u0']; simp
        clear hkr hkq hnv u0 u0' u1 u2 u3
        go_wp2_with fail
        clear hjk2
        generalize hWe : wr = W
        have tW : Turn [] wr W := by rw [← hWe]; exact Turn.refl [] wr
      all_goals
        clear hWe
        obtain ⟨L5, L2, L3, LF⟩ := hL W tW
        refine wp_region_mvs 28 [(0, 5, true), (6, 19, true), (5, 1, false), (25, 1, false), (26, 1, false), (27, 1, false), (28, 1, false)] (by kernel_rfl) (by kernel_rfl) ?_
        simp only [mvAll, mvSeg, List.drop_succ_cons, List.drop_zero, List.cons_append, List.nil_append, Nat.reduceAdd]
        iterate 24
          refine wpLins_still ?_ (fun w' hG K hK => ?_) (fun K hK => ?_)
          rotate_left
          · unfold mvVal
            go_simp
            try exact hK
          go_simp
          refine hK _ ?_
          clear hK K
        refine wpLins_call (fun K hK => ?_)
        unfold mvRun
        go_simp
        simp only [mvUpon]
        refine hK _ _ ((Below.refl _ W.drew).alloc (Nat.le_refl _) _) ?_
        clear hK K
        have hrW : Reads W.drew (.slice ab q cb) (bv (x.2.1.take q)) := HRQ.out.turn (F := []) tW.drew (by simp)
        have F1 : Hid (q ≤ 1000000000) := Lib.hid (by omega)
        have HQL : Hid (q = (x.2.1.take q).length) := Lib.hid (by rw [List.length_take]; omega)
        refine wpLins_call (fun K hK => ?_)
        refine mvRun_clone rfl (.tmp 56) (.tmp 75) rfl wr.heap.size ⟨W.heap.size, 0, none⟩ (by simp [Act.eval]; rfl) (Bs.empty W.drew wr.heap.size tW.size) _ q (x.2.1.take q) HQL.out (by simp [Act.eval]; rfl) (hrW.alloc _) F1 (Nat.le_trans tW.size (by simp)) ?_
        intro ao5 cc5 w5 hown5 hg5
        refine hK _ _ hg5 ?_
        clear hK K
        have hb15 : Grow W.drew w5 := Grow.trans ((Below.refl _ W.drew).alloc (Nat.le_refl _) _) hg5
        have k25 := L2 w5 hb15
        have f25 := LF w5 hb15
        iterate 2
          refine wpLins_call (fun K hK => ?_)
          unfold mvRun
          go_simp
          simp only [mvUpon]
          refine hK _ _ (Grow.refl _) ?_
          clear hK K
        refine wpLins_last (fun K hK => ?_)
        unfold mvRun
        go_simp
        simp only [mvUpon]
        refine hK _ _ ?_
        clear hK K
        refine wpLins_nil ?_
        have hb5r : Below wr.heap.size wr w5 := ⟨hb15.os.trans tW.os, hb15.tape.trans tW.tape, hb15.output.trans tW.output, Nat.le_trans tW.size hb15.size, fun k hk => (hb15.block k (Nat.lt_of_lt_of_le hk tW.size)).trans (tW.block k hk (by simp))⟩
        obtain ⟨hfit, hR, hP, hv, hown, hTe, hFF, hnn, hGd, hxr, hgw, hgr, hrb, hx, hkq, hnv⟩ := HX.out
        have hsv : survE (M.keep.getD j 0) x = (x.1, x.2.1.take q, q) := by unfold survE; rw [← hkq, ← hnv, ← HQ.out]
        have hset := resE_set (keep := M.keep) hx
        rw [hsv] at hset
        have hRO := RD.rounded (M := { M with fs := resE M.keep M.fs j }) (j := j) (q := q) (c5 := cc5) (ao5 := ao5) (x := x) hR hP hv (by show n = (resE M.keep M.fs j).length; rw [resE_length]; exact HS.out.2.2.2.2.2.2) (by rw [hFF]; rfl) hgr hGd hown hTe hxr (by rw [hset]; exact HS.out.2.2.2.2.2.1.res M.keep (j + 1)) hqx hb5r hown5
        obtain ⟨hR6, d2, d3, g3, G2, hD2, hG2, t2⟩ := hRO
        simp only [hset] at hD2
        have d5 := hR6.c5
        rw [hv] at d5
        have HRO := Lib.hid (And.intro hD2 (And.intro hG2 t2))
        clear hfit hR hP hv hown hTe hFF hnn hGd hxr hgw hgr hrb hx hkq hnv hb5r hR6 hD2 hG2 t2 hsv hset hown5 hg5 hb15 k25 f25 L5 L2 L3 LF tW hrW
        go_wp2_with fail
        generalize w5.setCell ⟨g, j * 3 + 1, none⟩ (.slice ao5 q cc5) = w6 at *
        go_still_tail 16, (by kernel_rfl)
        change wpList _ _ _ _ _ w6.drew
        go_wp2_with fail
        obtain ⟨hD2, hG2, t2⟩ := HRO.out
        obtain ⟨_, hGj, tj⟩ := HDj.out
        refine ⟨⟨j + 1, by omega, by simp, Lib.hid ⟨G2, hD2, fun k hk => ?_, tj.trans (t2.mono fun k hk => ?_)⟩⟩, by simp [intOf]; omega⟩
        · rcases hG2 k hk with h | h
          · exact hGj k h
          · have := tj.size
            have := HS.out.2.2.2.2.1
            exact .inr (by omega)
        · simp only [List.mem_singleton] at hk
          subst hk
          have hFF := HX.out.2.2.2.2.2.2.1
          rw [hFF]
          simp [own_block]
    · have h3 : ¬ (j : Int) < (n : Int) := by omega
      obtain rfl : j = n := by omega
      have hbr := (HDj.out.2.2).heap HS.out.2.2.1 HS.out.2.2.2.1
      have b0 := cells_of hbr 0 (.int .i64 cap) rfl
      have b1 := cells_of hbr 1 (.slice afl zs.length cfl) rfl
      have b2 := cells_of hbr 2 (.int .i64 cr) rfl
      have b3 := cells_of hbr 3 (.bool dn) rfl
      have b4 := cells_of hbr 4 (.slice akp ks.length ckp) rfl
      have c0 := hR.c0
      have c1 := hR.c1
      have c2 := hR.c2
      have c3 := hR.c3
      have c4 := hR.c4
      have c6 := hR.c6
      have c7 := hR.c7
      have e0 := hR.free 0
      have e1 := hR.free 1
      have e2 := hR.free 2
      have e3 := hR.free 3
      have e4 := hR.free 4
      have e6 := hR.free 6
      have e7 := hR.free 7
      have HX := Lib.hid (And.intro hfit (And.intro hR (And.intro hP (And.intro hv (And.intro hown (And.intro hTe (And.intro hFF (And.intro hnn hGd))))))))
      clear hfit hR hP hv hown hTe hFF hnn hGd hbr hGj tj hnM
      go_wp2_with fail
      go_end0
      obtain ⟨hfit, hR, hP, hv, hown, hTe, hFF, hnn, hGd⟩ := HX.out
      obtain ⟨_, hGj, tj⟩ := HDj.out
      obtain ⟨hrf, hrk, hfP, hkP, hPd, hD0⟩ := HA.out
      have hR9 : RefC (((((((wr.setCell ⟨r, 0, none⟩ (.int .i64 cap)).setCell ⟨r, 1, none⟩ (.slice afl zs.length cfl)).setCell ⟨r, 2, none⟩ (.int .i64 cr)).setCell ⟨r, 3, none⟩ (.bool dn)).setCell ⟨r, 4, none⟩ (.slice akp ks.length ckp)).setCell ⟨r, 6, none⟩ (.int .i64 0)).setCell ⟨r, 7, none⟩ (.bool false)) r { cap := cap, fl := .slice afl zs.length cfl, cr := cr, dn := dn, kp := .slice akp ks.length ckp, fv := s.fv, n := 0, dw := false } := by
        have := heap_set (heap_set (heap_set (heap_set (heap_set (heap_set (heap_set hR 0 (.int .i64 cap)) 1 (.slice afl zs.length cfl)) 2 (.int .i64 cr)) 3 (.bool dn)) 4 (.slice akp ks.length ckp)) 6 (.int .i64 0)) 7 (.bool false)
        simpa [RefC, RS.cells] using this
      have t9 : Turn [r] wr (((((((wr.setCell ⟨r, 0, none⟩ (.int .i64 cap)).setCell ⟨r, 1, none⟩ (.slice afl zs.length cfl)).setCell ⟨r, 2, none⟩ (.int .i64 cr)).setCell ⟨r, 3, none⟩ (.bool dn)).setCell ⟨r, 4, none⟩ (.slice akp ks.length ckp)).setCell ⟨r, 6, none⟩ (.int .i64 0)).setCell ⟨r, 7, none⟩ (.bool false)) :=
        (((((((Turn.refl [r] wr).set (.inl (by simp)) _ _).set (.inl (by simp)) _ _).set (.inl (by simp)) _ _).set (.inl (by simp)) _ _).set (.inl (by simp)) _ _).set (.inl (by simp)) _ _).set (.inl (by simp)) _ _
      have hrF : r ∈ F := by rw [hFF]; simp
      have t01 := HS.out.2.1
      have hnM := HS.out.2.2.2.2.2.2
      have hsz1 := t01.size
      have hszj := tj.size
      have tw : Turn F w wr := (t01.mono (by simp)).trans tj
      have tw9 := tw.trans (t9.mono fun k hk => by simp only [List.mem_singleton] at hk; rw [hk]; exact hrF)
      have hPr : ∀ q ∈ P, q ∉ [r] := fun q hq hm => (hPd q hq).1 (by simp only [List.mem_singleton] at hm; rw [hm]; exact hrF)
      have hGr : ∀ q ∈ Gj, q ∉ [r] := fun q hq hm => (hGd q hq).1 (by simp only [List.mem_singleton] at hm; rw [hm]; exact hrF)
      have hml : (M.restart cap cr dn zs ks).fs.length = j := by simp only [MD.restart, resE_length]; omega
      have hmf : (M.restart cap cr dn zs ks).fs = resE M.keep M.fs j := by simp only [MD.restart]; rw [← hnM]
      refine ⟨rfl, F, Gj ++ P, ⟨by rw [hmf]; exact hfit, _, ao, c, xs, hR9, ⟨rfl, rfl, rfl, rfl, rfl, ?_, ?_, fun hne a n c e => List.mem_append_right _ (hfP hne a n c e), fun hne a n c e => List.mem_append_right _ (hkP hne a n c e), by show (0 : Int) ≤ 0; omega⟩, ?_, ?_, ?_, ?_, ?_, fun q hq => ?_⟩, fun q hq => .inl hq, fun q hq => ?_, tw9⟩
      · exact (hrf.turn tw fun hne a n c e => (hPd _ (hfP (by intro e2; rw [e2] at hne; exact hne rfl) a n c e)).1).turn t9 fun hne a n c e => hPr _ (hfP (by intro e2; rw [e2] at hne; exact hne rfl) a n c e)
      · exact (hrk.turn tw fun hne a n c e => (hPd _ (hkP (by intro e2; rw [e2] at hne; exact hne rfl) a n c e)).1).turn t9 fun hne a n c e => hPr _ (hkP (by intro e2; rw [e2] at hne; exact hne rfl) a n c e)
      · rw [hml]; exact hv
      · rw [hml]
        exact owns_turn hown t9 (fun g hg => by simp only [List.mem_singleton]; rintro rfl; exact hnn hg)
      · rw [hmf]
        exact (hTe.turn t9 hGr).more fun k hk => List.mem_append_left _ hk
      · rw [hml]; exact hFF
      · rw [hml]; exact hnn
      · rcases List.mem_append.1 hq with hq | hq
        · exact ⟨(hGd q hq).1, Nat.lt_of_lt_of_le (hGd q hq).2 t9.size⟩
        · exact ⟨(hPd q hq).1, Nat.lt_of_lt_of_le (hPd q hq).2 tw9.size⟩
      · rcases List.mem_append.1 hq with hq | hq
        · exact (hGj q hq).imp id .inr
        · exact .inr (.inl hq)

end Go.Proofs.Ytmpjjnjggiipjaa

namespace Go.Proofs.Ytmpjjnjggiipjaa
open Go.RowKit Go.Maps Go.Sort Go.WideMaps

theorem ref_new (cap cr : Int) (dn : Bool) (fl kp : Value) (zs ks : List Int) (w : World) (hrf : Reads w fl (iv zs)) (hrk : Reads w kp (iv ks)) (P : List Nat)
    (hfP : zs ≠ [] → ∀ a n c, fl = .slice (some a) n c → a.block ∈ P) (hkP : ks ≠ [] → ∀ a n c, kp = .slice (some a) n c → a.block ∈ P) (hPd : ∀ q ∈ P, q < w.heap.size) :
    Calls Try.prog 7 #[.agg #[.int .i64 cap, fl, .int .i64 cr, .bool dn, kp]] w fun e w' => ∃ r F, e = .returned (theRef r) ∧ RD w' r (MD.new cap cr dn zs ks) F P ∧ (∀ q ∈ F, w.heap.size ≤ q) ∧ Turn [] w w' := by
  obtain ⟨afl, cfl, rfl⟩ : ∃ ao c, fl = .slice ao zs.length c := by obtain ⟨ao, c, rfl, _⟩ := hrf; exact ⟨ao, c, by rw [iv_length]⟩
  obtain ⟨akp, ckp, rfl⟩ : ∃ ao c, kp = .slice ao ks.length c := by obtain ⟨ao, c, rfl, _⟩ := hrk; exact ⟨ao, c, by rw [iv_length]⟩
  have HA := Lib.hid (And.intro hrf (And.intro hrk (And.intro hfP (And.intro hkP hPd))))
  clear hrf hrk hfP hkP hPd
  go_enter Try.func7, Try.ntmps7
  go_wp2_with fail
  go_ret
  obtain ⟨hrf, hrk, hfP, hkP, hPd⟩ := HA.out
  have t1 : Turn [] w (w.alloc (.cells #[.int .i64 cap, .slice afl zs.length cfl, .int .i64 cr, .bool dn, .slice akp ks.length ckp] 24)) := (Turn.refl [] w).alloc _
  have hnew := heap_alloc_new (w.alloc (.cells #[.int .i64 cap, .slice afl zs.length cfl, .int .i64 cr, .bool dn, .slice akp ks.length ckp] 24)) (.cells #[.int .i64 cap, .slice afl zs.length cfl, .int .i64 cr, .bool dn, .slice akp ks.length ckp, .slice none 0 0, .int .i64 0, .bool false] 38)
  have t2 := t1.alloc (.cells #[.int .i64 cap, .slice afl zs.length cfl, .int .i64 cr, .bool dn, .slice akp ks.length ckp, .slice none 0 0, .int .i64 0, .bool false] 38)
  refine ⟨w.heap.size + 1, [w.heap.size + 1], by simp [theRef], ⟨Fit.nil, { cap := cap, fl := .slice afl zs.length cfl, cr := cr, dn := dn, kp := .slice akp ks.length ckp, fv := .slice none 0 0, n := 0, dw := false }, none, 0, [], by simpa [RefC, RS.cells] using hnew, ⟨rfl, rfl, rfl, rfl, rfl, hrf.turn t2 (by simp), hrk.turn t2 (by simp), hfP, hkP, by show (0 : Int) ≤ 0; omega⟩, rfl, World.ownsRow_nil _ _ _ _, TellR.nil _ _, rfl, by simp [Value.ownBlock], fun q hq => ⟨?_, Nat.lt_of_lt_of_le (hPd q hq) t2.size⟩⟩, fun q hq => ?_, t2⟩
  · have := hPd q hq
    simp only [List.mem_singleton]
    omega
  · simp only [List.mem_singleton] at hq
    omega

/-- A list of files that can be read. -/
def FlR (w : World) (v : Value) (fs : List Ent) : Prop :=
  ∃ (ao : Option Addr) (c : Nat) (xs : List Value), v = .slice ao fs.length c ∧ xs.length = fs.length * 3 ∧ (∀ a, ao = some a → ∀ (j : Nat) (u : Value), xs[j]? = some u → w.cell? (a.add j) = some u) ∧ (ao = none → fs = []) ∧
    ∀ (j : Nat) (x : Ent), fs[j]? = some x → ∃ (ab : Option Addr) (cb : Nat), xs[j * 3]? = some (encStr x.1) ∧ xs[j * 3 + 1]? = some (.slice ab x.2.1.length cb) ∧ xs[j * 3 + 2]? = some (.int .i64 (x.2.2 : Nat)) ∧ Reads w (.slice ab x.2.1.length cb) (bv x.2.1)

theorem row_reads {w : World} {base : Nat} {ao : Option Addr} {n c : Nat} {xs : List Value} (h : w.ownsRow base 79 3 (.slice ao n c) n xs) (hx : xs.length = n * 3) : (∀ a, ao = some a → ∀ j u, xs[j]? = some u → w.cell? (a.add j) = some u) ∧ (ao = none → n = 0) := by
  constructor
  · intro a ha j u hj
    obtain ⟨g, e, hc, _⟩ := row_cell h hx hj
    rw [ha] at e
    cases e
    rw [Addr.add_lit, Nat.zero_add]
    exact hc
  · intro e
    rcases h.2 with ⟨_, h0⟩ | ⟨g, cap, cur, hv, _⟩
    · exact h0
    · simp only [Value.slice.injEq] at hv
      rw [hv.1] at e; cases e

theorem FlR.told {w : World} {base : Nat} {row : Option Nat} {ao : Option Addr} {c : Nat} {xs : List Value} {fs : List Ent} (h : w.ownsRow base 79 3 (.slice ao fs.length c) fs.length xs) (hT : ToldE w base row fs xs) : FlR w (.slice ao fs.length c) fs := by
  obtain ⟨h1, h2⟩ := row_reads h hT.1
  refine ⟨ao, c, xs, rfl, hT.1, h1, fun e => List.eq_nil_of_length_eq_zero (h2 e), fun j x hj => ?_⟩
  obtain ⟨ab, cb, e1, e2, e3, e4, _⟩ := hT.2 j x hj
  exact ⟨ab, cb, e1, e2, e3, owns_reads e4⟩
theorem FlR.ref {w : World} {G : List Nat} {ao : Option Addr} {c : Nat} {xs : List Value} {fs : List Ent} (h : w.ownsRow 0 79 3 (.slice ao fs.length c) fs.length xs) (hT : TellR w G xs fs) : FlR w (.slice ao fs.length c) fs := by
  obtain ⟨h1, h2⟩ := row_reads h hT.1
  refine ⟨ao, c, xs, rfl, hT.1, h1, fun e => List.eq_nil_of_length_eq_zero (h2 e), fun j x hj => ?_⟩
  obtain ⟨ab, cb, e1, e2, e3, e4, _⟩ := hT.2 j x hj
  exact ⟨ab, cb, e1, e2, e3, e4⟩

set_option maxRecDepth 100000 in
set_option maxHeartbeats 4000000 in
/-- Two lists of the same files are one. -/
theorem ref_files (va vb : Value) (fs : List Ent) (w : World) (ha : FlR w va fs) (hb : FlR w vb fs) (hl : fs.length < 900000) :
    Calls Try.prog 30 #[va, vb] w fun e w' => e = .returned (.bool true) ∧ Turn [] w w' := by
  obtain ⟨aa, ca, xs, rfl, hxl, hxc, hxn, hxt⟩ := ha
  obtain ⟨ab, cb, ys, rfl, hyl, hyc, hyn, hyt⟩ := hb
  obtain ⟨n, hn⟩ : ∃ n, n = fs.length := ⟨_, rfl⟩
  rw [← hn] at hxl hyl hl ⊢
  have HA := Lib.hid (And.intro hxl (And.intro hxc (And.intro hxn hxt)))
  have HB := Lib.hid (And.intro hyl (And.intro hyc (And.intro hyn hyt)))
  have HN := Lib.hid hn
  clear hxl hxc hxn hxt hyl hyc hyn hyt hn
  go_enter Try.func30, Try.ntmps30
  go_wp2_with fail
  go_loopw [5] (fun iv wr => ∃ j q : Nat, j ≤ n ∧ iv = .int .i64 j ∧ wr = w.drewN q)
    (fun iv _ => n - (intOf iv).toNat)
  case atStart => exact ⟨0, 0, Nat.zero_le _, rfl, rfl⟩
  case round =>
    obtain ⟨j, q, hj, rfl, rfl⟩ := hrel
    by_cases h1 : j < n
    · have h3 : (j : Int) < (n : Int) := by omega
      obtain ⟨x, hx⟩ : ∃ x, fs[j]? = some x := ⟨_, List.getElem?_eq_getElem (by have := HN.out; omega)⟩
      obtain ⟨a, rfl⟩ : ∃ a, aa = some a := by
        cases aa with
        | none => have := HA.out.2.2.1 rfl; rw [this] at hx; cases hx
        | some a => exact ⟨a, rfl⟩
      obtain ⟨b, rfl⟩ : ∃ b, ab = some b := by
        cases ab with
        | none => have := HB.out.2.2.1 rfl; rw [this] at hx; cases hx
        | some a => exact ⟨a, rfl⟩
      obtain ⟨a1, c1, p1, p2, p3, p4⟩ := HA.out.2.2.2 j x hx
      obtain ⟨b1, d1, q1, q2, q3, q4⟩ := HB.out.2.2.2 j x hx
      have k1 := HA.out.2.1 a rfl _ _ p1
      have k2 := HA.out.2.1 a rfl _ _ p2
      rw [← Addr.add_add] at k2
      have k2' : w.cell? ⟨(a.add (j * 3)).block, (a.add (j * 3)).off + 1, none⟩ = _ := k2
      have k3 := HA.out.2.1 a rfl _ _ p3
      rw [← Addr.add_add] at k3
      have k3' : w.cell? ⟨(a.add (j * 3)).block, (a.add (j * 3)).off + 2, none⟩ = _ := k3
      have m1 := HB.out.2.1 b rfl _ _ q1
      have m2 := HB.out.2.1 b rfl _ _ q2
      rw [← Addr.add_add] at m2
      have m2' : w.cell? ⟨(b.add (j * 3)).block, (b.add (j * 3)).off + 1, none⟩ = _ := m2
      have m3 := HB.out.2.1 b rfl _ _ q3
      rw [← Addr.add_add] at m3
      have m3' : w.cell? ⟨(b.add (j * 3)).block, (b.add (j * 3)).off + 2, none⟩ = _ := m3
      have v1 : ∀ W : World, (∀ a, W.cell? a = w.cell? a) → (convert 33 9 (.slice a1 x.2.1.length c1)).run Try.prog W = .ok (.string ⟨x.2.1.toArray⟩) W := fun W hW => conv_reads (by obtain ⟨ao, c, e, h0, h1, h2⟩ := p4; exact ⟨ao, c, e, h0, h1, fun a ha j u hj => by rw [hW]; exact h2 a ha j u hj⟩)
      have v2 : ∀ W : World, (∀ a, W.cell? a = w.cell? a) → (convert 33 9 (.slice b1 x.2.1.length d1)).run Try.prog W = .ok (.string ⟨x.2.1.toArray⟩) W := fun W hW => conv_reads (by obtain ⟨ao, c, e, h0, h1, h2⟩ := q4; exact ⟨ao, c, e, h0, h1, fun a ha j u hj => by rw [hW]; exact h2 a ha j u hj⟩)
      have w1 : ∀ q, (convert 33 9 (.slice a1 x.2.1.length c1)).run Try.prog (w.drewN q) = .ok (.string ⟨x.2.1.toArray⟩) (w.drewN q) := fun q => v1 _ fun _ => rfl
      have w2 : ∀ q, (convert 33 9 (.slice b1 x.2.1.length d1)).run Try.prog (w.drewN q) = .ok (.string ⟨x.2.1.toArray⟩) (w.drewN q) := fun q => v2 _ fun _ => rfl
      unfold encStr at k1 m1
      have n1 : (x.1 != x.1) = false := by simp
      have n2 : (x.2.1 != x.2.1) = false := by simp
      have n3 : ((x.2.2 : Int) != (x.2.2 : Int)) = false := by simp
      clear hx p1 p2 p3 p4 q1 q2 q3 q4 v1 v2
      go_wp2_with fail
      go_quiet (fail)
      go_wp2_with fail
      exact ⟨⟨j + 1, _, by omega, by simp, rfl⟩, by simp [intOf]; omega⟩
    · have h3 : ¬ (j : Int) < (n : Int) := by omega
      obtain rfl : j = n := by omega
      go_wp2_with fail
      go_ret
      exact ⟨rfl, (Turn.refl [] w).drewN _⟩

end Go.Proofs.Ytmpjjnjggiipjaa
