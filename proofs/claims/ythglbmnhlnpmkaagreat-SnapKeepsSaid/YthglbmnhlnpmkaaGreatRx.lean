/- The reference's NewDisk; are two lists of files one? Numbers and types by name. -/
import Derived.Test.YthglbmnhlnpmkaaGreatRv
/- The reference's Restart: the walk. Numbers and types by name. -/
namespace Go.Proofs.YthglbmnhlnpmkaaGreat
open Go.RowKit Go.Maps Go.Sort Go.WideMaps

set_option maxRecDepth 100000 in
set_option maxHeartbeats 4000000 in
theorem ref_restart (r : Nat) (M : MD) (F G : List Nat) (cap cr : Int) (dn : Bool) (fl kp : Value) (zs ks : List Int) (w : World) (h : RD w r M F G) (hl : Lim M) (hrf : Reads w fl (iv zs)) (hrk : Reads w kp (iv ks)) (P : List Nat)
    (hfP : zs ≠ [] → ∀ a n c, fl = .slice (some a) n c → a.block ∈ P) (hkP : ks ≠ [] → ∀ a n c, kp = .slice (some a) n c → a.block ∈ P) (hPd : ∀ q ∈ P, q ∉ F ∧ q < w.heap.size) :
    Calls Tryz.prog 12 #[theRef r, .agg #[.int .i64 cap, fl, .int .i64 cr, .bool dn, kp]] w fun e w' => e = .returned (.tuple #[]) ∧ RNext w w' r (M.restart cap cr dn zs ks) F G P := by
  obtain ⟨afl, cfl, rfl⟩ : ∃ ao c, fl = .slice ao zs.length c := by obtain ⟨ao, c, rfl, _⟩ := hrf; exact ⟨ao, c, by rw [iv_length]⟩
  obtain ⟨akp, ckp, rfl⟩ : ∃ ao c, kp = .slice ao ks.length c := by obtain ⟨ao, c, rfl, _⟩ := hrk; exact ⟨ao, c, by rw [iv_length]⟩
  have hlt := hl.fs.tot
  have hll := hl.fs.len
  have hfitM := h.1
  have hFlt := h.lt.1
  have tb : Turn [] w (w.alloc (.cells #[.int .i64 cap, (.slice afl zs.length cfl), .int .i64 cr, .bool dn, (.slice akp ks.length ckp)] 29)) := (Turn.refl [] w).alloc _
  have hbox := heap_alloc_new w (.cells #[.int .i64 cap, (.slice afl zs.length cfl), .int .i64 cr, .bool dn, (.slice akp ks.length ckp)] 29)
  have h1 := h.new tb
  have hbx : w.heap.size ∉ F := fun hm => by have := hFlt _ hm; omega
  obtain ⟨n, hn⟩ : ∃ n, n = M.fs.length := ⟨_, rfl⟩
  unfold theRef
  go_enter Tryz.func12, Tryz.ntmps12
  go_wp2_with fail
  have e1 : (w.alloc (.cells #[.int .i64 cap, (.slice afl zs.length cfl), .int .i64 cr, .bool dn, (.slice akp ks.length ckp)] 29)).heap.size = w.heap.size + 1 := by simp
  generalize w.alloc (.cells #[.int .i64 cap, (.slice afl zs.length cfl), .int .i64 cr, .bool dn, (.slice akp ks.length ckp)] 29) = w1 at *
  have HS := Lib.hid (And.intro h1 (And.intro tb (And.intro hbox (And.intro hbx (And.intro e1 (And.intro hfitM hn))))))
  have HA := Lib.hid (And.intro hrf (And.intro hrk (And.intro hfP (And.intro hkP (And.intro hPd h)))))
  have hln : n < 900000 := by omega
  clear h h1 tb hbox hbx e1 hfitM hrf hrk hfP hkP hPd hFlt hn
  go_loopw [4] (fun iv wr => ∃ j : Nat, j ≤ n ∧ iv = .int .i64 j ∧ Hid (∃ Gj, RD wr r { M with fs := resE M.keep M.fs j } F Gj ∧ (∀ q ∈ Gj, q ∈ G ∨ w.heap.size ≤ q) ∧ Turn F w1 wr))
    (fun iv _ => n - (intOf iv).toNat)
  case atStart => exact ⟨0, Nat.zero_le _, rfl, Lib.hid ⟨G, by rw [resE_zero]; exact HS.out.1, fun q hq => .inl hq, Turn.refl _ _⟩⟩
  case round =>
    obtain ⟨j, hj, rfl, hrel⟩ := hrel
    obtain ⟨Gj, hDj, hGj, tj⟩ := hrel.out
    clear hrel
    have HDj := Lib.hid (And.intro hDj (And.intro hGj tj))
    obtain ⟨hfit, s, ao, c, xs, hR, hP, hv, hown, hTe, hFF, hnn, hGd⟩ := hDj
    simp only [resE_length] at hv hown hTe hFF hnn
    have hnM := HS.out.2.2.2.2.2.2
    rw [← hnM] at hv hown hFF hnn
    have c5 := hR.c5
    rw [hv] at c5
    by_cases hlt2 : j < n
    · have h3 : (j : Int) < (n : Int) := by omega
      obtain ⟨x, hx⟩ : ∃ x, M.fs[j]? = some x := ⟨_, List.getElem?_eq_getElem (by omega)⟩
      have hxr := resE_at (keep := M.keep) hx
      obtain ⟨ab, cb, q1, q2, q3, hrb, hgb⟩ := hTe.2 j x hxr
      have hxl : xs.length = n * 3 := by rw [hTe.1, resE_length, ← hnM]
      obtain ⟨g, rfl, k2, f2⟩ := row_cell hown hxl q2
      obtain ⟨_, e, k3, f3⟩ := row_cell hown hxl q3
      cases e
      have c4 := hR.c4
      obtain ⟨ak, ck, hkv⟩ : ∃ ak ck, s.kp = .slice ak M.keep.length ck := by obtain ⟨a', c', e, _⟩ := hP.keep; exact ⟨a', c', by rw [e, iv_length]⟩
      rw [hkv] at c4
      have hkr : Reads wr (.slice ak M.keep.length ck) (iv M.keep) := by rw [← hkv]; exact hP.keep
      obtain ⟨kl, hkl⟩ : ∃ kl, kl = M.keep.length := ⟨_, rfl⟩
      rw [← hkl] at c4 hkr
      have hsy := HS.out.2.2.2.2.2.1.sy x (List.mem_of_getElem? hx)
      have hxt := tot_mem (List.mem_of_getElem? hx)
      obtain ⟨kq, hkq⟩ : ∃ kq, kq = M.keep.getD j 0 := ⟨_, rfl⟩
      obtain ⟨nv, hnv⟩ : ∃ nv : Nat, nv = min kq.toNat (x.2.1.length - x.2.2) := ⟨_, rfl⟩
      have hnle : nv ≤ x.2.1.length - x.2.2 := by omega
      have hgw := (hown.lt g rfl).2
      have hgr : g ≠ r := by rintro rfl; exact hnn rfl
      have HX := Lib.hid (And.intro hfit (And.intro hR (And.intro hP (And.intro hv (And.intro hown (And.intro hTe (And.intro hFF (And.intro hnn (And.intro hGd (And.intro hxr (And.intro hgw (And.intro hgr (And.intro hrb (And.intro hx (And.intro hkq hnv)))))))))))))))
      have u1 : IntKind.i64.wrap ((x.2.1.length : Int) - (x.2.2 : Int)) = ((x.2.1.length - x.2.2 : Nat) : Int) := by rw [IntKind.wrap_i64]; omega
      have u2 : max (0 : Int) (min kq ((x.2.1.length - x.2.2 : Nat) : Int)) = ((nv : Nat) : Int) := by omega
      obtain ⟨q, hq⟩ : ∃ q, q = x.2.2 + nv := ⟨_, rfl⟩
      have u3 : IntKind.i64.wrap ((x.2.2 : Int) + (nv : Int)) = (q : Int) := by rw [IntKind.wrap_i64]; omega
      have hqx : q ≤ x.2.1.length := by omega
      have hcb : x.2.1.length ≤ cb := by
        obtain ⟨_, _, e, h0, _⟩ := hrb
        simp only [Value.slice.injEq, bv_length] at e h0
        omega
      have HQ := Lib.hid hq
      have hrq : Reads wr (.slice ab q cb) (bv (x.2.1.take q)) := by have := Reads.taken hrb q hqx; rwa [show (bv x.2.1).take q = bv (x.2.1.take q) by simp [bv, List.map_take]] at this
      have HRQ := Lib.hid hrq
      have u0 : ¬ j < kl → nv = 0 := fun hjk => by
        rw [hnv, hkq, List.getD_eq_getElem?_getD, List.getElem?_eq_none (by omega)]
        simp
      have hL : ∀ W, Turn [] wr W → (∀ w', Grow W.drew w' → w'.cell? ⟨r, 5, none⟩ = some (.slice (some ⟨g, 0, none⟩) n c)) ∧ (∀ w', Grow W.drew w' → w'.cell? ⟨g, j * 3 + 1, none⟩ = some (.slice ab x.2.1.length cb)) ∧ (∀ w', Grow W.drew w' → w'.cell? ⟨g, j * 3 + 2, none⟩ = some (.int .i64 (x.2.2 : Nat))) ∧ (∀ w', Grow W.drew w' → w'.frozen? ⟨g, j * 3 + 1, none⟩ = false) := fun W tW => by
        have up : ∀ {a : Addr} {v : Value}, wr.cell? a = some v → ∀ w', Grow W.drew w' → w'.cell? a = some v := fun {a v} h w' hG => by
          have hlt := World.block_lt_of_cell? wr _ h
          exact (World.cell?_of_block (hG.block _ (Nat.lt_of_lt_of_le hlt tW.size))).trans ((World.cell?_of_block (tW.block _ hlt (by simp))).trans h)
        refine ⟨up c5, up k2, up k3, fun w' hG => ?_⟩
        exact (World.frozen?_of_block (hG.block _ (Nat.lt_of_lt_of_le hgw tW.size))).trans ((World.frozen?_of_block (tW.block _ hgw (by simp))).trans f2)
      clear hfit hR hP hv hown hTe hFF hnn hGd q1 q2 q3 hrb hgb hxr hgr hx hkv hnM hrq hq
      have z0 : (0 : Int) ≤ (q : Int) := by omega
      have z1 : (q : Int) ≤ (cb : Int) := by omega
      have z2 : q ≤ cb := by omega
      by_cases hjk : j < kl
      case' pos =>
        have hjk2 : (j : Int) < (kl : Int) := by omega
        obtain ⟨a, rfl, hkc⟩ := ints_at hkr (k := j) (by omega)
        rw [← hkq] at hkc
        clear hkr hkq hnv u0
        go_wp2_with fail
        go_quiet (fail)
        go_wp2_with fail
        clear hkc hjk2 u1 u2
        generalize hWe : wr.drewN nq = W
        have tW : Turn [] wr W := by rw [← hWe]; exact (Turn.refl [] wr).drewN nq
      case' neg =>
        have hjk2 : ¬ (j : Int) < (kl : Int) := by omega
        have u0' := u0 hjk
        have u3z : IntKind.i64.wrap (x.2.2 : Int) = (q : Int) := by rw [← u3, u0']; simp
        have u3y : IntKind.i64.wrap ((x.2.2 : Int) + 0) = (q : Int) := by rw [← u3, u0']; simp
        clear hkr hkq hnv u0 u0' u1 u2 u3
        go_wp2_with fail
        clear hjk2
        generalize hWe : wr = W
        have tW : Turn [] wr W := by rw [← hWe]; exact Turn.refl [] wr
      all_goals
        clear hWe
        obtain ⟨L5, L2, L3, LF⟩ := hL W tW
        refine wp_region_mvs 28 [(0, 5, true), (6, 19, true), (5, 1, false), (25, 1, false), (26, 1, false), (27, 1, false), (28, 1, false)] (by kernel_rfl) (by kernel_rfl) ?_
        simp only [mvAll, mvSeg, List.drop_succ_cons, List.drop_zero, List.cons_append, List.nil_append, Nat.reduceAdd]
        iterate 24
          refine wpLins_still ?_ (fun w' hG K hK => ?_) (fun K hK => ?_)
          rotate_left
          · unfold mvVal
            go_simp
            try exact hK
          go_simp
          refine hK _ ?_
          clear hK K
        refine wpLins_call (fun K hK => ?_)
        unfold mvRun
        go_simp
        simp only [mvUpon]
        refine hK _ _ ((Below.refl _ W.drew).alloc (Nat.le_refl _) _) ?_
        clear hK K
        have hrW : Reads W.drew (.slice ab q cb) (bv (x.2.1.take q)) := HRQ.out.turn (F := []) tW.drew (by simp)
        have F1 : Hid (q ≤ 1000000000) := Lib.hid (by omega)
        have HQL : Hid (q = (x.2.1.take q).length) := Lib.hid (by rw [List.length_take]; omega)
        refine wpLins_call (fun K hK => ?_)
        refine mvRun_clone rfl (.tmp 56) (.tmp 75) rfl wr.heap.size ⟨W.heap.size, 0, none⟩ (by simp [Act.eval]; rfl) (Bs.empty W.drew wr.heap.size tW.size) _ q (x.2.1.take q) HQL.out (by simp [Act.eval]; rfl) (hrW.alloc _) F1 (Nat.le_trans tW.size (by simp)) ?_
        intro ao5 cc5 w5 hown5 hg5
        refine hK _ _ hg5 ?_
        clear hK K
        have hb15 : Grow W.drew w5 := Grow.trans ((Below.refl _ W.drew).alloc (Nat.le_refl _) _) hg5
        have k25 := L2 w5 hb15
        have f25 := LF w5 hb15
        iterate 2
          refine wpLins_call (fun K hK => ?_)
          unfold mvRun
          go_simp
          simp only [mvUpon]
          refine hK _ _ (Grow.refl _) ?_
          clear hK K
        refine wpLins_last (fun K hK => ?_)
        unfold mvRun
        go_simp
        simp only [mvUpon]
        refine hK _ _ ?_
        clear hK K
        refine wpLins_nil ?_
        have hb5r : Below wr.heap.size wr w5 := ⟨hb15.os.trans tW.os, hb15.tape.trans tW.tape, hb15.output.trans tW.output, Nat.le_trans tW.size hb15.size, fun k hk => (hb15.block k (Nat.lt_of_lt_of_le hk tW.size)).trans (tW.block k hk (by simp))⟩
        obtain ⟨hfit, hR, hP, hv, hown, hTe, hFF, hnn, hGd, hxr, hgw, hgr, hrb, hx, hkq, hnv⟩ := HX.out
        have hsv : survE (M.keep.getD j 0) x = (x.1, x.2.1.take q, q) := by unfold survE; rw [← hkq, ← hnv, ← HQ.out]
        have hset := resE_set (keep := M.keep) hx
        rw [hsv] at hset
        have hRO := RD.rounded (M := { M with fs := resE M.keep M.fs j }) (j := j) (q := q) (c5 := cc5) (ao5 := ao5) (x := x) hR hP hv (by show n = (resE M.keep M.fs j).length; rw [resE_length]; exact HS.out.2.2.2.2.2.2) (by rw [hFF]; rfl) hgr hGd hown hTe hxr (by rw [hset]; exact HS.out.2.2.2.2.2.1.res M.keep (j + 1)) hqx hb5r hown5
        obtain ⟨hR6, d2, d3, g3, G2, hD2, hG2, t2⟩ := hRO
        simp only [hset] at hD2
        have d5 := hR6.c5
        rw [hv] at d5
        have HRO := Lib.hid (And.intro hD2 (And.intro hG2 t2))
        clear hfit hR hP hv hown hTe hFF hnn hGd hxr hgw hgr hrb hx hkq hnv hb5r hR6 hD2 hG2 t2 hsv hset hown5 hg5 hb15 k25 f25 L5 L2 L3 LF tW hrW
        go_wp2_with fail
        generalize w5.setCell ⟨g, j * 3 + 1, none⟩ (.slice ao5 q cc5) = w6 at *
        go_still_tail 16, (by kernel_rfl)
        change wpList _ _ _ _ _ w6.drew
        go_wp2_with fail
        obtain ⟨hD2, hG2, t2⟩ := HRO.out
        obtain ⟨_, hGj, tj⟩ := HDj.out
        refine ⟨⟨j + 1, by omega, by simp, Lib.hid ⟨G2, hD2, fun k hk => ?_, tj.trans (t2.mono fun k hk => ?_)⟩⟩, by simp [intOf]; omega⟩
        · rcases hG2 k hk with h | h
          · exact hGj k h
          · have := tj.size
            have := HS.out.2.2.2.2.1
            exact .inr (by omega)
        · simp only [List.mem_singleton] at hk
          subst hk
          have hFF := HX.out.2.2.2.2.2.2.1
          rw [hFF]
          simp [own_block]
    · have h3 : ¬ (j : Int) < (n : Int) := by omega
      obtain rfl : j = n := by omega
      have hbr := (HDj.out.2.2).heap HS.out.2.2.1 HS.out.2.2.2.1
      have b0 := cells_of hbr 0 (.int .i64 cap) rfl
      have b1 := cells_of hbr 1 (.slice afl zs.length cfl) rfl
      have b2 := cells_of hbr 2 (.int .i64 cr) rfl
      have b3 := cells_of hbr 3 (.bool dn) rfl
      have b4 := cells_of hbr 4 (.slice akp ks.length ckp) rfl
      have c0 := hR.c0
      have c1 := hR.c1
      have c2 := hR.c2
      have c3 := hR.c3
      have c4 := hR.c4
      have c6 := hR.c6
      have c7 := hR.c7
      have e0 := hR.free 0
      have e1 := hR.free 1
      have e2 := hR.free 2
      have e3 := hR.free 3
      have e4 := hR.free 4
      have e6 := hR.free 6
      have e7 := hR.free 7
      have HX := Lib.hid (And.intro hfit (And.intro hR (And.intro hP (And.intro hv (And.intro hown (And.intro hTe (And.intro hFF (And.intro hnn hGd))))))))
      clear hfit hR hP hv hown hTe hFF hnn hGd hbr hGj tj hnM
      go_wp2_with fail
      go_end0
      obtain ⟨hfit, hR, hP, hv, hown, hTe, hFF, hnn, hGd⟩ := HX.out
      obtain ⟨_, hGj, tj⟩ := HDj.out
      obtain ⟨hrf, hrk, hfP, hkP, hPd, hD0⟩ := HA.out
      have hR9 : RefC (((((((wr.setCell ⟨r, 0, none⟩ (.int .i64 cap)).setCell ⟨r, 1, none⟩ (.slice afl zs.length cfl)).setCell ⟨r, 2, none⟩ (.int .i64 cr)).setCell ⟨r, 3, none⟩ (.bool dn)).setCell ⟨r, 4, none⟩ (.slice akp ks.length ckp)).setCell ⟨r, 6, none⟩ (.int .i64 0)).setCell ⟨r, 7, none⟩ (.bool false)) r { cap := cap, fl := .slice afl zs.length cfl, cr := cr, dn := dn, kp := .slice akp ks.length ckp, fv := s.fv, n := 0, dw := false } := by
        have := heap_set (heap_set (heap_set (heap_set (heap_set (heap_set (heap_set hR 0 (.int .i64 cap)) 1 (.slice afl zs.length cfl)) 2 (.int .i64 cr)) 3 (.bool dn)) 4 (.slice akp ks.length ckp)) 6 (.int .i64 0)) 7 (.bool false)
        simpa [RefC, RS.cells] using this
      have t9 : Turn [r] wr (((((((wr.setCell ⟨r, 0, none⟩ (.int .i64 cap)).setCell ⟨r, 1, none⟩ (.slice afl zs.length cfl)).setCell ⟨r, 2, none⟩ (.int .i64 cr)).setCell ⟨r, 3, none⟩ (.bool dn)).setCell ⟨r, 4, none⟩ (.slice akp ks.length ckp)).setCell ⟨r, 6, none⟩ (.int .i64 0)).setCell ⟨r, 7, none⟩ (.bool false)) :=
        (((((((Turn.refl [r] wr).set (.inl (by simp)) _ _).set (.inl (by simp)) _ _).set (.inl (by simp)) _ _).set (.inl (by simp)) _ _).set (.inl (by simp)) _ _).set (.inl (by simp)) _ _).set (.inl (by simp)) _ _
      have hrF : r ∈ F := by rw [hFF]; simp
      have t01 := HS.out.2.1
      have hnM := HS.out.2.2.2.2.2.2
      have hsz1 := t01.size
      have hszj := tj.size
      have tw : Turn F w wr := (t01.mono (by simp)).trans tj
      have tw9 := tw.trans (t9.mono fun k hk => by simp only [List.mem_singleton] at hk; rw [hk]; exact hrF)
      have hPr : ∀ q ∈ P, q ∉ [r] := fun q hq hm => (hPd q hq).1 (by simp only [List.mem_singleton] at hm; rw [hm]; exact hrF)
      have hGr : ∀ q ∈ Gj, q ∉ [r] := fun q hq hm => (hGd q hq).1 (by simp only [List.mem_singleton] at hm; rw [hm]; exact hrF)
      have hml : (M.restart cap cr dn zs ks).fs.length = j := by simp only [MD.restart, resE_length]; omega
      have hmf : (M.restart cap cr dn zs ks).fs = resE M.keep M.fs j := by simp only [MD.restart]; rw [← hnM]
      refine ⟨rfl, F, Gj ++ P, ⟨by rw [hmf]; exact hfit, _, ao, c, xs, hR9, ⟨rfl, rfl, rfl, rfl, rfl, ?_, ?_, fun hne a n c e => List.mem_append_right _ (hfP hne a n c e), fun hne a n c e => List.mem_append_right _ (hkP hne a n c e), by show (0 : Int) ≤ 0; omega⟩, ?_, ?_, ?_, ?_, ?_, fun q hq => ?_⟩, fun q hq => .inl hq, fun q hq => ?_, tw9⟩
      · exact (hrf.turn tw fun hne a n c e => (hPd _ (hfP (by intro e2; rw [e2] at hne; exact hne rfl) a n c e)).1).turn t9 fun hne a n c e => hPr _ (hfP (by intro e2; rw [e2] at hne; exact hne rfl) a n c e)
      · exact (hrk.turn tw fun hne a n c e => (hPd _ (hkP (by intro e2; rw [e2] at hne; exact hne rfl) a n c e)).1).turn t9 fun hne a n c e => hPr _ (hkP (by intro e2; rw [e2] at hne; exact hne rfl) a n c e)
      · rw [hml]; exact hv
      · rw [hml]
        exact owns_turn hown t9 (fun g hg => by simp only [List.mem_singleton]; rintro rfl; exact hnn hg)
      · rw [hmf]
        exact (hTe.turn t9 hGr).more fun k hk => List.mem_append_left _ hk
      · rw [hml]; exact hFF
      · rw [hml]; exact hnn
      · rcases List.mem_append.1 hq with hq | hq
        · exact ⟨(hGd q hq).1, Nat.lt_of_lt_of_le (hGd q hq).2 t9.size⟩
        · exact ⟨(hPd q hq).1, Nat.lt_of_lt_of_le (hPd q hq).2 tw9.size⟩
      · rcases List.mem_append.1 hq with hq | hq
        · exact (hGj q hq).imp id .inr
        · exact .inr (.inl hq)

end Go.Proofs.YthglbmnhlnpmkaaGreat

namespace Go.Proofs.YthglbmnhlnpmkaaGreat
open Go.RowKit Go.Maps Go.Sort Go.WideMaps

theorem ref_new (cap cr : Int) (dn : Bool) (fl kp : Value) (zs ks : List Int) (w : World) (hrf : Reads w fl (iv zs)) (hrk : Reads w kp (iv ks)) (P : List Nat)
    (hfP : zs ≠ [] → ∀ a n c, fl = .slice (some a) n c → a.block ∈ P) (hkP : ks ≠ [] → ∀ a n c, kp = .slice (some a) n c → a.block ∈ P) (hPd : ∀ q ∈ P, q < w.heap.size) :
    Calls Tryz.prog 9 #[.agg #[.int .i64 cap, fl, .int .i64 cr, .bool dn, kp]] w fun e w' => ∃ r F, e = .returned (theRef r) ∧ RD w' r (MD.new cap cr dn zs ks) F P ∧ (∀ q ∈ F, w.heap.size ≤ q) ∧ Turn [] w w' := by
  obtain ⟨afl, cfl, rfl⟩ : ∃ ao c, fl = .slice ao zs.length c := by obtain ⟨ao, c, rfl, _⟩ := hrf; exact ⟨ao, c, by rw [iv_length]⟩
  obtain ⟨akp, ckp, rfl⟩ : ∃ ao c, kp = .slice ao ks.length c := by obtain ⟨ao, c, rfl, _⟩ := hrk; exact ⟨ao, c, by rw [iv_length]⟩
  have HA := Lib.hid (And.intro hrf (And.intro hrk (And.intro hfP (And.intro hkP hPd))))
  clear hrf hrk hfP hkP hPd
  go_enter Tryz.func9, Tryz.ntmps9
  go_wp2_with fail
  go_ret
  obtain ⟨hrf, hrk, hfP, hkP, hPd⟩ := HA.out
  have t1 : Turn [] w (w.alloc (.cells #[.int .i64 cap, .slice afl zs.length cfl, .int .i64 cr, .bool dn, .slice akp ks.length ckp] 29)) := (Turn.refl [] w).alloc _
  have hnew := heap_alloc_new (w.alloc (.cells #[.int .i64 cap, .slice afl zs.length cfl, .int .i64 cr, .bool dn, .slice akp ks.length ckp] 29)) (.cells #[.int .i64 cap, .slice afl zs.length cfl, .int .i64 cr, .bool dn, .slice akp ks.length ckp, .slice none 0 0, .int .i64 0, .bool false] 62)
  have t2 := t1.alloc (.cells #[.int .i64 cap, .slice afl zs.length cfl, .int .i64 cr, .bool dn, .slice akp ks.length ckp, .slice none 0 0, .int .i64 0, .bool false] 62)
  refine ⟨w.heap.size + 1, [w.heap.size + 1], by simp [theRef], ⟨Fit.nil, { cap := cap, fl := .slice afl zs.length cfl, cr := cr, dn := dn, kp := .slice akp ks.length ckp, fv := .slice none 0 0, n := 0, dw := false }, none, 0, [], by simpa [RefC, RS.cells] using hnew, ⟨rfl, rfl, rfl, rfl, rfl, hrf.turn t2 (by simp), hrk.turn t2 (by simp), hfP, hkP, by show (0 : Int) ≤ 0; omega⟩, rfl, World.ownsRow_nil _ _ _ _, TellR.nil _ _, rfl, by simp [Value.ownBlock], fun q hq => ⟨?_, Nat.lt_of_lt_of_le (hPd q hq) t2.size⟩⟩, fun q hq => ?_, t2⟩
  · have := hPd q hq
    simp only [List.mem_singleton]
    omega
  · simp only [List.mem_singleton] at hq
    omega

/-- A list of files that can be read. -/
def FlR (w : World) (v : Value) (fs : List Ent) : Prop :=
  ∃ (ao : Option Addr) (c : Nat) (xs : List Value), v = .slice ao fs.length c ∧ xs.length = fs.length * 3 ∧ (∀ a, ao = some a → ∀ (j : Nat) (u : Value), xs[j]? = some u → w.cell? (a.add j) = some u) ∧ (ao = none → fs = []) ∧
    ∀ (j : Nat) (x : Ent), fs[j]? = some x → ∃ (ab : Option Addr) (cb : Nat), xs[j * 3]? = some (encStr x.1) ∧ xs[j * 3 + 1]? = some (.slice ab x.2.1.length cb) ∧ xs[j * 3 + 2]? = some (.int .i64 (x.2.2 : Nat)) ∧ Reads w (.slice ab x.2.1.length cb) (bv x.2.1)

theorem row_reads {w : World} {base : Nat} {ao : Option Addr} {n c : Nat} {xs : List Value} (h : w.ownsRow base 70 3 (.slice ao n c) n xs) (hx : xs.length = n * 3) : (∀ a, ao = some a → ∀ j u, xs[j]? = some u → w.cell? (a.add j) = some u) ∧ (ao = none → n = 0) := by
  constructor
  · intro a ha j u hj
    obtain ⟨g, e, hc, _⟩ := row_cell h hx hj
    rw [ha] at e
    cases e
    rw [Addr.add_lit, Nat.zero_add]
    exact hc
  · intro e
    rcases h.2 with ⟨_, h0⟩ | ⟨g, cap, cur, hv, _⟩
    · exact h0
    · simp only [Value.slice.injEq] at hv
      rw [hv.1] at e; cases e

theorem FlR.told {w : World} {base : Nat} {row : Option Nat} {ao : Option Addr} {c : Nat} {xs : List Value} {fs : List Ent} (h : w.ownsRow base 70 3 (.slice ao fs.length c) fs.length xs) (hT : ToldE w base row fs xs) : FlR w (.slice ao fs.length c) fs := by
  obtain ⟨h1, h2⟩ := row_reads h hT.1
  refine ⟨ao, c, xs, rfl, hT.1, h1, fun e => List.eq_nil_of_length_eq_zero (h2 e), fun j x hj => ?_⟩
  obtain ⟨ab, cb, e1, e2, e3, e4, _⟩ := hT.2 j x hj
  exact ⟨ab, cb, e1, e2, e3, owns_reads e4⟩
theorem FlR.ref {w : World} {G : List Nat} {ao : Option Addr} {c : Nat} {xs : List Value} {fs : List Ent} (h : w.ownsRow 0 70 3 (.slice ao fs.length c) fs.length xs) (hT : TellR w G xs fs) : FlR w (.slice ao fs.length c) fs := by
  obtain ⟨h1, h2⟩ := row_reads h hT.1
  refine ⟨ao, c, xs, rfl, hT.1, h1, fun e => List.eq_nil_of_length_eq_zero (h2 e), fun j x hj => ?_⟩
  obtain ⟨ab, cb, e1, e2, e3, e4, _⟩ := hT.2 j x hj
  exact ⟨ab, cb, e1, e2, e3, e4⟩

set_option maxRecDepth 100000 in
set_option maxHeartbeats 4000000 in
/-- Two lists of the same files are one. -/
theorem ref_files (va vb : Value) (fs : List Ent) (w : World) (ha : FlR w va fs) (hb : FlR w vb fs) (hl : fs.length < 900000) :
    Calls Tryz.prog 43 #[va, vb] w fun e w' => e = .returned (.bool true) ∧ Turn [] w w' := by
  obtain ⟨aa, ca, xs, rfl, hxl, hxc, hxn, hxt⟩ := ha
  obtain ⟨ab, cb, ys, rfl, hyl, hyc, hyn, hyt⟩ := hb
  obtain ⟨n, hn⟩ : ∃ n, n = fs.length := ⟨_, rfl⟩
  rw [← hn] at hxl hyl hl ⊢
  have HA := Lib.hid (And.intro hxl (And.intro hxc (And.intro hxn hxt)))
  have HB := Lib.hid (And.intro hyl (And.intro hyc (And.intro hyn hyt)))
  have HN := Lib.hid hn
  clear hxl hxc hxn hxt hyl hyc hyn hyt hn
  go_enter Tryz.func43, Tryz.ntmps43
  go_wp2_with fail
  go_loopw [5] (fun iv wr => ∃ j q : Nat, j ≤ n ∧ iv = .int .i64 j ∧ wr = w.drewN q)
    (fun iv _ => n - (intOf iv).toNat)
  case atStart => exact ⟨0, 0, Nat.zero_le _, rfl, rfl⟩
  case round =>
    obtain ⟨j, q, hj, rfl, rfl⟩ := hrel
    by_cases h1 : j < n
    · have h3 : (j : Int) < (n : Int) := by omega
      obtain ⟨x, hx⟩ : ∃ x, fs[j]? = some x := ⟨_, List.getElem?_eq_getElem (by have := HN.out; omega)⟩
      obtain ⟨a, rfl⟩ : ∃ a, aa = some a := by
        cases aa with
        | none => have := HA.out.2.2.1 rfl; rw [this] at hx; cases hx
        | some a => exact ⟨a, rfl⟩
      obtain ⟨b, rfl⟩ : ∃ b, ab = some b := by
        cases ab with
        | none => have := HB.out.2.2.1 rfl; rw [this] at hx; cases hx
        | some a => exact ⟨a, rfl⟩
      obtain ⟨a1, c1, p1, p2, p3, p4⟩ := HA.out.2.2.2 j x hx
      obtain ⟨b1, d1, q1, q2, q3, q4⟩ := HB.out.2.2.2 j x hx
      have k1 := HA.out.2.1 a rfl _ _ p1
      have k2 := HA.out.2.1 a rfl _ _ p2
      rw [← Addr.add_add] at k2
      have k2' : w.cell? ⟨(a.add (j * 3)).block, (a.add (j * 3)).off + 1, none⟩ = _ := k2
      have k3 := HA.out.2.1 a rfl _ _ p3
      rw [← Addr.add_add] at k3
      have k3' : w.cell? ⟨(a.add (j * 3)).block, (a.add (j * 3)).off + 2, none⟩ = _ := k3
      have m1 := HB.out.2.1 b rfl _ _ q1
      have m2 := HB.out.2.1 b rfl _ _ q2
      rw [← Addr.add_add] at m2
      have m2' : w.cell? ⟨(b.add (j * 3)).block, (b.add (j * 3)).off + 1, none⟩ = _ := m2
      have m3 := HB.out.2.1 b rfl _ _ q3
      rw [← Addr.add_add] at m3
      have m3' : w.cell? ⟨(b.add (j * 3)).block, (b.add (j * 3)).off + 2, none⟩ = _ := m3
      have v1 : ∀ W : World, (∀ a, W.cell? a = w.cell? a) → (convert 46 9 (.slice a1 x.2.1.length c1)).run Tryz.prog W = .ok (.string ⟨x.2.1.toArray⟩) W := fun W hW => conv_reads (by obtain ⟨ao, c, e, h0, h1, h2⟩ := p4; exact ⟨ao, c, e, h0, h1, fun a ha j u hj => by rw [hW]; exact h2 a ha j u hj⟩)
      have v2 : ∀ W : World, (∀ a, W.cell? a = w.cell? a) → (convert 46 9 (.slice b1 x.2.1.length d1)).run Tryz.prog W = .ok (.string ⟨x.2.1.toArray⟩) W := fun W hW => conv_reads (by obtain ⟨ao, c, e, h0, h1, h2⟩ := q4; exact ⟨ao, c, e, h0, h1, fun a ha j u hj => by rw [hW]; exact h2 a ha j u hj⟩)
      have w1 : ∀ q, (convert 46 9 (.slice a1 x.2.1.length c1)).run Tryz.prog (w.drewN q) = .ok (.string ⟨x.2.1.toArray⟩) (w.drewN q) := fun q => v1 _ fun _ => rfl
      have w2 : ∀ q, (convert 46 9 (.slice b1 x.2.1.length d1)).run Tryz.prog (w.drewN q) = .ok (.string ⟨x.2.1.toArray⟩) (w.drewN q) := fun q => v2 _ fun _ => rfl
      unfold encStr at k1 m1
      have n1 : (x.1 != x.1) = false := by simp
      have n2 : (x.2.1 != x.2.1) = false := by simp
      have n3 : ((x.2.2 : Int) != (x.2.2 : Int)) = false := by simp
      clear hx p1 p2 p3 p4 q1 q2 q3 q4 v1 v2
      go_wp2_with fail
      go_quiet (fail)
      go_wp2_with fail
      exact ⟨⟨j + 1, _, by omega, by simp, rfl⟩, by simp [intOf]; omega⟩
    · have h3 : ¬ (j : Int) < (n : Int) := by omega
      obtain rfl : j = n := by omega
      go_wp2_with fail
      go_ret
      exact ⟨rfl, (Turn.refl [] w).drewN _⟩

end Go.Proofs.YthglbmnhlnpmkaaGreat
