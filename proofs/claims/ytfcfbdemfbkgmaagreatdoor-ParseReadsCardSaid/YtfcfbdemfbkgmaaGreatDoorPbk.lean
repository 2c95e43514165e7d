/- The reference's proc under way. Numbers and types by name. -/
import Derived.Test.YtfcfbdemfbkgmaaGreatDoorPbi
/- The reference's blocks, whole. Numbers and types by name. -/
namespace Go.Proofs.YtfcfbdemfbkgmaaGreatDoor
open Go.RowKit Go.Lib
set_option maxRecDepth 100000

theorem stmt_ok (w0 : World) (b n : Nat) (vl : Value) (L : List Tk) (hL : TokL L) (KC : CaK 134 w0 b n vl L) : ∀ N, StK 119 w0 b n vl L N ∧ BlK 96 w0 b n vl L N := by
  intro N
  induction N with
  | zero => exact ⟨fun w s _ _ hn => absurd hn (Nat.not_lt_zero _), fun w s _ _ hn => absurd hn (Nat.not_lt_zero _)⟩
  | succ N ih =>
    have hS := stmt_walk w0 b n vl L N hL KC ih.2
    exact ⟨hS, block_walk w0 b n vl L (N + 1) hL hS⟩
theorem rdr_block (w0 w : World) (b n : Nat) (vl : Value) (L : List Tk) (s : PS) (h : Rdr w0 w b n vl L s) (hd : Dok s) :
    Calls Tryz.prog 96 #[.pointer (some ⟨b, 0, none⟩)] w (BlTold w0 w b n vl L (blockN L s)) :=
  (stmt_ok w0 b n vl L h.ok (call_walk w0 b n vl L h.ok) (L.length + 1)).2 w s h hd (rem_lt h.lt)

end Go.Proofs.YtfcfbdemfbkgmaaGreatDoor

/- A plain record under way; the reference's variable. Numbers and types by name. -/
namespace Go.Proofs.YtfcfbdemfbkgmaaGreatDoor
open Go.RowKit Go.Lib
set_option maxRecDepth 100000

theorem numV_few (l : List UInt8) (hl : l.length ≤ 9) (hd : ∀ c ∈ l, isDig c = true) : numV l < 1000000000 := by
  have hb9 : ∀ k, k ≤ 9 → k ≤ l.length → numV (l.take k) < 10 ^ k := by
    intro k
    induction k with
    | zero => intro _ _; exact Nat.one_pos
    | succ k ih =>
      intro h1 h2
      have := ih (by omega) (by omega)
      obtain ⟨c, hc⟩ : ∃ c, l[k]? = some c := ⟨_, List.getElem?_eq_getElem (by omega)⟩
      rw [List.take_add_one, hc]
      show (l.take k ++ [c]).foldl _ 0 < _
      rw [List.foldl_append]
      have hcd := hd c (List.mem_of_getElem? hc)
      unfold isDig at hcd
      simp only [Bool.and_eq_true, decide_eq_true_eq] at hcd
      change 10 * numV (l.take k) + (c.toNat - 48) < _
      rw [Nat.pow_succ]
      omega
  have := hb9 l.length hl (Nat.le_refl _)
  rw [List.take_length] at this
  exact Nat.lt_of_lt_of_le this (Nat.pow_le_pow_right (by decide) hl)

/-- A record under way: the reader, its own block, the block of the result. -/
structure RcAt (t : TypeId) (w0 w wr : World) (b n : Nat) (vl : Value) (L : List Tk) (T U : Nat) (xs zs : List Value) (s : PS) : Prop where
  r : Rdr w0 wr b n vl L s
  c : Chg [b] w wr
  sb : wr.heap[T]? = some (.cells xs.toArray t (0, 0))
  z : wr.heap[U]? = some (.cells zs.toArray t (0, 0))
  bw : b < w.heap.size
  wT : w.heap.size ≤ T
  wU : w.heap.size ≤ U
  tu : T ≠ U
theorem RcAt.keep {t : TypeId} {w0 w wr w1 : World} {b n : Nat} {vl : Value} {L : List Tk} {T U : Nat} {xs zs : List Value} {s s1 : PS} (H : RcAt t w0 w wr b n vl L T U xs zs s) (hr : Rdr w0 w1 b n vl L s1) (hc : Chg [b] wr w1) : RcAt t w0 w w1 b n vl L T U xs zs s1 := by
  have hb := H.bw
  have hT := H.wT
  have hU := H.wU
  exact ⟨hr, H.c.trans hc, (hc.block T (Array.getElem?_eq_some_iff.1 H.sb).1 (by simp only [List.mem_singleton]; omega)).trans H.sb, (hc.block U (Array.getElem?_eq_some_iff.1 H.z).1 (by simp only [List.mem_singleton]; omega)).trans H.z, hb, hT, hU, H.tu⟩
theorem RcAt.field {t : TypeId} {w0 w wr : World} {b n : Nat} {vl : Value} {L : List Tk} {T U : Nat} {xs zs : List Value} {s : PS} (H : RcAt t w0 w wr b n vl L T U xs zs s) (j : Nat) (x : Value) (xs' : List Value) (e : xs.toArray.setIfInBounds j x = xs'.toArray) : RcAt t w0 w (wr.setCell ⟨T, j, none⟩ x) b n vl L T U xs' zs s := by
  have hb := H.bw
  have hT := H.wT
  have hU := H.wU
  have ct : Chg [T] wr (wr.setCell ⟨T, j, none⟩ x) := (Chg.refl [T] wr).set (.inl (by simp)) j x
  exact ⟨H.r.chg ct (fun y hy => by simp only [List.mem_singleton] at hy; omega) (H.r.r.chg ct (by simp only [List.mem_singleton]; omega)) H.r.lt H.r.deep, H.c.trans' ct (fun y hy => by simp only [List.mem_singleton] at hy; subst hy; exact .inr hT), by rw [heap_set H.sb, e], (ct.block U (Array.getElem?_eq_some_iff.1 H.z).1 (by simp only [List.mem_singleton]; exact fun h => H.tu h.symm)).trans H.z, hb, hT, hU, H.tu⟩
theorem RcAt.cell {t : TypeId} {w0 w wr : World} {b n : Nat} {vl : Value} {L : List Tk} {T U : Nat} {xs zs : List Value} {s : PS} (H : RcAt t w0 w wr b n vl L T U xs zs s) (j : Nat) (v : Value) (hj : xs[j]? = some v) : wr.cell? ⟨T, j, none⟩ = some v :=
  cellsN H.sb j v (by rw [List.getElem?_toArray]; exact hj)
theorem RcAt.free {t : TypeId} {w0 w wr : World} {b n : Nat} {vl : Value} {L : List Tk} {T U : Nat} {xs zs : List Value} {s : PS} (H : RcAt t w0 w wr b n vl L T U xs zs s) (j : Nat) : wr.frozen? ⟨T, j, none⟩ = false := by
  simp only [World.frozen?]
  rw [H.sb]
  simp
theorem RcAt.last {t : TypeId} {w0 w wr : World} {b n : Nat} {vl : Value} {L : List Tk} {T U : Nat} {xs zs : List Value} {s : PS} (H : RcAt t w0 w wr b n vl L T U xs zs s) : Rdr w0 (wr.setRow U xs.toArray) b n vl L s ∧ Chg [b] w (wr.setRow U xs.toArray) := by
  have hb := H.bw
  have hU := H.wU
  have hc : Chg [U] wr (wr.setRow U xs.toArray) := ⟨rfl, rfl, rfl, by simp, fun k _ hk => setRow_other wr U k _ (by simpa using hk)⟩
  exact ⟨H.r.chg hc (fun x hx => by simp only [List.mem_singleton] at hx; omega) (H.r.r.chg hc (by simp only [List.mem_singleton]; omega)) H.r.lt H.r.deep, H.c.trans' hc (fun x hx => by simp only [List.mem_singleton] at hx; subst hx; exact .inr hU)⟩

/-- What a variable's reader leaves. -/
def varV (v : Vrb) : List Value := [.string (tx v.name), .string (tx v.label), .int .i64 v.init, .int .i64 (v.pos : Int)]
def VaTold (w0 w : World) (b n : Nat) (vl : Value) (L : List Tk) (r : Vrb × PS) (e : Ending) (w' : World) : Prop :=
  e = .returned (.agg (varV r.1).toArray) ∧ Rdr w0 w' b n vl L r.2 ∧ Chg [b] w w'
theorem var_info (v : Vrb) : (Tryz.prog.info? 90).map (·.size) = some (varV v).toArray.size := by
  show _ = some 4
  kernel_rfl
theorem var_ones (v : Vrb) : (varV v).toArray.all (·.oneCell') = true := by
  simp [varV, Value.oneCell']
def vrb0 : Vrb := ⟨[], [], 0, 0⟩

set_option maxHeartbeats 4000000 in
theorem rdr_variable (w0 w : World) (b n : Nat) (vl : Value) (L : List Tk) (s : PS) (h : Rdr w0 w b n vl L s) :
    Calls Tryz.prog 63 #[.pointer (some ⟨b, 0, none⟩)] w (VaTold w0 w b n vl L (varT L s)) := by
  obtain ⟨R, hR⟩ : ∃ R, varT L s = R := ⟨_, rfl⟩
  rw [hR]
  unfold varT at hR
  simp only at hR
  have HR := Lib.hid hR
  have hbw := h.blt
  have hc0 : Chg [] w (w.alloc (.cells #[.string ⟨#[]⟩, .string ⟨#[]⟩, .int .i64 0, .int .i64 0] 90)) := (Chg.refl [] w).alloc _
  have H0 := Lib.hid (And.intro (h.chg hc0 (fun x hx => by cases hx) (h.r.chg hc0 (by simp)) h.lt h.deep) (And.intro (hc0.mono (G := [b]) (fun x hx => by cases hx)) (heap_alloc_new w (.cells #[.string ⟨#[]⟩, .string ⟨#[]⟩, .int .i64 0, .int .i64 0] 90))))
  have HL := Lib.hid h.ok
  clear hR h hc0
  go_enter Tryz.func63, Tryz.ntmps63
  go_wp2_with fail
  refine (rdr_here w0 _ b n _ L s H0.out.1).mono ?_
  rintro e1 w1 hr
  obtain ⟨rfl, X1⟩ := hr.out1
  clear hr
  go_wp2_with fail
  refine (rdr_name w0 _ b n _ L s X1.out.1).mono ?_
  rintro e2 w2 hr
  obtain ⟨rfl, X2⟩ := hr.out1
  clear hr
  obtain ⟨q, hq⟩ : ∃ q, (curT L s).pos = q := ⟨_, rfl⟩
  obtain ⟨nm, hnm⟩ : ∃ x, (nameT L s).1 = x := ⟨_, rfl⟩
  obtain ⟨s1, hs1⟩ : ∃ x, (nameT L s).2 = x := ⟨_, rfl⟩
  rw [hq, hnm, hs1] at HR
  have HQ := Lib.hid (And.intro hq (And.intro hnm hs1))
  have h1 : RcAt 90 w0 w (w2.alloc (.cells #[.string (tx nm), .string ⟨#[]⟩, .int .i64 0, .int .i64 (q : Int)] 90)) b n vl L w2.heap.size w.heap.size (varV ⟨nm, [], 0, q⟩) (varV vrb0) s1 := by
    have c12 := X1.out.2.trans X2.out.2
    have hs2 := c12.size
    simp only [World.size_alloc] at hs2
    have hca : Chg [] w2 (w2.alloc (.cells #[.string (tx nm), .string ⟨#[]⟩, .int .i64 0, .int .i64 (q : Int)] 90)) := (Chg.refl [] w2).alloc _
    have hr2 : Rdr w0 w2 b n vl L s1 := by rw [← hs1]; exact X2.out.1
    have hz := (c12.block w.heap.size (by simp) (by simp only [List.mem_singleton]; omega)).trans H0.out.2.2
    exact ⟨hr2.chg hca (fun x hx => by cases hx) (hr2.r.chg hca (by simp)) hr2.lt hr2.deep, (H0.out.2.1.trans c12).trans' hca (fun x hx => by cases hx), heap_alloc_new w2 _, (hca.block w.heap.size (by omega) (by simp)).trans hz, hbw, by omega, Nat.le_refl _, by omega⟩
  have H1 := Lib.hid h1
  clear h1 X1 X2 H0
  try rw [hq]
  try rw [hnm]
  clear hq hnm hs1
  go_upto_region 2 with fail
  generalize w2.alloc (.cells #[.string (tx nm), .string ⟨#[]⟩, .int .i64 0, .int .i64 (q : Int)] 90) = W at *
  generalize w2.heap.size = T at *
  have HBW := Lib.hid hbw
  clear hbw
  generalize w.heap.size = U at H1 ⊢
  go_wp2_with fail
  refine (rdr_want w0 _ b n _ L s1 [58] H1.out.r).mono ?_
  rintro e3 w3 hr
  obtain ⟨rfl, X3⟩ := hr.out1
  clear hr
  have H3 := Lib.hid (H1.out.keep X3.out.1 X3.out.2)
  go_wp2_with fail
  refine (rdr_name w0 _ b n _ L _ H3.out.r).mono ?_
  rintro e4 w4 hr
  obtain ⟨rfl, X4⟩ := hr.out1
  clear hr
  have H4 := Lib.hid (H3.out.keep X4.out.1 X4.out.2)
  generalize nameT L (wantT L s1 [58]) = nb at *
  obtain ⟨lb, s4⟩ := nb
  have k1 := H4.out.cell 1 _ rfl
  have f1 := H4.out.free 1
  have H5 := Lib.hid (H4.out.field 1 (.string (tx lb)) (varV ⟨nm, lb, 0, q⟩) rfl)
  clear H1 X3 H3 X4 H4
  go_wp2_with fail
  refine (rdr_want w0 _ b n _ L _ [61] H5.out.r).mono ?_
  rintro e6 w6 hr
  obtain ⟨rfl, X6⟩ := hr.out1
  clear hr k1 f1
  have H6 := Lib.hid (H5.out.keep X6.out.1 X6.out.2)
  try simp only at H6
  try simp only at X6
  try simp only at HR
  generalize wantT L s4 [61] = s5 at *
  go_wp2_with fail
  refine (rdr_take w0 _ b n _ L _ [45] H6.out.r).mono ?_
  rintro e7 w7 hr
  obtain ⟨rfl, X7⟩ := hr.out1
  clear hr
  have H7 := Lib.hid (H6.out.keep X7.out.1 X7.out.2)
  clear H5 X6 H6 X7
  obtain ⟨ng, hng⟩ : ∃ x, isT L s5 [45] = x := ⟨_, rfl⟩
  rw [hng]
  rw [hng] at HR
  generalize takeT L s5 [45] = s6 at *
  obtain ⟨a, c, rfl, hin, d0, d1, d2⟩ := H7.out.r.cur (Grow.refl w7)
  obtain ⟨a', c', ea, _, f0, f1, f2⟩ := H7.out.r.cur (w1 := w7.alloc tok0) ((Below.refl _ w7).alloc (Nat.le_refl _) _)
  simp only [Value.slice.injEq, Option.some.injEq] at ea
  obtain ⟨rfl, _, rfl⟩ := ea
  have r0 := H7.out.r.r.c0
  have r1 := H7.out.r.r.c1
  have hb := H7.out.r.blt
  obtain ⟨T0, hT⟩ : ∃ T0, curT L s6 = T0 := ⟨_, rfl⟩
  have HT := Lib.hid hT
  rw [hT] at d0 d1 d2 f0 f1 f2 HR
  obtain ⟨kd, tt, tp⟩ := T0
  simp only at d0 d1 d2 f0 f1 f2 HR
  clear hT hng
  go_wp2_with fail
  go_region
  have hC : Chg [] w7 (w7.alloc (.cells #[.int .i64 kd, .string (tx tt), .int .i64 (tp : Int)] 52)).drew := ((Chg.refl [] w7).alloc _).drew
  have hnew := heap_alloc_new w7 (.cells #[.int .i64 kd, .string (tx tt), .int .i64 (tp : Int)] 52)
  have H8 : Hid (RcAt 90 w0 w (w7.alloc (.cells #[.int .i64 kd, .string (tx tt), .int .i64 (tp : Int)] 52)).drew b n (.slice (some a) n c) L T U (varV ⟨nm, lb, 0, q⟩) (varV vrb0) s6) := Lib.hid
    (H7.out.keep (H7.out.r.chg hC (fun x hx => by cases hx) (H7.out.r.r.chg hC (by simp)) H7.out.r.lt H7.out.r.deep) (hC.mono (fun x hx => by cases hx)))
  have TK : Hid (TokC (w7.alloc (.cells #[.int .i64 kd, .string (tx tt), .int .i64 (tp : Int)] 52)).drew w7.heap.size ⟨kd, tt, tp⟩ ∧ w7.heap.size ≠ b ∧ w7.heap.size ≠ T) := Lib.hid
    ⟨⟨cellsN hnew 0 _ rfl, cellsN hnew 1 _ rfl, cellsN hnew 2 _ rfl⟩, by omega, by have := (Array.getElem?_eq_some_iff.1 H7.out.sb).1; omega⟩
  clear hC hnew r0 r1 d0 d1 d2 f0 f1 f2 hin hb H7
  generalize (w7.alloc (.cells #[.int .i64 kd, .string (tx tt), .int .i64 (tp : Int)] 52)).drew = W8 at *
  generalize w7.heap.size = T5 at *
  have r3 := H8.out.r.r.c3
  have ck := TK.out.1.ck
  try simp only at ck
  by_cases he : s6.e = 0
  case neg =>
    have he2 : (s6.e == 0) = false := by simpa using he
    go_wp2_with fail
    refine (rdr_fail w0 _ b n _ L s6 11 H8.out.r).mono ?_
    rintro e9 w9 hr
    obtain ⟨rfl, X9⟩ := hr.out1
    clear hr
    have HZ := Lib.hid (H8.out.keep X9.out.1 X9.out.2)
    go_wp2_with (first | (refine wpList_load_row rfl 90 (.tmp 3) rfl T rfl _ _ _ _ HZ.out.sb Tryz.underlying90 rfl (var_info _) ?_) | (refine wpList_store_row rfl 90 (.tmp 2) (.tmp 42) rfl U _ rfl rfl _ _ HZ.out.z (var_info _) rfl (var_ones _) ?_))
    try simp only [Exit.inBlock, Exit.then]
    refine bodyPost_ret (results_cell_row rfl _ _ U _ _ _ _ rfl (setRow_heap _ U _ _ _ _ HZ.out.z) Tryz.underlying90 rfl (var_info _)) rfl ?_
    have hR := HR.out
    rw [if_pos (.inl he)] at hR
    rw [← hR]
    exact ⟨rfl, HZ.out.last⟩
  case pos =>
    rw [he] at r3
    by_cases hk2 : kd = 2
    case neg =>
      have hk2' : (kd == 2) = false := by simpa using hk2
      have HE := Lib.hid he
      clear he
      go_wp2_with fail
      refine (rdr_fail w0 _ b n _ L s6 11 H8.out.r).mono ?_
      rintro e9 w9 hr
      obtain ⟨rfl, X9⟩ := hr.out1
      clear hr
      have HZ := Lib.hid (H8.out.keep X9.out.1 X9.out.2)
      go_wp2_with (first | (refine wpList_load_row rfl 90 (.tmp 3) rfl T rfl _ _ _ _ HZ.out.sb Tryz.underlying90 rfl (var_info _) ?_) | (refine wpList_store_row rfl 90 (.tmp 2) (.tmp 42) rfl U _ rfl rfl _ _ HZ.out.z (var_info _) rfl (var_ones _) ?_))
      try simp only [Exit.inBlock, Exit.then]
      refine bodyPost_ret (results_cell_row rfl _ _ U _ _ _ _ rfl (setRow_heap _ U _ _ _ _ HZ.out.z) Tryz.underlying90 rfl (var_info _)) rfl ?_
      have hR := HR.out
      rw [if_pos (.inr hk2)] at hR
      rw [← hR]
      exact ⟨rfl, HZ.out.last⟩
    case pos =>
      subst hk2
      have hnum := HL.out.num _ (cur_mem H8.out.r.lt) (by rw [HT.out])
      rw [HT.out] at hnum
      obtain ⟨hn9, hdig⟩ := hnum
      have HNM := Lib.hid (And.intro hn9 (And.intro hdig (numV_few tt hn9 hdig)))
      have hmore := HL.out.more s6.i H8.out.r.lt (by change (curT L s6).kind ≠ 0; rw [HT.out]; show (2 : Int) ≠ 0; decide)
      have hcast : ((s6.i + 1 : Nat) : Int) = (s6.i : Int) + 1 := by omega
      have h9 := H8.out.keep (H8.out.r.set1 (s6.i + 1) hmore) ((Chg.refl [b] W8).set (.inl (by simp)) 1 _)
      have ct : (W8.setCell ⟨b, 1, none⟩ (.int .i64 ((s6.i + 1 : Nat) : Int))).cell? ⟨T5, 1, none⟩ = some (.string (tx tt)) := (TK.out.1.chg ((Chg.refl [b] W8).set (.inl (by simp)) 1 _) (by simpa using TK.out.2.1)).ct
      rw [hcast] at h9 ct
      have r1 := H8.out.r.r.c1
      have fz := H8.out.r.r.fz 1
      have hi9 := H8.out.r.few
      have H9 := Lib.hid h9
      have HE := Lib.hid he
      clear he h9 hn9 hdig hmore hcast
      cases ng with
      | true =>
        go_wp2_with fail
        refine (num_any tt HNM.out.1 HNM.out.2.1 _).mono ?_
        rintro e9 w9 ⟨rfl, rfl⟩
        have k2 := H9.out.cell 2 _ rfl
        have g2 := H9.out.free 2
        have H10 := Lib.hid ((H9.out.field 2 (.int .i64 ((numV tt : Nat) : Int)) (varV ⟨nm, lb, ((numV tt : Nat) : Int), q⟩) rfl).field 2 (.int .i64 (-((numV tt : Nat) : Int))) (varV ⟨nm, lb, (-((numV tt : Nat) : Int)), q⟩) rfl)
        have nb9 := HNM.out.2.2
        go_wp2_with fail
        refine (rdr_want w0 _ b n _ L _ [59] H10.out.r).mono ?_
        rintro e11 w11 hr
        obtain ⟨rfl, X11⟩ := hr.out1
        clear hr
        have HZ := Lib.hid (H10.out.keep X11.out.1 X11.out.2)
        clear H8 H9 H10 X11 k2 g2
        go_wp2_with (first | (refine wpList_load_row rfl 90 (.tmp 3) rfl T rfl _ _ _ _ HZ.out.sb Tryz.underlying90 rfl (var_info _) ?_) | (refine wpList_store_row rfl 90 (.tmp 2) (.tmp 61) rfl U _ rfl rfl _ _ HZ.out.z (var_info _) rfl (var_ones _) ?_))
        try simp only [Exit.inBlock, Exit.then]
        refine bodyPost_ret (results_cell_row rfl _ _ U _ _ _ _ rfl (setRow_heap _ U _ _ _ _ HZ.out.z) Tryz.underlying90 rfl (var_info _)) rfl ?_
        have hR := HR.out
        rw [if_neg (by rw [HE.out]; simp)] at hR
        rw [if_pos trivial] at hR
        rw [← hR]
        exact ⟨rfl, HZ.out.last⟩
      | false =>
        go_wp2_with fail
        refine (num_any tt HNM.out.1 HNM.out.2.1 _).mono ?_
        rintro e9 w9 ⟨rfl, rfl⟩
        have k2 := H9.out.cell 2 _ rfl
        have g2 := H9.out.free 2
        have H10 := Lib.hid (H9.out.field 2 (.int .i64 ((numV tt : Nat) : Int)) (varV ⟨nm, lb, ((numV tt : Nat) : Int), q⟩) rfl)
        have nb9 := HNM.out.2.2
        go_wp2_with fail
        refine (rdr_want w0 _ b n _ L _ [59] H10.out.r).mono ?_
        rintro e11 w11 hr
        obtain ⟨rfl, X11⟩ := hr.out1
        clear hr
        have HZ := Lib.hid (H10.out.keep X11.out.1 X11.out.2)
        clear H8 H9 H10 X11 k2 g2
        go_wp2_with (first | (refine wpList_load_row rfl 90 (.tmp 3) rfl T rfl _ _ _ _ HZ.out.sb Tryz.underlying90 rfl (var_info _) ?_) | (refine wpList_store_row rfl 90 (.tmp 2) (.tmp 61) rfl U _ rfl rfl _ _ HZ.out.z (var_info _) rfl (var_ones _) ?_))
        try simp only [Exit.inBlock, Exit.then]
        refine bodyPost_ret (results_cell_row rfl _ _ U _ _ _ _ rfl (setRow_heap _ U _ _ _ _ HZ.out.z) Tryz.underlying90 rfl (var_info _)) rfl ?_
        have hR := HR.out
        rw [if_neg (by rw [HE.out]; simp)] at hR
        rw [if_neg (by simp)] at hR
        rw [← hR]
        exact ⟨rfl, HZ.out.last⟩

end Go.Proofs.YtfcfbdemfbkgmaaGreatDoor

namespace Go.Proofs.YtfcfbdemfbkgmaaGreatDoor
open Go.RowKit Go.Lib
set_option maxRecDepth 100000

def parV (p : Par) : List Value := [.string (tx p.name), .string (tx p.label), .int .i64 (p.pos : Int)]
def parsV (l : List Par) : List Value := l.flatMap parV
def usesV (l : List (List UInt8)) : List Value := l.map fun x => .string (tx x)
theorem parsV_snoc (l : List Par) (p : Par) : parsV (l ++ [p]) = parsV l ++ parV p := by simp [parsV]
theorem usesV_snoc (l : List (List UInt8)) (p : List UInt8) : usesV (l ++ [p]) = usesV l ++ [.string (tx p)] := by simp [usesV]
theorem parV_one (p : Par) : ∀ u ∈ parV p, u.oneCell' = true := by
  intro u hu
  simp only [parV, List.mem_cons, List.not_mem_nil, or_false] at hu
  rcases hu with rfl | rfl | rfl <;> rfl
theorem pars_parts : ∀ l : List Par, Parts 3 (fun p c => c = parV p) l (parsV l)
  | [] => rfl
  | o :: l => ⟨parV o, parsV l, by simp [parsV], rfl, rfl, pars_parts l⟩
theorem uses_parts : ∀ l : List (List UInt8), Parts 1 (fun p c => c = [Value.string (tx p)]) l (usesV l)
  | [] => rfl
  | o :: l => ⟨[.string (tx o)], usesV l, by simp [usesV], rfl, rfl, uses_parts l⟩
theorem elemPar : Elem 33 56 (.agg #[.string ⟨#[]⟩, .string ⟨#[]⟩, .int .i64 0]) 3 40 := ⟨Tryz.underlying33, by kernel_rfl, by decide, by decide⟩
theorem elemStr : Elem 73 9 (.string ⟨#[]⟩) 1 16 := ⟨Tryz.underlying73, by kernel_rfl, by decide, by decide⟩
/-- A procedure's cells. -/
def prcV (p : Prc) (vP vU vB : Value) : List Value := [.string (tx p.name), vP, .bool p.has, .string (tx p.result), .string (tx p.pc), vU, vB, .int .i64 (p.pos : Int)]
def prc0 : Prc := ⟨[], [], false, [], [], [], [], 0⟩
/-- An own row that a record under way holds. -/
structure OwnR (w wr : World) (T U : Nat) (e : TypeId) (size : Nat) (v : Value) (m : Nat) (cs : List Value) : Prop where
  o : wr.ownsRow w.heap.size e size v m cs
  nT : v.ownBlock ≠ some T
  nU : v.ownBlock ≠ some U
theorem OwnR.chg {w wr w1 : World} {T U : Nat} {e : TypeId} {size : Nat} {v : Value} {m : Nat} {cs : List Value} {F : List Nat} (h : OwnR w wr T U e size v m cs) (hc : Chg F wr w1) (hF : ∀ k, v.ownBlock = some k → k ∉ F) : OwnR w w1 T U e size v m cs := ⟨owns_chg h.o hc hF, h.nT, h.nU⟩
theorem OwnR.nil (w wr : World) (T U : Nat) (e : TypeId) (size : Nat) : OwnR w wr T U e size (.slice none 0 0) 0 [] := ⟨World.ownsRow_nil _ _ _ _, by simp [Value.ownBlock], by simp [Value.ownBlock]⟩
theorem OwnR.rows {α : Type} {w wr : World} {T U : Nat} {e : TypeId} {size : Nat} {v : Value} {m : Nat} {cs : List Value} {R : α → List Value → Prop} {l : List α} (h : OwnR w wr T U e size v m cs) (hs : 0 < size) (hp : Parts size R l cs) (hm : m = l.length) (h9 : m ≤ 100000) : RowsP wr (NewB w wr T U) size R v m l := by
  refine ⟨hm, h9, fun a n' c' e => ?_, cs, Cells.own h.o hs, hp⟩
  rcases h.o.2 with ⟨e2, _⟩ | ⟨g, cap, cur, e2, hb2, hg, _⟩
  · rw [e2] at e
    cases e
  · have hT := h.nT
    have hU := h.nU
    rw [e2] at e hT hU
    simp only [Value.slice.injEq, Option.some.injEq] at e
    obtain ⟨rfl, _⟩ := e
    exact ⟨hb2, (Array.getElem?_eq_some_iff.1 hg).1, fun hh => hT (by rw [← hh]; rfl), fun hh => hU (by rw [← hh]; rfl)⟩
/-- What follows an append whose slice is put back into the record: the record, its row, and what else was owned. -/
theorem RcAt.app {t : TypeId} {w0 w wr w7 : World} {b n : Nat} {vl : Value} {L : List Tk} {T U : Nat} {xs zs xs' : List Value} {s : PS} {e : TypeId} {size : Nat} {v : Value} {m m' c7 j : Nat} {ao7 : Option Addr} {cs cs' : List Value} {o : Obj} (H : RcAt t w0 w wr b n vl L T U xs zs s) (hv : OwnR w wr T U e size v m cs)
    (h7 : w7.ownsRow w.heap.size e size (.slice ao7 m' c7) m' cs') (hg : (wr.alloc o).grownBy w7 v.ownBlock) (ho : (Value.slice ao7 m' c7).ownBlock = v.ownBlock ∨ (Value.slice ao7 m' c7).ownBlock = some (wr.alloc o).heap.size) (hx : xs.toArray.setIfInBounds j (.slice ao7 m' c7) = xs'.toArray) :
    RcAt t w0 w w7 b n vl L T U xs zs s ∧ RcAt t w0 w (w7.setCell ⟨T, j, none⟩ (.slice ao7 m' c7)) b n vl L T U xs' zs s ∧ OwnR w (w7.setCell ⟨T, j, none⟩ (.slice ao7 m' c7)) T U e size (.slice ao7 m' c7) m' cs' ∧
    Chg (T :: rowF v) wr (w7.setCell ⟨T, j, none⟩ (.slice ao7 m' c7)) ∧ (∀ k, k < wr.heap.size → v.ownBlock ≠ some k → (Value.slice ao7 m' c7).ownBlock ≠ some k) := by
  have hbw := H.bw
  have hT := H.wT
  have hU := H.wU
  have c7' : Chg (rowF v) wr w7 := ((Chg.refl (rowF v) wr).alloc o).trans' (Chg.of_grown (F := rowF v) hg (fun k hk => rowF_mem.2 hk)) fun x hx => .inl hx
  have hvl : ∀ k, v.ownBlock = some k → w.heap.size ≤ k ∧ k < wr.heap.size := fun k hk => hv.o.lt k hk
  have hs7 : (wr.alloc o).heap.size = wr.heap.size + 1 := by simp
  have hnew : ∀ k, k < wr.heap.size → v.ownBlock ≠ some k → (Value.slice ao7 m' c7).ownBlock ≠ some k := fun k hk hne e => by
    rcases ho with ho | ho
    · exact hne (ho ▸ e)
    · rw [ho] at e
      cases e
      omega
  have hTl := (Array.getElem?_eq_some_iff.1 H.sb).1
  have hUl := (Array.getElem?_eq_some_iff.1 H.z).1
  have r7 : RcAt t w0 w w7 b n vl L T U xs zs s :=
    ⟨H.r.chg c7' (fun x hx => by have := (hvl x (rowF_mem.1 hx)).1; omega) (H.r.r.chg c7' (fun hx => by have := (hvl b (rowF_mem.1 hx)).1; omega)) H.r.lt H.r.deep, H.c.trans' c7' (fun x hx => .inr (hvl x (rowF_mem.1 hx)).1), (c7'.block T hTl (fun hx => hv.nT (rowF_mem.1 hx))).trans H.sb, (c7'.block U hUl (fun hx => hv.nU (rowF_mem.1 hx))).trans H.z, hbw, hT, hU, H.tu⟩
  have ct : Chg [T] w7 (w7.setCell ⟨T, j, none⟩ (.slice ao7 m' c7)) := (Chg.refl [T] w7).set (.inl (by simp)) j _
  have h7T := hnew T hTl hv.nT
  have h7U := hnew U hUl hv.nU
  exact ⟨r7, r7.field j _ xs' hx, ⟨owns_chg h7 ct (fun k hk hm => h7T (by simp only [List.mem_singleton] at hm; rw [← hm]; exact hk)), h7T, h7U⟩, (c7'.mono (fun x hx => List.mem_cons_of_mem _ hx)).trans' ct (fun x hx => by simp only [List.mem_singleton] at hx; subst hx; exact .inl (List.mem_cons_self ..)), hnew⟩

/-- What can be read of a procedure. -/
def ProcV (w : World) (P : Nat → Prop) (p : Prc) (cs : List Value) : Prop :=
  ∃ vP nP vU nU vB nB, cs = prcV p vP vU vB ∧ RowsP w P 3 (fun p c => c = parV p) vP nP p.params ∧ RowsP w P 1 (fun x c => c = [Value.string (tx x)]) vU nU p.uses ∧ StmsP w P vB nB p.body
theorem ProcV.chg {w w' : World} {P Q : Nat → Prop} {F : List Nat} (hc : Chg F w w') (hP : ∀ k, P k → k ∉ F) (hQ : ∀ k, P k → Q k) : ∀ (p : Prc) (cs : List Value), ProcV w P p cs → ProcV w' Q p cs :=
  fun _ _ ⟨vP, nP, vU, nU, vB, nB, e, h1, h2, h3⟩ => ⟨vP, nP, vU, nU, vB, nB, e, h1.chg hc hP hQ (fun _ _ h => h), h2.chg hc hP hQ (fun _ _ h => h), h3.chg hc hP hQ⟩
theorem ProcV.length {w : World} {P : Nat → Prop} {p : Prc} {cs : List Value} (h : ProcV w P p cs) : cs.length = 8 := by
  obtain ⟨_, _, _, _, _, _, rfl, _⟩ := h
  rfl
/-- What a procedure's reader leaves. -/
def PrTold (w0 w : World) (b n : Nat) (vl : Value) (L : List Tk) (r : Prc × PS) (e : Ending) (w' : World) : Prop :=
  ∃ cs : List Value, e = .returned (.agg cs.toArray) ∧ ProcV w' (fun k => w.heap.size ≤ k ∧ k < w'.heap.size) r.1 cs ∧ Rdr w0 w' b n vl L r.2 ∧ Chg [b] w w'
/-- A procedure under way. -/
structure PrAt (w0 w wr : World) (b n : Nat) (vl : Value) (L : List Tk) (T U : Nat) (p : Prc) (vP vU : Value) (mP mU : Nat) (s : PS) : Prop where
  rc : RcAt 76 w0 w wr b n vl L T U (prcV p vP vU (.slice none 0 0)) (prcV prc0 (.slice none 0 0) (.slice none 0 0) (.slice none 0 0)) s
  op : OwnR w wr T U 56 3 vP mP (parsV p.params)
  ou : OwnR w wr T U 9 1 vU mU (usesV p.uses)
  lP : mP = p.params.length
  lU : mU = p.uses.length
  pu : ∀ k, vP.ownBlock = some k → vU.ownBlock ≠ some k
theorem PrAt.keep {w0 w wr w1 : World} {b n : Nat} {vl : Value} {L : List Tk} {T U : Nat} {p : Prc} {vP vU : Value} {mP mU : Nat} {s s1 : PS} (H : PrAt w0 w wr b n vl L T U p vP vU mP mU s) (hr : Rdr w0 w1 b n vl L s1) (hc : Chg [b] wr w1) : PrAt w0 w w1 b n vl L T U p vP vU mP mU s1 := by
  have hb := H.rc.bw
  exact ⟨H.rc.keep hr hc, H.op.chg hc (fun k hk hm => by have := (H.op.o.lt k hk).1; simp only [List.mem_singleton] at hm; omega), H.ou.chg hc (fun k hk hm => by have := (H.ou.o.lt k hk).1; simp only [List.mem_singleton] at hm; omega), H.lP, H.lU, H.pu⟩
theorem PrAt.field {w0 w wr : World} {b n : Nat} {vl : Value} {L : List Tk} {T U : Nat} {p : Prc} {vP vU : Value} {mP mU : Nat} {s : PS} (H : PrAt w0 w wr b n vl L T U p vP vU mP mU s) (j : Nat) (x : Value) (p' : Prc) (e : (prcV p vP vU (.slice none 0 0)).toArray.setIfInBounds j x = (prcV p' vP vU (.slice none 0 0)).toArray) (h1 : p'.params = p.params) (h2 : p'.uses = p.uses) : PrAt w0 w (wr.setCell ⟨T, j, none⟩ x) b n vl L T U p' vP vU mP mU s := by
  have ct : Chg [T] wr (wr.setCell ⟨T, j, none⟩ x) := (Chg.refl [T] wr).set (.inl (by simp)) j x
  exact ⟨H.rc.field j x _ e, by rw [h1]; exact H.op.chg ct (fun k hk hm => H.op.nT (by simp only [List.mem_singleton] at hm; rw [← hm]; exact hk)), by rw [h2]; exact H.ou.chg ct (fun k hk hm => H.ou.nT (by simp only [List.mem_singleton] at hm; rw [← hm]; exact hk)), by rw [h1]; exact H.lP, by rw [h2]; exact H.lU, H.pu⟩
theorem PrAt.addP {w0 w wr w7 : World} {b n : Nat} {vl : Value} {L : List Tk} {T U : Nat} {p : Prc} {vP vU : Value} {mP mU c7 : Nat} {ao7 : Option Addr} {s : PS} {o : Obj} (a : Par) (H : PrAt w0 w wr b n vl L T U p vP vU mP mU s) (h7 : w7.ownsRow w.heap.size 56 3 (.slice ao7 (mP + 1) c7) (mP + 1) (parsV p.params ++ parV a)) (hg : (wr.alloc o).grownBy w7 vP.ownBlock) (ho : (Value.slice ao7 (mP + 1) c7).ownBlock = vP.ownBlock ∨ (Value.slice ao7 (mP + 1) c7).ownBlock = some (wr.alloc o).heap.size) :
    RcAt 76 w0 w w7 b n vl L T U (prcV p vP vU (.slice none 0 0)) (prcV prc0 (.slice none 0 0) (.slice none 0 0) (.slice none 0 0)) s ∧ PrAt w0 w (w7.setCell ⟨T, 1, none⟩ (.slice ao7 (mP + 1) c7)) b n vl L T U { p with params := p.params ++ [a] } (.slice ao7 (mP + 1) c7) vU (mP + 1) mU s := by
  obtain ⟨h1, h2, h3, h4, h5⟩ := H.rc.app H.op h7 hg ho (j := 1) (xs' := prcV { p with params := p.params ++ [a] } (.slice ao7 (mP + 1) c7) vU (.slice none 0 0)) rfl
  exact ⟨h1, h2, by rw [← parsV_snoc] at h3; exact h3, H.ou.chg h4 (fun k hk hm => by
    rcases List.mem_cons.1 hm with rfl | hm
    · exact H.ou.nT hk
    · exact H.pu k (rowF_mem.1 hm) hk), by simp [← H.lP], H.lU, fun k hk hu => h5 k (H.ou.o.lt k hu).2 (fun hp => H.pu k hp hu) hk⟩
theorem PrAt.addU {w0 w wr w7 : World} {b n : Nat} {vl : Value} {L : List Tk} {T U : Nat} {p : Prc} {vP vU : Value} {mP mU c7 : Nat} {ao7 : Option Addr} {s : PS} {o : Obj} (a : List UInt8) (H : PrAt w0 w wr b n vl L T U p vP vU mP mU s) (h7 : w7.ownsRow w.heap.size 9 1 (.slice ao7 (mU + 1) c7) (mU + 1) (usesV p.uses ++ [.string (tx a)])) (hg : (wr.alloc o).grownBy w7 vU.ownBlock) (ho : (Value.slice ao7 (mU + 1) c7).ownBlock = vU.ownBlock ∨ (Value.slice ao7 (mU + 1) c7).ownBlock = some (wr.alloc o).heap.size) :
    RcAt 76 w0 w w7 b n vl L T U (prcV p vP vU (.slice none 0 0)) (prcV prc0 (.slice none 0 0) (.slice none 0 0) (.slice none 0 0)) s ∧ PrAt w0 w (w7.setCell ⟨T, 5, none⟩ (.slice ao7 (mU + 1) c7)) b n vl L T U { p with uses := p.uses ++ [a] } vP (.slice ao7 (mU + 1) c7) mP (mU + 1) s := by
  obtain ⟨h1, h2, h3, h4, h5⟩ := H.rc.app H.ou h7 hg ho (j := 5) (xs' := prcV { p with uses := p.uses ++ [a] } vP (.slice ao7 (mU + 1) c7) (.slice none 0 0)) rfl
  exact ⟨h1, h2, H.op.chg h4 (fun k hk hm => by
    rcases List.mem_cons.1 hm with rfl | hm
    · exact H.op.nT hk
    · exact H.pu k hk (rowF_mem.1 hm)), by rw [← usesV_snoc] at h3; exact h3, H.lP, by simp [← H.lU], fun k hk hu => h5 k (H.op.o.lt k hk).2 (fun hp => H.pu k hk hp) hu⟩
theorem prc_info (p : Prc) (vP vU vB : Value) : (Tryz.prog.info? 76).map (·.size) = some (prcV p vP vU vB).toArray.size := by
  show _ = some 8
  kernel_rfl
/-- The body is put in: what is told. -/
theorem PrAt.told {w0 w wr w1 : World} {b n : Nat} {vl : Value} {L : List Tk} {T U : Nat} {p : Prc} {vP vU vB : Value} {mP mU nB : Nat} {s s1 : PS} {body : List Stm} (H : PrAt w0 w wr b n vl L T U p vP vU mP mU s) (hP : mP ≤ 100000) (hU : mU ≤ 100000) (hr : Rdr w0 w1 b n vl L s1) (hc : Chg [b] wr w1) (hs : StmsP w1 (fun k => wr.heap.size ≤ k ∧ k < w1.heap.size) vB nB body) :
    RcAt 76 w0 w (w1.setCell ⟨T, 6, none⟩ vB) b n vl L T U (prcV { p with body := body } vP vU vB) (prcV prc0 (.slice none 0 0) (.slice none 0 0) (.slice none 0 0)) s1 ∧
    PrTold w0 w b n vl L ({ p with body := body }, s1) (.returned (.agg (prcV { p with body := body } vP vU vB).toArray)) ((w1.setCell ⟨T, 6, none⟩ vB).setRow U (prcV { p with body := body } vP vU vB).toArray) := by
  have K := H.keep hr hc
  have hTl := (Array.getElem?_eq_some_iff.1 H.rc.sb).1
  have hUl := (Array.getElem?_eq_some_iff.1 H.rc.z).1
  have ct : Chg [T] w1 (w1.setCell ⟨T, 6, none⟩ vB) := (Chg.refl [T] w1).set (.inl (by simp)) 6 vB
  have r1 : RcAt 76 w0 w (w1.setCell ⟨T, 6, none⟩ vB) b n vl L T U (prcV { p with body := body } vP vU vB) (prcV prc0 (.slice none 0 0) (.slice none 0 0) (.slice none 0 0)) s1 := K.rc.field 6 vB _ rfl
  have hc2 : Chg [T, U] w1 ((w1.setCell ⟨T, 6, none⟩ vB).setRow U (prcV { p with body := body } vP vU vB).toArray) :=
    (ct.mono (fun x hx => by simp only [List.mem_singleton] at hx; simp [hx])).trans' (show Chg [U] _ _ from ⟨rfl, rfl, rfl, by simp, fun k _ hk => setRow_other _ U k _ (by simpa using hk)⟩) (fun x hx => by simp only [List.mem_singleton] at hx; simp [hx])
  have hN : ∀ k, NewB w w1 T U k → k ∉ [T, U] := fun k hk hm => by
    simp only [List.mem_cons, List.not_mem_nil, or_false] at hm
    rcases hm with rfl | rfl
    · exact hk.2.2.1 rfl
    · exact hk.2.2.2 rfl
  have hQ : ∀ k, NewB w w1 T U k → w.heap.size ≤ k ∧ k < ((w1.setCell ⟨T, 6, none⟩ vB).setRow U (prcV { p with body := body } vP vU vB).toArray).heap.size := fun k hk => ⟨hk.1, Nat.lt_of_lt_of_le hk.2.1 hc2.size⟩
  have hs2 : StmsP w1 (NewB w w1 T U) vB nB body := hs.chg (Chg.refl [] w1) (fun _ _ h => by cases h) fun k hk => ⟨Nat.le_trans H.rc.c.size hk.1, hk.2, by omega, by omega⟩
  exact ⟨r1, _, rfl, ⟨vP, mP, vU, mU, vB, nB, rfl, (K.op.rows (by decide) (pars_parts _) K.lP hP).chg hc2 hN hQ (fun _ _ h => h), (K.ou.rows (by decide) (uses_parts _) K.lU hU).chg hc2 hN hQ (fun _ _ h => h), hs2.chg hc2 hN hQ⟩, r1.last⟩

end Go.Proofs.YtfcfbdemfbkgmaaGreatDoor
