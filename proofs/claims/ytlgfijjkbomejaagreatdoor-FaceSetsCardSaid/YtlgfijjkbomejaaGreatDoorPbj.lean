/- A plain record under way; the reference's variable. Numbers and types by name. -/
import Derived.Test.YtlgfijjkbomejaaGreatDoorPbi
/- The reference's blocks, whole. Numbers and types by name. -/
namespace Go.Proofs.YtlgfijjkbomejaaGreatDoor
open Go.RowKit Go.Lib
set_option maxRecDepth 100000

theorem stmt_ok (w0 : World) (b n : Nat) (vl : Value) (L : List Tk) (hL : TokL L) (KC : CaK 164 w0 b n vl L) : ∀ N, StK 136 w0 b n vl L N ∧ BlK 106 w0 b n vl L N := by
  intro N
  induction N with
  | zero => exact ⟨fun w s _ _ hn => absurd hn (Nat.not_lt_zero _), fun w s _ _ hn => absurd hn (Nat.not_lt_zero _)⟩
  | succ N ih =>
    have hS := stmt_walk w0 b n vl L N hL KC ih.2
    exact ⟨hS, block_walk w0 b n vl L (N + 1) hL hS⟩
theorem rdr_block (w0 w : World) (b n : Nat) (vl : Value) (L : List Tk) (s : PS) (h : Rdr w0 w b n vl L s) (hd : Dok s) :
    Calls Tryz.prog 106 #[.pointer (some ⟨b, 0, none⟩)] w (BlTold w0 w b n vl L (blockN L s)) :=
  (stmt_ok w0 b n vl L h.ok (call_walk w0 b n vl L h.ok) (L.length + 1)).2 w s h hd (rem_lt h.lt)

end Go.Proofs.YtlgfijjkbomejaaGreatDoor

namespace Go.Proofs.YtlgfijjkbomejaaGreatDoor
open Go.RowKit Go.Lib
set_option maxRecDepth 100000

theorem numV_few (l : List UInt8) (hl : l.length ≤ 9) (hd : ∀ c ∈ l, isDig c = true) : numV l < 1000000000 := by
  have hb9 : ∀ k, k ≤ 9 → k ≤ l.length → numV (l.take k) < 10 ^ k := by
    intro k
    induction k with
    | zero => intro _ _; exact Nat.one_pos
    | succ k ih =>
      intro h1 h2
      have := ih (by omega) (by omega)
      obtain ⟨c, hc⟩ : ∃ c, l[k]? = some c := ⟨_, List.getElem?_eq_getElem (by omega)⟩
      rw [List.take_add_one, hc]
      show (l.take k ++ [c]).foldl _ 0 < _
      rw [List.foldl_append]
      have hcd := hd c (List.mem_of_getElem? hc)
      unfold isDig at hcd
      simp only [Bool.and_eq_true, decide_eq_true_eq] at hcd
      change 10 * numV (l.take k) + (c.toNat - 48) < _
      rw [Nat.pow_succ]
      omega
  have := hb9 l.length hl (Nat.le_refl _)
  rw [List.take_length] at this
  exact Nat.lt_of_lt_of_le this (Nat.pow_le_pow_right (by decide) hl)

/-- A record under way: the reader, its own block, the block of the result. -/
structure RcAt (t : TypeId) (w0 w wr : World) (b n : Nat) (vl : Value) (L : List Tk) (T U : Nat) (xs zs : List Value) (s : PS) : Prop where
  r : Rdr w0 wr b n vl L s
  c : Chg [b] w wr
  sb : wr.heap[T]? = some (.cells xs.toArray t (0, 0))
  z : wr.heap[U]? = some (.cells zs.toArray t (0, 0))
  bw : b < w.heap.size
  wT : w.heap.size ≤ T
  wU : w.heap.size ≤ U
  tu : T ≠ U
theorem RcAt.keep {t : TypeId} {w0 w wr w1 : World} {b n : Nat} {vl : Value} {L : List Tk} {T U : Nat} {xs zs : List Value} {s s1 : PS} (H : RcAt t w0 w wr b n vl L T U xs zs s) (hr : Rdr w0 w1 b n vl L s1) (hc : Chg [b] wr w1) : RcAt t w0 w w1 b n vl L T U xs zs s1 := by
  have hb := H.bw
  have hT := H.wT
  have hU := H.wU
  exact ⟨hr, H.c.trans hc, (hc.block T (Array.getElem?_eq_some_iff.1 H.sb).1 (by simp only [List.mem_singleton]; omega)).trans H.sb, (hc.block U (Array.getElem?_eq_some_iff.1 H.z).1 (by simp only [List.mem_singleton]; omega)).trans H.z, hb, hT, hU, H.tu⟩
theorem RcAt.field {t : TypeId} {w0 w wr : World} {b n : Nat} {vl : Value} {L : List Tk} {T U : Nat} {xs zs : List Value} {s : PS} (H : RcAt t w0 w wr b n vl L T U xs zs s) (j : Nat) (x : Value) (xs' : List Value) (e : xs.toArray.setIfInBounds j x = xs'.toArray) : RcAt t w0 w (wr.setCell ⟨T, j, none⟩ x) b n vl L T U xs' zs s := by
  have hb := H.bw
  have hT := H.wT
  have hU := H.wU
  have ct : Chg [T] wr (wr.setCell ⟨T, j, none⟩ x) := (Chg.refl [T] wr).set (.inl (by simp)) j x
  exact ⟨H.r.chg ct (fun y hy => by simp only [List.mem_singleton] at hy; omega) (H.r.r.chg ct (by simp only [List.mem_singleton]; omega)) H.r.lt H.r.deep, H.c.trans' ct (fun y hy => by simp only [List.mem_singleton] at hy; subst hy; exact .inr hT), by rw [heap_set H.sb, e], (ct.block U (Array.getElem?_eq_some_iff.1 H.z).1 (by simp only [List.mem_singleton]; exact fun h => H.tu h.symm)).trans H.z, hb, hT, hU, H.tu⟩
theorem RcAt.cell {t : TypeId} {w0 w wr : World} {b n : Nat} {vl : Value} {L : List Tk} {T U : Nat} {xs zs : List Value} {s : PS} (H : RcAt t w0 w wr b n vl L T U xs zs s) (j : Nat) (v : Value) (hj : xs[j]? = some v) : wr.cell? ⟨T, j, none⟩ = some v :=
  cellsN H.sb j v (by rw [List.getElem?_toArray]; exact hj)
theorem RcAt.free {t : TypeId} {w0 w wr : World} {b n : Nat} {vl : Value} {L : List Tk} {T U : Nat} {xs zs : List Value} {s : PS} (H : RcAt t w0 w wr b n vl L T U xs zs s) (j : Nat) : wr.frozen? ⟨T, j, none⟩ = false := by
  simp only [World.frozen?]
  rw [H.sb]
  simp
theorem RcAt.last {t : TypeId} {w0 w wr : World} {b n : Nat} {vl : Value} {L : List Tk} {T U : Nat} {xs zs : List Value} {s : PS} (H : RcAt t w0 w wr b n vl L T U xs zs s) : Rdr w0 (wr.setRow U xs.toArray) b n vl L s ∧ Chg [b] w (wr.setRow U xs.toArray) := by
  have hb := H.bw
  have hU := H.wU
  have hc : Chg [U] wr (wr.setRow U xs.toArray) := ⟨rfl, rfl, rfl, by simp, fun k _ hk => setRow_other wr U k _ (by simpa using hk)⟩
  exact ⟨H.r.chg hc (fun x hx => by simp only [List.mem_singleton] at hx; omega) (H.r.r.chg hc (by simp only [List.mem_singleton]; omega)) H.r.lt H.r.deep, H.c.trans' hc (fun x hx => by simp only [List.mem_singleton] at hx; subst hx; exact .inr hU)⟩

/-- What a variable's reader leaves. -/
def varV (v : Vrb) : List Value := [.string (tx v.name), .string (tx v.label), .int .i64 v.init, .int .i64 (v.pos : Int)]
def VaTold (w0 w : World) (b n : Nat) (vl : Value) (L : List Tk) (r : Vrb × PS) (e : Ending) (w' : World) : Prop :=
  e = .returned (.agg (varV r.1).toArray) ∧ Rdr w0 w' b n vl L r.2 ∧ Chg [b] w w'
theorem var_info (v : Vrb) : (Tryz.prog.info? 76).map (·.size) = some (varV v).toArray.size := by
  show _ = some 4
  kernel_rfl
theorem var_ones (v : Vrb) : (varV v).toArray.all (·.oneCell') = true := by
  simp [varV, Value.oneCell']
def vrb0 : Vrb := ⟨[], [], 0, 0⟩

set_option maxHeartbeats 4000000 in
theorem rdr_variable (w0 w : World) (b n : Nat) (vl : Value) (L : List Tk) (s : PS) (h : Rdr w0 w b n vl L s) :
    Calls Tryz.prog 69 #[.pointer (some ⟨b, 0, none⟩)] w (VaTold w0 w b n vl L (varT L s)) := by
  obtain ⟨R, hR⟩ : ∃ R, varT L s = R := ⟨_, rfl⟩
  rw [hR]
  unfold varT at hR
  simp only at hR
  have HR := Lib.hid hR
  have hbw := h.blt
  have hc0 : Chg [] w (w.alloc (.cells #[.string ⟨#[]⟩, .string ⟨#[]⟩, .int .i64 0, .int .i64 0] 76)) := (Chg.refl [] w).alloc _
  have H0 := Lib.hid (And.intro (h.chg hc0 (fun x hx => by cases hx) (h.r.chg hc0 (by simp)) h.lt h.deep) (And.intro (hc0.mono (G := [b]) (fun x hx => by cases hx)) (heap_alloc_new w (.cells #[.string ⟨#[]⟩, .string ⟨#[]⟩, .int .i64 0, .int .i64 0] 76))))
  have HL := Lib.hid h.ok
  clear hR h hc0
  go_enter Tryz.func69, Tryz.ntmps69
  go_wp2_with fail
  refine (rdr_here w0 _ b n _ L s H0.out.1).mono ?_
  rintro e1 w1 hr
  obtain ⟨rfl, X1⟩ := hr.out1
  clear hr
  go_wp2_with fail
  refine (rdr_name w0 _ b n _ L s X1.out.1).mono ?_
  rintro e2 w2 hr
  obtain ⟨rfl, X2⟩ := hr.out1
  clear hr
  obtain ⟨q, hq⟩ : ∃ q, (curT L s).pos = q := ⟨_, rfl⟩
  obtain ⟨nm, hnm⟩ : ∃ x, (nameT L s).1 = x := ⟨_, rfl⟩
  obtain ⟨s1, hs1⟩ : ∃ x, (nameT L s).2 = x := ⟨_, rfl⟩
  rw [hq, hnm, hs1] at HR
  have HQ := Lib.hid (And.intro hq (And.intro hnm hs1))
  have h1 : RcAt 76 w0 w (w2.alloc (.cells #[.string (tx nm), .string ⟨#[]⟩, .int .i64 0, .int .i64 (q : Int)] 76)) b n vl L w2.heap.size w.heap.size (varV ⟨nm, [], 0, q⟩) (varV vrb0) s1 := by
    have c12 := X1.out.2.trans X2.out.2
    have hs2 := c12.size
    simp only [World.size_alloc] at hs2
    have hca : Chg [] w2 (w2.alloc (.cells #[.string (tx nm), .string ⟨#[]⟩, .int .i64 0, .int .i64 (q : Int)] 76)) := (Chg.refl [] w2).alloc _
    have hr2 : Rdr w0 w2 b n vl L s1 := by rw [← hs1]; exact X2.out.1
    have hz := (c12.block w.heap.size (by simp) (by simp only [List.mem_singleton]; omega)).trans H0.out.2.2
    exact ⟨hr2.chg hca (fun x hx => by cases hx) (hr2.r.chg hca (by simp)) hr2.lt hr2.deep, (H0.out.2.1.trans c12).trans' hca (fun x hx => by cases hx), heap_alloc_new w2 _, (hca.block w.heap.size (by omega) (by simp)).trans hz, hbw, by omega, Nat.le_refl _, by omega⟩
  have H1 := Lib.hid h1
  clear h1 X1 X2 H0
  try rw [hq]
  try rw [hnm]
  clear hq hnm hs1
  go_upto_region 2 with fail
  generalize w2.alloc (.cells #[.string (tx nm), .string ⟨#[]⟩, .int .i64 0, .int .i64 (q : Int)] 76) = W at *
  generalize w2.heap.size = T at *
  have HBW := Lib.hid hbw
  clear hbw
  generalize w.heap.size = U at H1 ⊢
  go_wp2_with fail
  refine (rdr_want w0 _ b n _ L s1 [58] H1.out.r).mono ?_
  rintro e3 w3 hr
  obtain ⟨rfl, X3⟩ := hr.out1
  clear hr
  have H3 := Lib.hid (H1.out.keep X3.out.1 X3.out.2)
  go_wp2_with fail
  refine (rdr_name w0 _ b n _ L _ H3.out.r).mono ?_
  rintro e4 w4 hr
  obtain ⟨rfl, X4⟩ := hr.out1
  clear hr
  have H4 := Lib.hid (H3.out.keep X4.out.1 X4.out.2)
  generalize nameT L (wantT L s1 [58]) = nb at *
  obtain ⟨lb, s4⟩ := nb
  have k1 := H4.out.cell 1 _ rfl
  have f1 := H4.out.free 1
  have H5 := Lib.hid (H4.out.field 1 (.string (tx lb)) (varV ⟨nm, lb, 0, q⟩) rfl)
  clear H1 X3 H3 X4 H4
  go_wp2_with fail
  refine (rdr_want w0 _ b n _ L _ [61] H5.out.r).mono ?_
  rintro e6 w6 hr
  obtain ⟨rfl, X6⟩ := hr.out1
  clear hr k1 f1
  have H6 := Lib.hid (H5.out.keep X6.out.1 X6.out.2)
  try simp only at H6
  try simp only at X6
  try simp only at HR
  generalize wantT L s4 [61] = s5 at *
  go_wp2_with fail
  refine (rdr_take w0 _ b n _ L _ [45] H6.out.r).mono ?_
  rintro e7 w7 hr
  obtain ⟨rfl, X7⟩ := hr.out1
  clear hr
  have H7 := Lib.hid (H6.out.keep X7.out.1 X7.out.2)
  clear H5 X6 H6 X7
  obtain ⟨ng, hng⟩ : ∃ x, isT L s5 [45] = x := ⟨_, rfl⟩
  rw [hng]
  rw [hng] at HR
  generalize takeT L s5 [45] = s6 at *
  obtain ⟨a, c, rfl, hin, d0, d1, d2⟩ := H7.out.r.cur (Grow.refl w7)
  obtain ⟨a', c', ea, _, f0, f1, f2⟩ := H7.out.r.cur (w1 := w7.alloc tok0) ((Below.refl _ w7).alloc (Nat.le_refl _) _)
  simp only [Value.slice.injEq, Option.some.injEq] at ea
  obtain ⟨rfl, _, rfl⟩ := ea
  have r0 := H7.out.r.r.c0
  have r1 := H7.out.r.r.c1
  have hb := H7.out.r.blt
  obtain ⟨T0, hT⟩ : ∃ T0, curT L s6 = T0 := ⟨_, rfl⟩
  have HT := Lib.hid hT
  rw [hT] at d0 d1 d2 f0 f1 f2 HR
  obtain ⟨kd, tt, tp⟩ := T0
  simp only at d0 d1 d2 f0 f1 f2 HR
  clear hT hng
  go_wp2_with fail
  go_region
  have hC : Chg [] w7 (w7.alloc (.cells #[.int .i64 kd, .string (tx tt), .int .i64 (tp : Int)] 117)).drew := ((Chg.refl [] w7).alloc _).drew
  have hnew := heap_alloc_new w7 (.cells #[.int .i64 kd, .string (tx tt), .int .i64 (tp : Int)] 117)
  have H8 : Hid (RcAt 76 w0 w (w7.alloc (.cells #[.int .i64 kd, .string (tx tt), .int .i64 (tp : Int)] 117)).drew b n (.slice (some a) n c) L T U (varV ⟨nm, lb, 0, q⟩) (varV vrb0) s6) := Lib.hid
    (H7.out.keep (H7.out.r.chg hC (fun x hx => by cases hx) (H7.out.r.r.chg hC (by simp)) H7.out.r.lt H7.out.r.deep) (hC.mono (fun x hx => by cases hx)))
  have TK : Hid (TokC (w7.alloc (.cells #[.int .i64 kd, .string (tx tt), .int .i64 (tp : Int)] 117)).drew w7.heap.size ⟨kd, tt, tp⟩ ∧ w7.heap.size ≠ b ∧ w7.heap.size ≠ T) := Lib.hid
    ⟨⟨cellsN hnew 0 _ rfl, cellsN hnew 1 _ rfl, cellsN hnew 2 _ rfl⟩, by omega, by have := (Array.getElem?_eq_some_iff.1 H7.out.sb).1; omega⟩
  clear hC hnew r0 r1 d0 d1 d2 f0 f1 f2 hin hb H7
  generalize (w7.alloc (.cells #[.int .i64 kd, .string (tx tt), .int .i64 (tp : Int)] 117)).drew = W8 at *
  generalize w7.heap.size = T5 at *
  have r3 := H8.out.r.r.c3
  have ck := TK.out.1.ck
  try simp only at ck
  by_cases he : s6.e = 0
  case neg =>
    have he2 : (s6.e == 0) = false := by simpa using he
    go_wp2_with fail
    refine (rdr_fail w0 _ b n _ L s6 11 H8.out.r).mono ?_
    rintro e9 w9 hr
    obtain ⟨rfl, X9⟩ := hr.out1
    clear hr
    have HZ := Lib.hid (H8.out.keep X9.out.1 X9.out.2)
    go_wp2_with (first | (refine wpList_load_row rfl 76 (.tmp 3) rfl T rfl _ _ _ _ HZ.out.sb Tryz.underlying76 rfl (var_info _) ?_) | (refine wpList_store_row rfl 76 (.tmp 2) (.tmp 42) rfl U _ rfl rfl _ _ HZ.out.z (var_info _) rfl (var_ones _) ?_))
    try simp only [Exit.inBlock, Exit.then]
    refine bodyPost_ret (results_cell_row rfl _ _ U _ _ _ _ rfl (setRow_heap _ U _ _ _ _ HZ.out.z) Tryz.underlying76 rfl (var_info _)) rfl ?_
    have hR := HR.out
    rw [if_pos (.inl he)] at hR
    rw [← hR]
    exact ⟨rfl, HZ.out.last⟩
  case pos =>
    rw [he] at r3
    by_cases hk2 : kd = 2
    case neg =>
      have hk2' : (kd == 2) = false := by simpa using hk2
      have HE := Lib.hid he
      clear he
      go_wp2_with fail
      refine (rdr_fail w0 _ b n _ L s6 11 H8.out.r).mono ?_
      rintro e9 w9 hr
      obtain ⟨rfl, X9⟩ := hr.out1
      clear hr
      have HZ := Lib.hid (H8.out.keep X9.out.1 X9.out.2)
      go_wp2_with (first | (refine wpList_load_row rfl 76 (.tmp 3) rfl T rfl _ _ _ _ HZ.out.sb Tryz.underlying76 rfl (var_info _) ?_) | (refine wpList_store_row rfl 76 (.tmp 2) (.tmp 42) rfl U _ rfl rfl _ _ HZ.out.z (var_info _) rfl (var_ones _) ?_))
      try simp only [Exit.inBlock, Exit.then]
      refine bodyPost_ret (results_cell_row rfl _ _ U _ _ _ _ rfl (setRow_heap _ U _ _ _ _ HZ.out.z) Tryz.underlying76 rfl (var_info _)) rfl ?_
      have hR := HR.out
      rw [if_pos (.inr hk2)] at hR
      rw [← hR]
      exact ⟨rfl, HZ.out.last⟩
    case pos =>
      subst hk2
      have hnum := HL.out.num _ (cur_mem H8.out.r.lt) (by rw [HT.out])
      rw [HT.out] at hnum
      obtain ⟨hn9, hdig⟩ := hnum
      have HNM := Lib.hid (And.intro hn9 (And.intro hdig (numV_few tt hn9 hdig)))
      have hmore := HL.out.more s6.i H8.out.r.lt (by change (curT L s6).kind ≠ 0; rw [HT.out]; show (2 : Int) ≠ 0; decide)
      have hcast : ((s6.i + 1 : Nat) : Int) = (s6.i : Int) + 1 := by omega
      have h9 := H8.out.keep (H8.out.r.set1 (s6.i + 1) hmore) ((Chg.refl [b] W8).set (.inl (by simp)) 1 _)
      have ct : (W8.setCell ⟨b, 1, none⟩ (.int .i64 ((s6.i + 1 : Nat) : Int))).cell? ⟨T5, 1, none⟩ = some (.string (tx tt)) := (TK.out.1.chg ((Chg.refl [b] W8).set (.inl (by simp)) 1 _) (by simpa using TK.out.2.1)).ct
      rw [hcast] at h9 ct
      have r1 := H8.out.r.r.c1
      have fz := H8.out.r.r.fz 1
      have hi9 := H8.out.r.few
      have H9 := Lib.hid h9
      have HE := Lib.hid he
      clear he h9 hn9 hdig hmore hcast
      cases ng with
      | true =>
        go_wp2_with fail
        refine (num_any tt HNM.out.1 HNM.out.2.1 _).mono ?_
        rintro e9 w9 ⟨rfl, rfl⟩
        have k2 := H9.out.cell 2 _ rfl
        have g2 := H9.out.free 2
        have H10 := Lib.hid ((H9.out.field 2 (.int .i64 ((numV tt : Nat) : Int)) (varV ⟨nm, lb, ((numV tt : Nat) : Int), q⟩) rfl).field 2 (.int .i64 (-((numV tt : Nat) : Int))) (varV ⟨nm, lb, (-((numV tt : Nat) : Int)), q⟩) rfl)
        have nb9 := HNM.out.2.2
        go_wp2_with fail
        refine (rdr_want w0 _ b n _ L _ [59] H10.out.r).mono ?_
        rintro e11 w11 hr
        obtain ⟨rfl, X11⟩ := hr.out1
        clear hr
        have HZ := Lib.hid (H10.out.keep X11.out.1 X11.out.2)
        clear H8 H9 H10 X11 k2 g2
        go_wp2_with (first | (refine wpList_load_row rfl 76 (.tmp 3) rfl T rfl _ _ _ _ HZ.out.sb Tryz.underlying76 rfl (var_info _) ?_) | (refine wpList_store_row rfl 76 (.tmp 2) (.tmp 61) rfl U _ rfl rfl _ _ HZ.out.z (var_info _) rfl (var_ones _) ?_))
        try simp only [Exit.inBlock, Exit.then]
        refine bodyPost_ret (results_cell_row rfl _ _ U _ _ _ _ rfl (setRow_heap _ U _ _ _ _ HZ.out.z) Tryz.underlying76 rfl (var_info _)) rfl ?_
        have hR := HR.out
        rw [if_neg (by rw [HE.out]; simp)] at hR
        rw [if_pos trivial] at hR
        rw [← hR]
        exact ⟨rfl, HZ.out.last⟩
      | false =>
        go_wp2_with fail
        refine (num_any tt HNM.out.1 HNM.out.2.1 _).mono ?_
        rintro e9 w9 ⟨rfl, rfl⟩
        have k2 := H9.out.cell 2 _ rfl
        have g2 := H9.out.free 2
        have H10 := Lib.hid (H9.out.field 2 (.int .i64 ((numV tt : Nat) : Int)) (varV ⟨nm, lb, ((numV tt : Nat) : Int), q⟩) rfl)
        have nb9 := HNM.out.2.2
        go_wp2_with fail
        refine (rdr_want w0 _ b n _ L _ [59] H10.out.r).mono ?_
        rintro e11 w11 hr
        obtain ⟨rfl, X11⟩ := hr.out1
        clear hr
        have HZ := Lib.hid (H10.out.keep X11.out.1 X11.out.2)
        clear H8 H9 H10 X11 k2 g2
        go_wp2_with (first | (refine wpList_load_row rfl 76 (.tmp 3) rfl T rfl _ _ _ _ HZ.out.sb Tryz.underlying76 rfl (var_info _) ?_) | (refine wpList_store_row rfl 76 (.tmp 2) (.tmp 61) rfl U _ rfl rfl _ _ HZ.out.z (var_info _) rfl (var_ones _) ?_))
        try simp only [Exit.inBlock, Exit.then]
        refine bodyPost_ret (results_cell_row rfl _ _ U _ _ _ _ rfl (setRow_heap _ U _ _ _ _ HZ.out.z) Tryz.underlying76 rfl (var_info _)) rfl ?_
        have hR := HR.out
        rw [if_neg (by rw [HE.out]; simp)] at hR
        rw [if_neg (by simp)] at hR
        rw [← hR]
        exact ⟨rfl, HZ.out.last⟩

end Go.Proofs.YtlgfijjkbomejaaGreatDoor
