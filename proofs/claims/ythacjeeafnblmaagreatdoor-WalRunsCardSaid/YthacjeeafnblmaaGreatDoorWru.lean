/- WalRuns, walked. Numbers and types by name. -/
import Derived.Test.YthacjeeafnblmaaGreatDoorWop
import Derived.Test.YthacjeeafnblmaaGreatDoorDig
import Derived.Test.YthacjeeafnblmaaGreatDoorSm
import Derived.Test.YthacjeeafnblmaaGreatDoorMvz
namespace Go.Proofs.YthacjeeafnblmaaGreatDoor
open Go.RowKit Go.Lib
set_option maxRecDepth 100000

theorem reads_cell7 {w : World} {ao : Option Addr} {n c k : Nat} {xs : List Value} {u : Value} (h : Reads w (.slice ao n c) xs) (hu : xs[k]? = some u) : ∃ a, ao = some a ∧ w.cell? (a.add k) = some u := by
  obtain ⟨ao', c', e, _, hn, hc⟩ := h
  cases e
  cases ao with
  | none => rw [(hn rfl).1] at hu; cases hu
  | some a => exact ⟨a, rfl, hc a rfl k u hu⟩
theorem openR_n (M : MD) (b : List UInt8) : (openR M b).n ≤ b.length := by
  unfold openR
  split
  · exact endOf_le b
  · exact Nat.zero_le _
theorem openQ_n (M : MD) (b : List UInt8) : (openQ M b).n ≤ b.length := by
  unfold openQ
  split
  · split
    · exact openR_n _ b
    · exact Nat.zero_le _
  · exact openR_n _ b
theorem openP_n {K J : Nat} (hR : Room K J) {M : MD} {j : Nat} (h : Well K M j) (hj : j ≤ J) : (openP M).n ≤ 7200000 := by
  unfold openP
  split
  · split
    · exact Nat.le_trans (openQ_n _ _) (Nat.zero_le _)
    · exact Nat.zero_le _
  · split
    · exact Nat.le_trans (openQ_n _ _) (well_read hR h hj logK)
    · exact Nat.zero_le _
theorem commit_n (M : MD) (n : Nat) (s : Bool) (L : List Opm) : (commitP M n s L).n ≤ n + (frms (recs L)).length := by
  unfold commitP
  split
  · exact Nat.le_add_right _ _
  · split
    · exact Nat.le_add_right _ _
    · unfold commitA
      split
      · split
        · exact Nat.le_refl _
        · rw [commitC_n]; exact Nat.le_add_right _ _
      · rw [commitC_n]; exact Nat.le_add_right _ _
theorem reset_n (M : MD) (n : Nat) (s : Bool) : (resetP M n s).n ≤ n := by
  unfold resetP
  split
  · exact Nat.le_refl _
  · show (if _ then 0 else n) ≤ n
    split
    · exact Nat.zero_le _
    · exact Nat.le_refl _
/-- Ahead of a step: both logs are open and one, or neither is. -/
def RunAt (w0 wl : World) (N base b r k : Nat) (wv vv : Value) : Prop :=
  ∃ M, Well 7000 M (4 + 4 * k) ∧ Grow w0 wl ∧ ((wv = .pointer none ∧ vv = .pointer none ∧ Both (· < N) wl base b r M M) ∨
    ∃ q p n s, wv = .pointer (some ⟨q, 0, none⟩) ∧ vv = .pointer (some ⟨p, 0, none⟩) ∧ DuoW (· < N) wl base b r q p M n s M n s ∧ n ≤ 7200000 + 7000 * k)

theorem RunAt.new {w0 wl wl' : World} {N base b r k : Nat} {wv vv : Value} (h : RunAt w0 wl N base b r k wv vv) (t : Turn [] wl wl') : RunAt w0 wl' N base b r k wv vv := by
  obtain ⟨M, h1, h2, h3⟩ := h
  refine ⟨M, h1, h2.trans (turn_grow t), ?_⟩
  rcases h3 with ⟨e1, e2, hb⟩ | ⟨q, p, n, s, e1, e2, hd, hn⟩
  · exact .inl ⟨e1, e2, hb.new t⟩
  · exact .inr ⟨q, p, n, s, e1, e2, hd.new t, hn⟩
theorem EndE.run {w0 wl : World} {N base b r k : Nat} {aw av : Option Addr} {O : Opened} (h : EndE (· < N) wl base b r aw av O) (hw : Well 7000 O.M (4 + 4 * k)) (hg : Grow w0 wl) (hn : O.n ≤ 7200000) : RunAt w0 wl N base b r k (.pointer aw) (.pointer av) := by
  refine ⟨O.M, hw, hg, ?_⟩
  rcases h with ⟨rfl, rfl, hb⟩ | ⟨q, p, rfl, rfl, hd⟩
  · exact .inl ⟨rfl, rfl, hb⟩
  · exact .inr ⟨q, p, O.n, false, rfl, rfl, hd, by omega⟩
theorem drew_turn (w : World) (k : Nat) : Turn [] w (w.drewN k) := (Turn.refl [] w).drewN k
theorem meas7 {a k : Nat} (h : k < a) : a - (RowKit.intOf (.int .i64 ((k : Int) + 1))).toNat < a - (RowKit.intOf (.int .i64 (k : Int))).toNat := by simp [RowKit.intOf]; omega
def planV (p : PV) : Value := .agg #[.int .i64 p.cap, .slice p.aF p.zs.length p.cF, .int .i64 p.cr, .bool p.dn, .slice p.aK p.ks.length p.cK]

theorem PlanAt.cells {w : World} {a : Addr} {i : Nat} {p : PV} (h : PlanAt w a i p) : ∀ w', Grow w w' →
    w'.cell? (a.add (i * 5)) = some (.int .i64 p.cap) ∧ w'.cell? ⟨(a.add (i * 5)).block, (a.add (i * 5)).off + 1, none⟩ = some (.slice p.aF p.zs.length p.cF) ∧ w'.cell? ⟨(a.add (i * 5)).block, (a.add (i * 5)).off + 2, none⟩ = some (.int .i64 p.cr) ∧
      w'.cell? ⟨(a.add (i * 5)).block, (a.add (i * 5)).off + 3, none⟩ = some (.bool p.dn) ∧ w'.cell? ⟨(a.add (i * 5)).block, (a.add (i * 5)).off + 4, none⟩ = some (.slice p.aK p.ks.length p.cK) := fun w' hg => by
  have h1 := h.c1
  have h2 := h.c2
  have h3 := h.c3
  have h4 := h.c4
  rw [add_fld5 _ _ _ (by omega)] at h1 h2 h3 h4
  exact ⟨grow_cell hg h.c0, grow_cell hg h1, grow_cell hg h2, grow_cell hg h3, grow_cell hg h4⟩

/-- The reference's new disk, out of a plan that was there. -/
theorem ref_new_below (cap cr : Int) (dn : Bool) (aF : Option Addr) (cF : Nat) (zs : List Int) (aK : Option Addr) (cK : Nat) (ks : List Int) (w w' : World) (hF : Reads w (.slice aF zs.length cF) (iv zs)) (hK : Reads w (.slice aK ks.length cK) (iv ks)) (hg : Grow w w') :
    Calls Tryz.prog 10 #[.agg #[.int .i64 cap, .slice aF zs.length cF, .int .i64 cr, .bool dn, .slice aK ks.length cK]] w' fun e w'' => ∃ r F G, e = .returned (theRef r) ∧ RD w'' r (MD.new cap cr dn zs ks) F G ∧ (∀ q ∈ F, w'.heap.size ≤ q) ∧ (∀ q ∈ G, q < w.heap.size) ∧ Turn [] w' w'' := by
  have blk : ∀ (ao : Option Addr) (c : Nat) (xs : List Int), Reads w (.slice ao xs.length c) (iv xs) → ∃ Q : List Nat, (xs ≠ [] → ∀ a n c', Value.slice ao xs.length c = .slice (some a) n c' → a.block ∈ Q) ∧ ∀ q ∈ Q, q < w.heap.size := by
    intro ao c xs hr
    cases xs with
    | nil => exact ⟨[], fun h => absurd rfl h, by simp⟩
    | cons x xs =>
      obtain ⟨a, rfl, hc⟩ := reads_cell7 (k := 0) hr rfl
      refine ⟨[a.block], fun _ a' n c' e => by cases e; simp, fun q hq => ?_⟩
      rw [List.mem_singleton.1 hq]
      have := World.block_lt_of_cell? w _ hc
      rwa [add_block] at this
  obtain ⟨Q1, p1, q1⟩ := blk aF cF zs hF
  obtain ⟨Q2, p2, q2⟩ := blk aK cK ks hK
  refine (ref_new cap cr dn _ _ zs ks w' (hF.later hg) (hK.later hg) (Q1 ++ Q2) (fun hz a n c e => List.mem_append.2 (.inl (p1 hz a n c e))) (fun hz a n c e => List.mem_append.2 (.inr (p2 hz a n c e))) (fun q hq => ?_)).mono ?_
  · rcases List.mem_append.1 hq with h | h
    · exact Nat.lt_of_lt_of_le (q1 q h) hg.size
    · exact Nat.lt_of_lt_of_le (q2 q h) hg.size
  · rintro e w'' ⟨r, F, rfl, hD, hF', t⟩
    exact ⟨r, F, Q1 ++ Q2, rfl, hD, hF', fun q hq => (List.mem_append.1 hq).elim (q1 q) (q2 q), t⟩

set_option maxHeartbeats 8000000 in
theorem runs_wal (ap : Option Addr) (a2 : Addr) (n2 c2 : Nat) (P : Nat → PV) (v1 : Value) (n1 : Nat) (LL : List (List Opm)) (v5 : Value) (A : List UInt8) (w : World) (h0 : Plans w ap a2 n2 P) (h1 : Obs w v1 n1 LL) (h5 : Reads w v5 (bv A)) (h5l : A.length ≤ maxLen) (ht : Tab w) :
    Calls Tryz.prog 3 #[.slice ap n2 c2, v1, v5] w fun e w' => e = .returned (.bool true) ∧ Below w.heap.size w w' := by
  obtain ⟨a1, c1, rfl⟩ := h1.shape
  obtain ⟨nA, hnA⟩ : ∃ nA, nA = A.length := ⟨_, rfl⟩
  obtain ⟨a5, c5, rfl⟩ : ∃ ao c, v5 = .slice ao nA c := by obtain ⟨ao, c, rfl, _⟩ := h5; exact ⟨ao, c, by rw [bv_length, hnA]⟩
  rw [← hnA] at h5l
  have hm5 : nA ≤ 9223372036854775807 := by unfold maxLen at h5l; omega
  have H0 := Lib.hid h0
  have H1 := Lib.hid h1
  have H5 := Lib.hid (And.intro h5 hnA)
  have HTB := Lib.hid ht
  have hC := heavy_wal (.slice a1 n1 c1) n1 LL ap a2 n2 c2 P w h1 h0
  clear h0 h1 h5 ht hnA h5l
  go_enter Tryz.func3, Tryz.ntmps3
  go_wp2_with fail
  refine hC.mono ?_
  rintro e w1 ⟨g, q, rfl, hw1, hb⟩
  have B1 : Hid (Grow w w1) := Lib.hid (show Grow w w1 by rw [hw1]; exact below_drewN (Below.refl _ w) q)
  clear hC hw1
  cases g with
  | true =>
    clear hb
    go_wp2_with (go_at_call 8; refine (awake_wal _ (HTB.out.later B1.out)).mono ?_; rintro e w' ⟨rfl, hb9⟩)
    go_ret
    exact ⟨rfl, B1.out.trans hb9⟩
  | false =>
  have HL := Lib.hid (hb rfl)
  clear hb
  by_cases x1 : 60 < nA
  · have y1 : (60 : Int) < (nA : Int) := by omega
    go_wp2_with (go_at_call 8; refine (awake_wal _ (HTB.out.later B1.out)).mono ?_; rintro e w' ⟨rfl, hb9⟩)
    go_ret
    exact ⟨rfl, B1.out.trans hb9⟩
  have y1 : ¬ (60 : Int) < (nA : Int) := by omega
  by_cases x2 : n2 = 0
  · subst x2
    go_wp2_with (go_at_call 8; refine (awake_wal _ (HTB.out.later B1.out)).mono ?_; rintro e w' ⟨rfl, hb9⟩)
    go_ret
    exact ⟨rfl, B1.out.trans hb9⟩
  have y2 : (((n2 : Nat) : Int) == 0) = false := by simp; omega
  have x2' : 0 < n2 := by omega
  obtain rfl : ap = some a2 := by
    rcases H0.out.addr with h | ⟨_, h⟩
    · exact h
    · omega
  have HN2 := Lib.hid (And.intro x1 x2')
  have y3 : (0 : Int) < (n2 : Int) := by omega
  have y4 : 0 < n2 := x2'
  clear x1 x2 x2'
  have u0 := (H0.out.at' 0 HN2.out.2).cells
  have hok0 := (H0.out.at' 0 HN2.out.2).ok
  have hlt0 := HL.out.2.2.2 0 HN2.out.2
  rw [Nat.zero_mul, show a2.add 0 = a2 by simp [Addr.add]] at u0
  obtain ⟨P0, hP0⟩ : ∃ P0, P0 = P 0 := ⟨_, rfl⟩
  rw [← hP0] at u0 hok0 hlt0
  obtain ⟨pc, aF, cF, zs, cr, dn, aK, cK, ks⟩ := P0
  simp only [] at u0 hlt0
  obtain ⟨lF, hlF⟩ : ∃ lF, lF = zs.length := ⟨_, rfl⟩
  obtain ⟨lK, hlK⟩ : ∃ lK, lK = ks.length := ⟨_, rfl⟩
  have C1 := fun (w' : World) (hg : Grow w w') => new_cd pc cr dn (.slice aF zs.length cF) (.slice aK ks.length cK) zs ks w' (hok0.rF.later hg) (hok0.rK.later hg) (by have := hlt0.1; omega) (by have := hlt0.2; omega)
  obtain ⟨PB, hPB1, hPB2⟩ := blocks_of (fun q => q < w.heap.size ∨ True) (.slice aF zs.length cF) zs (fun _ _ _ _ _ => .inr trivial)
  have hrefnew := fun (w' : World) (hg : Grow w w') => ref_new_below pc cr dn aF cF zs aK cK ks w w' hok0.rF hok0.rK hg
  have HW1 : Hid (Well 7000 (MD.new pc cr dn zs ks) 0) := Lib.hid (well_new _ _ _ _ _ _ hok0.cap (by have := hlt0.1; omega) (by have := hlt0.2; omega))
  rw [← hlF, ← hlK] at u0 C1 hrefnew
  obtain ⟨M, hM⟩ : ∃ M, M = MD.new pc cr dn zs ks := ⟨_, rfl⟩
  rw [← hM] at C1 hrefnew HW1
  have u0' : ∀ w', Grow w1.drew w' → _ := fun w' hg => u0 w' (B1.out.trans (Grow.trans (below_drewN (Below.refl _ w1) 1) hg))
  have HC1 := Lib.hid C1
  have HC2 := Lib.hid hrefnew
  clear u0 C1 hrefnew hok0 hlt0 hP0 hPB1 hPB2 hlF hlK hM
  go_wp2_with fail
  refine wp_region_mv [(0, 3, true), (4, 3, true), (3, 1, false), (7, 1, false), (8, 2, true)] (by kernel_rfl) (by kernel_rfl) ?_
  simp only [mvAll, mvSeg, List.drop_succ_cons, List.drop_zero, List.cons_append, List.nil_append, Nat.reduceAdd]
  iterate 6
    refine wpLin_still ?_ (fun w' hG K hK => ?_) (fun K hK => ?_)
    rotate_left
    · obtain ⟨d0, d1, d2, d3, d4⟩ := u0' w' hG
      clear hG
      unfold mvVal
      go_simp
      try exact hK
    go_simp
    refine hK _ ?_
    clear hK K
  clear u0'
  have G1 : Grow w w1.drew := B1.out.trans (below_drewN (Below.refl _ w1) 1)
  refine wpLin_call (fun K hK => ?_)
  unfold mvRun
  go_simp
  simp only [mvUpon]
  refine (HC1.out w1.drew G1).mono ?_
  rintro e w2 ⟨b, Fd, rfl, hCD, t2⟩
  refine ⟨_, rfl, ?_⟩
  go_simp
  refine hK _ _ (turn_grow t2) ?_
  clear hK K
  have HCD := Lib.hid (And.intro hCD t2)
  have HG2 : Hid (Grow w w2) := Lib.hid (G1.trans (turn_grow t2))
  clear hCD t2 G1
  refine wpLin_call (fun K hK => ?_)
  unfold mvRun
  go_simp
  simp only [mvUpon]
  refine (HC2.out w2 HG2.out).mono ?_
  rintro e w3 ⟨r, Fr, G, rfl, hRD, hFr, hG9, t3⟩
  refine ⟨_, rfl, ?_⟩
  go_simp
  refine hK _ _ (turn_grow t3) ?_
  clear hK K
  obtain ⟨N, hN⟩ : ∃ N, N = w.heap.size := ⟨_, rfl⟩
  obtain ⟨base, hbs⟩ : ∃ base, base = w1.drew.heap.size := ⟨_, rfl⟩
  have HB3 : Hid (Both (· < N) w3 base b r M M ∧ Grow w w3) := Lib.hid (by
    have hNb : N ≤ base := by rw [hN, hbs]; exact B1.out.size
    refine ⟨⟨fun q hq => Nat.lt_of_lt_of_le hq (by rw [hN]; exact (HG2.out.trans (turn_grow t3)).size), Fd, Fr, G, by rw [hbs]; exact HCD.out.1.new t3, hRD, fun q hq => ⟨fun hm => ?_, fun hm => ?_, ?_⟩, fun q hq => ?_⟩, HG2.out.trans (turn_grow t3)⟩
    · have := hFr q hm; have := (HCD.out.1.lt q hq).2; omega
    · have := hG9 q hm; have := (HCD.out.1.lt q hq).1; omega
    · have := (HCD.out.1.lt q hq).1
      show ¬ q < N
      omega
    · have := hFr q hq
      have := HG2.out.size
      show ¬ q < N
      omega)
  have HNN := Lib.hid hN
  have HNB : Hid (w.heap.size ≤ base) := Lib.hid (by rw [hbs]; exact B1.out.size)
  clear hRD hFr hG9 t3 HCD HG2 HC1 HC2 hbs hN B1
  iterate 2
    refine wpLin_still ?_ (fun w' hG K hK => ?_) (fun K hK => ?_)
    rotate_left
    · clear hG
      unfold mvVal
      go_simp
      try exact hK
    go_simp
    refine hK _ ?_
    clear hK K
  refine wpLin_nil ?_
  have C1 := duo_opens HB3.out.1 (TabAt.mk HTB.out HB3.out.2 HNB.out) HW1.out (by decide) room_big
  unfold theDisk at C1 ⊢
  unfold theRef
  go_wp2_with fail
  refine C1.mono ?_
  rintro e w4 ⟨aw, ao, jn, c, rfl, hH, hst⟩
  have hg4 : Grow w w4 := Below.trans HB3.out.2 (by rw [← HNN.out]; exact hst.below)
  have C2 := duo_opens_ref hH HW1.out (by decide) room_big
  have hW2 := well_open HW1.out
  have hn0 := openP_n room_big HW1.out (by decide)
  obtain ⟨O, hO⟩ : ∃ O, O = openP M := ⟨_, rfl⟩
  rw [← hO] at C2 hW2 hn0 ⊢
  have HG4 := Lib.hid (And.intro hg4 (And.intro hW2 hn0))
  clear hH hst hg4 hO C1 HB3 HW1 hn0 hW2
  obtain ⟨z, hz⟩ : ∃ z, z = O.e := ⟨_, rfl⟩
  rw [← hz] at C2 ⊢
  clear hz
  unfold theRef at C2
  go_wp2_with fail
  refine C2.mono ?_
  rintro e w5 ⟨av, ao2, jn2, c3, rfl, hE, ⟨LB, ho1, ho2⟩, hst⟩
  have hg5 : Grow w w5 := Below.trans HG4.out.1 (by rw [← HNN.out]; exact hst.below)
  have hsame := hE.same
  have HR0 : Hid (RunAt w w5 N base b r 0 (.pointer aw) (.pointer av)) := Lib.hid (hE.run (well_more HG4.out.2.1 (by decide)) hg5 HG4.out.2.2)
  have SB := same_batches _ _ _ _ _ _ w5 ho1 ho2
  clear hE ho1 ho2 hst hg5 C2 HG4
  go_wp2_with (first | (go_at_call 13; refine (num1_any _ _).mono ?_; rintro e w' ⟨rfl, rfl⟩) | (go_at_call 14; refine SB.mono ?_; rintro e wy ⟨bb, kq, rfl, hwy, hbb⟩; obtain rfl : bb = true := hbb.2 rfl; have HY : Hid (wy = w5.drewN kq) := Lib.hid hwy; clear hwy hbb SB))
  have HR1 := Lib.hid (HR0.out.new (by rw [HY.out] ; exact drew_turn w5 kq : Turn [] w5 wy))
  clear HR0 HY
  go_loopw [9, 10, 11, 12, 13, 14, 15, 16, 17] (fun wv av ev vv bv' fv nx tt i wl => ∃ k nn t : Nat, k ≤ nA ∧ i = .int .i64 k ∧ nx = .int .i64 nn ∧ tt = .int .i64 t ∧ nn ≤ k + 1 ∧ t ≤ k ∧ Hid (RunAt w wl N base b r k wv vv)) (fun _ _ _ _ _ _ _ _ i _ => nA - (RowKit.intOf i).toNat)
  case atStart => exact ⟨0, 1, 0, Nat.zero_le _, rfl, rfl, rfl, Nat.le_refl _, Nat.le_refl _, HR1⟩
  case round =>
    obtain ⟨k, nn, t, hk, rfl, rfl, rfl, hnn, htt, hrel⟩ := hrel
    clear HR1
    by_cases h1 : k < nA
    · have h3 : (k : Int) < (nA : Int) := by omega
      have hk60 : k < 60 := by have := HN2.out.1; omega
      obtain ⟨x, hx⟩ : ∃ x : UInt8, A[k]? = some x := ⟨_, List.getElem?_eq_getElem (by have := H5.out.2; omega)⟩
      obtain ⟨M, hW, hg, hcase⟩ := hrel.out
      obtain ⟨aA, ha5, hcA⟩ := reads_cell7 (k := k) (H5.out.1.later hg) (by simp [bv, hx] : (bv A)[k]? = some (.int .u8 (x.toNat : Int)))
      subst ha5
      obtain ⟨y, hy⟩ : ∃ y : Nat, y = x.toNat % 5 := ⟨_, rfl⟩
      have ey : ((x.toNat : Nat) : Int).tmod 5 = (y : Int) := by rw [Int.tmod_eq_emod_of_nonneg (by omega)]; omega
      have ey2 : ((x.toNat : Nat) : Int) % 5 = (y : Int) := by omega
      have e3 : wrap64 ((k : Int) + 1) = ((k + 1 : Nat) : Int) := by rw [wrap64_id _ (by omega)]; omega
      have HGW := Lib.hid (And.intro hg (And.intro hW hk60))
      clear hrel hx hy hg hW hk60
      by_cases y0 : y = 0
      · subst y0
        have hBo : Both (· < N) wr base b r M M := by
          rcases hcase with ⟨_, _, h⟩ | ⟨q, p, n, s, _, _, h, _⟩
          · exact h
          · exact h.both
        have HBo := Lib.hid hBo
        clear hcase hBo
        by_cases hn2 : nn < n2
        case' pos =>
          have h4 : (nn : Int) < (n2 : Int) := by omega
          have e4 : wrap64 ((nn : Int) + 1) = ((nn + 1 : Nat) : Int) := by rw [wrap64_id _ (by have := HGW.out.2.2; omega)]; omega
          have hat := H0.out.at' nn hn2
          have hcells := hat.cells
          have hlt := HL.out.2.2.2 nn hn2
          have hok := hat.ok
          obtain ⟨Pn, hPn⟩ : ∃ Pn, Pn = P nn := ⟨_, rfl⟩
          rw [← hPn] at hcells hlt hok
          obtain ⟨xc, xaF, xcF, xzs, xcr, xdn, xaK, xcK, xks⟩ := Pn
          simp only [] at hcells hlt
          have hfX : xzs ≠ [] → ∀ a n c, Value.slice xaF xzs.length xcF = .slice (some a) n c → a.block < N := fun hz a n c e => by
            have := reads_low hok.rF (by intro h; exact hz (List.map_eq_nil_iff.1 h)) a n c e
            rw [HNN.out]; exact this
          have hkX : xks ≠ [] → ∀ a n c, Value.slice xaK xks.length xcK = .slice (some a) n c → a.block < N := fun hz a n c e => by
            have := reads_low hok.rK (by intro h; exact hz (List.map_eq_nil_iff.1 h)) a n c e
            rw [HNN.out]; exact this
          have HLM := well_lim room_big HGW.out.2.1 (by have := HGW.out.2.2; omega)
          have C1 := code_restart HBo.out HLM xc xcr xdn _ _ xzs xks (hok.rF.later HGW.out.1) (hok.rK.later HGW.out.1) hfX hkX hlt.1 (by omega)
          obtain ⟨lF', hlF'⟩ : ∃ lF', lF' = xzs.length := ⟨_, rfl⟩
          obtain ⟨lK', hlK'⟩ : ∃ lK', lK' = xks.length := ⟨_, rfl⟩
          rw [← hlF', ← hlK'] at hcells C1
          obtain ⟨d0, d1, d2, d3, d4⟩ := hcells wr HGW.out.1
          have HCE := Lib.hid hcells
          have HX := Lib.hid (And.intro hok (And.intro hlt (And.intro hfX (And.intro hkX (And.intro HLM (And.intro hlF' hlK'))))))
          clear hok hlt hfX hkX HLM hPn hat hlF' hlK' hcells
          unfold theDisk at C1
          go_wp2_with fail
          refine C1.mono ?_
          rintro e w2 ⟨rfl, hBo, hst⟩
          have hg2 : Grow w w2 := Below.trans HGW.out.1 (by rw [← HNN.out]; exact hst.below)
          have C2 := ref_restart_both hBo HX.out.2.2.2.2.1 xc xcr xdn _ _ xzs xks (HX.out.1.rF.later hg2) (HX.out.1.rK.later hg2) HX.out.2.2.1 HX.out.2.2.2.1
          rw [← HX.out.2.2.2.2.2.1, ← HX.out.2.2.2.2.2.2] at C2
          obtain ⟨f0, f1, f2, f3, f4⟩ := HCE.out w2 hg2
          obtain ⟨ME, hME⟩ : ∃ ME, ME = M.restart xc xcr xdn xzs xks := ⟨_, rfl⟩
          rw [← hME] at C2
          have HWE : Hid (Well 7000 ME (4 + 4 * k + 1)) := Lib.hid (by rw [hME]; exact well_restart HGW.out.2.1 HX.out.1.cap HX.out.2.1.1 (by have := HX.out.2.1.2; omega))
          have HG2 := Lib.hid hg2
          clear d0 d1 d2 d3 d4 hBo hst hg2 hME C1 HBo
          unfold theRef at C2
          go_wp2_with fail
          refine C2.mono ?_
          rintro e wE ⟨rfl, hBo, hst⟩
          have HGE : Hid (Grow w wE) := Lib.hid (Below.trans HG2.out (by rw [← HNN.out]; exact hst.below))
          have HBE := Lib.hid hBo
          clear f0 f1 f2 f3 f4 hBo hst C2 HX HCE HG2
        case' neg =>
          have h4 : ¬ (nn : Int) < (n2 : Int) := by omega
          have HWE : Hid (Well 7000 M (4 + 4 * k + 1)) := Lib.hid (well_more HGW.out.2.1 (by omega))
          have HGE := Lib.hid HGW.out.1
          have HBE := HBo
          obtain ⟨ME, rfl⟩ : ∃ ME, ME = M := ⟨_, rfl⟩
          obtain ⟨wE, rfl⟩ : ∃ wE, wE = wr := ⟨_, rfl⟩
          clear HBo
        all_goals as_aux_lemma =>
          have C1 := duo_opens HBE.out (TabAt.mk HTB.out HGE.out HNB.out) HWE.out (by have := HGW.out.2.2; omega) room_big
          unfold theDisk at C1
          go_wp2_with fail
          refine C1.mono ?_
          rintro e w4 ⟨aw, ao', jn', c', rfl, hH, hst⟩
          have hg4 : Grow w w4 := Below.trans HGE.out (by rw [← HNN.out]; exact hst.below)
          have C2 := duo_opens_ref hH HWE.out (by have := HGW.out.2.2; omega) room_big
          have hW2 := well_open HWE.out
          have hn0 := openP_n room_big HWE.out (by have := HGW.out.2.2; omega)
          obtain ⟨O, hO⟩ : ∃ O, O = openP ME := ⟨_, rfl⟩
          rw [← hO] at C2 hW2 hn0 ⊢
          have HG4 := Lib.hid (And.intro hg4 (And.intro hW2 hn0))
          clear hH hst hg4 hO C1 hn0 hW2
          obtain ⟨z, hz⟩ : ∃ z, z = O.e := ⟨_, rfl⟩
          rw [← hz] at C2 ⊢
          clear hz
          unfold theRef at C2
          go_wp2_with fail
          refine C2.mono ?_
          rintro e w5 ⟨av, ao2, jn2, c3, rfl, hE, ⟨LB, ho1, ho2⟩, hst⟩
          have hg5 : Grow w w5 := Below.trans HG4.out.1 (by rw [← HNN.out]; exact hst.below)
          have hsame := hE.same
          have HR0 : Hid (RunAt w w5 N base b r (k + 1) (.pointer aw) (.pointer av)) := Lib.hid (hE.run (well_more HG4.out.2.1 (by omega)) hg5 HG4.out.2.2)
          have SB := same_batches _ _ _ _ _ _ w5 ho1 ho2
          clear hE ho1 ho2 hst hg5 C2 HG4
          go_wp2_with (first | (go_at_call 13; refine (num1_any _ _).mono ?_; rintro e w' ⟨rfl, rfl⟩) | (go_at_call 14; refine SB.mono ?_; rintro e wy ⟨bb, kq, rfl, hwy, hbb⟩; obtain rfl : bb = true := hbb.2 rfl; have HY : Hid (wy = w5.drewN kq) := Lib.hid hwy; clear hwy hbb SB))
          have HR1 := Lib.hid (HR0.out.new (by rw [HY.out] ; exact drew_turn w5 kq : Turn [] w5 wy))
          first
            | exact ⟨⟨k + 1, nn + 1, t, by omega, by simp, rfl, rfl, by omega, by omega, HR1⟩, by simp [RowKit.intOf]; omega⟩
            | exact ⟨⟨k + 1, nn, t, by omega, by simp, rfl, rfl, by omega, by omega, HR1⟩, by simp [RowKit.intOf]; omega⟩
      · have z0 : (((y : Nat) : Int) == 0) = false := by simp; omega
        rcases hcase with ⟨rfl, rfl, hBo⟩ | ⟨q, p, n, s, rfl, rfl, hD, hn⟩
        · have HRA : Hid (RunAt w wr N base b r (k + 1) (.pointer none) (.pointer none)) := Lib.hid ⟨M, well_more HGW.out.2.1 (by omega), HGW.out.1, .inl ⟨rfl, rfl, hBo⟩⟩
          have HRD : Hid (RunAt w wr.drew N base b r (k + 1) (.pointer none) (.pointer none)) := Lib.hid (HRA.out.new (drew_turn wr 1))
          clear hBo
          by_cases y1' : y = 1
          · as_aux_lemma =>
            subst y1'
            go_wp2_with fail
            refine wp_region_mv [(0, 19, true)] (by kernel_rfl) (by kernel_rfl) ?_
            simp only [mvAll, mvSeg, List.drop_succ_cons, List.drop_zero, List.cons_append, List.nil_append, Nat.reduceAdd]
            iterate 19
              refine wpLin_still ?_ (fun w' hG K hK => ?_) (fun K hK => ?_)
              rotate_left
              · clear hG
                unfold mvVal
                go_simp
                try exact hK
              go_simp
              refine hK _ ?_
              clear hK K
            refine wpLin_nil ?_
            go_wp2_with fail
            exact ⟨⟨k + 1, nn, t, by omega, by simp, rfl, rfl, by omega, by omega, HRD⟩, by simp [RowKit.intOf]; omega⟩
          · have z1 : (((y : Nat) : Int) == 1) = false := by simp; omega
            go_wp2_with fail
            exact ⟨⟨k + 1, nn, t, by omega, by simp, rfl, rfl, by omega, by omega, HRA⟩, by simp [RowKit.intOf]; omega⟩
        · by_cases y1' : y = 1
          · as_aux_lemma =>
            subst y1'
            have hLM := well_lim room_big HGW.out.2.1 (by have := HGW.out.2.2; omega)
            have hD0 := hD.new (drew_turn wr 1)
            obtain ⟨R, hR⟩ : ∃ R, R = resetP M n s := ⟨_, rfl⟩
            have hRn : R.n ≤ 7200000 + 7000 * k := by rw [hR]; exact Nat.le_trans (reset_n M n s) hn
            have hRW : Well 7000 R.M (4 + 4 * k + 1) := by rw [hR]; exact well_reset HGW.out.2.1 n s
            have C1 := duo_reset_code hD0 hLM
            have C2 := fun (w2 : World) (hD2 : DuoW (· < N) w2 base b r q p R.M R.n R.s M n s) => duo_reset_ref hD2 hLM
            rw [← hR] at C1 C2
            obtain ⟨z, hz⟩ : ∃ z, z = R.e := ⟨_, rfl⟩
            rw [← hz] at C1 C2
            have HC2 := Lib.hid C2
            have HRR := Lib.hid (And.intro hRn hRW)
            clear C2 hR hRn hRW hz hD hD0 hn hLM
            go_wp2_with fail
            refine wp_region_mvz (fun _ _ => True) Grow 7 (fun _ => trivial) (fun w => Grow.refl w) (fun _ _ => trivial) (fun h k => Grow.trans h k) (fun _ => trivial) [(0, 4, true), (6, 1, true), (4, 1, false), (5, 1, false), (7, 1, false), (8, 3, true), (12, 4, true), (11, 1, false), (16, 3, true)] (by kernel_rfl) (by kernel_rfl) (by kernel_rfl) ?_
            simp only [mvAll, mvSeg, List.drop_succ_cons, List.drop_zero, List.cons_append, List.nil_append, Nat.reduceAdd]
            iterate 5
              refine wpLza_still (by rfl) ?_ (fun w' hG K hK => ?_) (fun K hK => ?_)
              rotate_left
              · clear hG
                unfold mvVal
                go_simp
                try exact hK
              go_simp
              refine hK _ ?_
              clear hK K
            refine wpLza_call (by rfl) (fun K hK => ?_)
            unfold mvRun
            go_simp
            simp only [mvUpon]
            refine (C1).mono ?_
            rintro e w2 ⟨rfl, hD2, hst⟩
            refine ⟨_, rfl, ?_⟩
            go_simp
            have HG2 : Hid (Below N wr w2) := Lib.hid (Stays.below (Stays.trans (Stays.drew wr) hst))
            have HD2 := Lib.hid hD2
            clear hD2 hst C1
            refine hK _ _ trivial ?_
            clear hK K
            refine wpLza_call (by rfl) (fun K hK => ?_)
            unfold mvRun
            go_simp
            simp only [mvUpon]
            refine (num1_any z w2).mono ?_
            rintro e w2x ⟨rfl, rfl⟩
            refine ⟨_, rfl, ?_⟩
            go_simp
            refine hK _ _ trivial ?_
            clear hK K
            refine wpLz_turn (fun K hK => ?_)
            unfold mvRun
            go_simp
            simp only [mvUpon]
            refine (HC2.out w2 HD2.out).mono ?_
            rintro e w3 ⟨rfl, hD3, hst⟩
            refine ⟨_, rfl, ?_⟩
            go_simp
            have HG3 : Hid (Below N wr w3) := Lib.hid (Below.trans HG2.out hst.below)
            have HD3 := Lib.hid hD3
            clear hD3 hst HC2
            refine hK _ _ trivial ?_
            clear hK K
            have u2 : ∀ w', Grow w3 w' → w'.cell? ⟨p, 2, none⟩ = some (.bool R.s) := fun w' hg => grow_cell hg (wob_2 HD3.out.objs.2)
            have SK := sick_at b q R.n R.s w3 HD3.out.objs.1
            obtain ⟨sk, hsk⟩ : ∃ sk, sk = R.s := ⟨_, rfl⟩
            rw [← hsk] at u2 SK
            iterate 3
              refine wpLzb_still ?_ (fun w' hG K hK => ?_) (fun K hK => ?_)
              rotate_left
              · clear hG
                unfold mvVal
                go_simp
                try exact hK
              go_simp
              refine hK _ ?_
              clear hK K
            iterate 4
              refine wpLzb_still ?_ (fun w' hG K hK => ?_) (fun K hK => ?_)
              rotate_left
              · have d2 := u2 w' hG
                clear hG
                unfold mvVal
                go_simp
                try exact hK
              go_simp
              refine hK _ ?_
              clear hK K
            refine wpLzb_call (fun K hK => ?_)
            unfold mvRun
            go_simp
            simp only [mvUpon]
            refine (SK).mono ?_
            rintro e w3x ⟨rfl, rfl⟩
            refine ⟨_, rfl, ?_⟩
            go_simp
            refine hK _ _ (Grow.refl _) ?_
            clear hK K
            iterate 3
              refine wpLzb_still ?_ (fun w' hG K hK => ?_) (fun K hK => ?_)
              rotate_left
              · clear hG
                unfold mvVal
                go_simp
                try exact hK
              go_simp
              refine hK _ ?_
              clear hK K
            refine wpLz_nil ?_
            go_wp2_with fail
            have HRA : Hid (RunAt w w3 N base b r (k + 1) (.pointer (some ⟨q, 0, none⟩)) (.pointer (some ⟨p, 0, none⟩))) := Lib.hid ⟨R.M, well_more HRR.out.2 (by omega), Below.trans HGW.out.1 (by rw [← HNN.out]; exact HG3.out), .inr ⟨q, p, R.n, R.s, rfl, rfl, HD3.out, by have := HRR.out.1; omega⟩⟩
            exact ⟨⟨k + 1, nn, t, by omega, by simp, rfl, rfl, by omega, by omega, HRA⟩, by simp [RowKit.intOf]; omega⟩
          · have z1 : (((y : Nat) : Int) == 1) = false := by simp; omega
            by_cases htl : t < n1
            · as_aux_lemma =>
              have h6 : ¬ (n1 : Int) ≤ (t : Int) := by omega
              obtain ⟨aL, L, aq, cq, rfl, hL, hcL, hOp⟩ := H1.out.at htl
              obtain ⟨lL, hlL⟩ : ∃ lL, lL = L.length := ⟨_, rfl⟩
              rw [← hlL] at hcL hOp
              have hlight := HL.out.2.2.1 t L hL
              have hblk : (aL.add t).block < N := by rw [HNN.out]; exact World.block_lt_of_cell? w _ hcL
              have hcl : wr.cell? (aL.add t) = some (.slice aq lL cq) := (World.cell?_of_block (HGW.out.1.block _ (by rw [← HNN.out]; exact hblk))).trans hcL
              have hsz7 : (frms (recs L)).length ≤ 7000 := by have := recs_size hlight.1; omega
              have hD0 := hD.new (drew_turn wr 1)
              have hNs : N ≤ wr.heap.size := by rw [HNN.out]; exact HGW.out.1.size
              obtain ⟨R, hR⟩ : ∃ R, R = commitP M n s L := ⟨_, rfl⟩
              have hRn : R.n ≤ 7200000 + 7000 * (k + 1) := by rw [hR]; have := commit_n M n s L; omega
              have hRW : Well 7000 R.M (4 + 4 * k + 3) := by rw [hR]; exact well_commit HGW.out.2.1 n s L hsz7
              have hn9 : n ≤ 900000000 := by have := HGW.out.2.2; omega
              have hgd : Grow w wr.drew := HGW.out.1.trans (below_drewN (Below.refl _ wr) 1)
              have C1 := duo_commit_code hD0 (HTB.out.later hgd) (hOp.later hgd) hlight.1 HGW.out.2.1 (by have := HGW.out.2.2; omega) room_big hsz7 hn9
              have C2 := fun (w2 : World) (hg2 : Grow w w2) (hD2 : DuoW (· < N) w2 base b r q p R.M R.n R.s M n s) => duo_commit_ref hD2 (hOp.later hg2) hlight.1 HGW.out.2.1 (by have := HGW.out.2.2; omega) room_big hsz7 hn9
              rw [← hR] at C1 C2
              obtain ⟨z, hz⟩ : ∃ z, z = R.e := ⟨_, rfl⟩
              rw [← hz] at C1 C2
              have HC2 := Lib.hid C2
              have HRR := Lib.hid (And.intro hRn hRW)
              have u0 : ∀ w' : World, (N ≤ wr.drew.heap.size → (∀ q, q < N → w'.heap[q]? = wr.drew.heap[q]?) ∧ wr.drew.heap.size ≤ w'.heap.size) → w'.cell? (aL.add t) = some (.slice aq lL cq) := fun w' hg => (World.cell?_of_block ((hg hNs).1 _ hblk)).trans hcl
              have e5 : wrap64 ((t : Int) + 1) = ((t + 1 : Nat) : Int) := by rw [wrap64_id _ (by have := HGW.out.2.2; omega)]; omega
              have e6 : t < n1 := htl
              clear C2 hR hRn hRW hz hD hD0 hn hn9 hgd hL hlL hOp hlight hblk hsz7 hcL hNs
              go_wp2_with fail
              refine wp_region_mvz (fun a c : World => N ≤ a.heap.size → (∀ q, q < N → c.heap[q]? = a.heap[q]?) ∧ a.heap.size ≤ c.heap.size) Grow 12 (fun _ _ => ⟨fun _ _ => rfl, Nat.le_refl _⟩) (fun w => Grow.refl w) (fun h k hN => ⟨fun q hq => ((k (Nat.le_trans hN (h hN).2)).1 q hq).trans ((h hN).1 q hq), Nat.le_trans (h hN).2 (k (Nat.le_trans hN (h hN).2)).2⟩) (fun h k => Grow.trans h k) (fun h hN => ⟨fun q hq => h.block q (Nat.lt_of_lt_of_le hq hN), h.size⟩) [(0, 5, true), (7, 5, true), (5, 1, false), (6, 1, false), (12, 1, false), (13, 3, true), (17, 4, true), (16, 1, false), (21, 4, true), (26, 4, true), (25, 1, false), (30, 2, true)] (by kernel_rfl) (by kernel_rfl) (by kernel_rfl) ?_
              simp only [mvAll, mvSeg, List.drop_succ_cons, List.drop_zero, List.cons_append, List.nil_append, Nat.reduceAdd]
              iterate 10
                refine wpLza_still (by rfl) ?_ (fun w' hG K hK => ?_) (fun K hK => ?_)
                rotate_left
                · have d0 := u0 w' hG
                  clear hG
                  unfold mvVal
                  go_simp
                  try exact hK
                go_simp
                refine hK _ ?_
                clear hK K
              refine wpLza_call (by rfl) (fun K hK => ?_)
              unfold mvRun
              go_simp
              simp only [mvUpon]
              refine (C1).mono ?_
              rintro e w2 ⟨rfl, hD2, hst⟩
              refine ⟨_, rfl, ?_⟩
              go_simp
              have HG2 : Hid (Below N wr w2) := Lib.hid (Stays.below (Stays.trans (Stays.drew wr) hst))
              have HD2 := Lib.hid hD2
              clear hD2 C1
              refine hK _ _ (fun _ => ⟨fun q hq => hst.2 q hq, hst.1.size⟩) ?_
              clear hK K
              clear hst
              refine wpLza_call (by rfl) (fun K hK => ?_)
              unfold mvRun
              go_simp
              simp only [mvUpon]
              refine (num1_any z w2).mono ?_
              rintro e w2x ⟨rfl, rfl⟩
              refine ⟨_, rfl, ?_⟩
              go_simp
              refine hK _ _ (fun _ => ⟨fun _ _ => rfl, Nat.le_refl _⟩) ?_
              clear hK K
              refine wpLz_turn (fun K hK => ?_)
              unfold mvRun
              go_simp
              simp only [mvUpon]
              refine (HC2.out w2 (Below.trans HGW.out.1 (by rw [← HNN.out]; exact HG2.out)) HD2.out).mono ?_
              rintro e w3 ⟨rfl, hD3, hst⟩
              refine ⟨_, rfl, ?_⟩
              go_simp
              have HG3 : Hid (Below N wr w3) := Lib.hid (Below.trans HG2.out hst.below)
              have HD3 := Lib.hid hD3
              clear hD3 HC2
              refine hK _ _ (fun _ => ⟨fun q hq => hst.2 q hq, hst.1.size⟩) ?_
              clear hK K
              clear hst u0
              have u1 : ∀ w', Grow w3 w' → w'.cell? ⟨p, 1, none⟩ = some (.int .i64 (R.n : Int)) := fun w' hg => grow_cell hg (wob_1 HD3.out.objs.2)
              have u2 : ∀ w', Grow w3 w' → w'.cell? ⟨p, 2, none⟩ = some (.bool R.s) := fun w' hg => grow_cell hg (wob_2 HD3.out.objs.2)
              have SZ := size_at b q R.n R.s w3 HD3.out.objs.1
              have SK := sick_at b q R.n R.s w3 HD3.out.objs.1
              obtain ⟨sk, hsk⟩ : ∃ sk, sk = R.s := ⟨_, rfl⟩
              obtain ⟨rn, hrn⟩ : ∃ rn, rn = R.n := ⟨_, rfl⟩
              rw [← hsk] at u2 SK
              rw [← hrn] at u1 SZ
              iterate 3
                refine wpLzb_still ?_ (fun w' hG K hK => ?_) (fun K hK => ?_)
                rotate_left
                · clear hG
                  unfold mvVal
                  go_simp
                  try exact hK
                go_simp
                refine hK _ ?_
                clear hK K
              iterate 4
                refine wpLzb_still ?_ (fun w' hG K hK => ?_) (fun K hK => ?_)
                rotate_left
                · have d1 := u1 w' hG
                  clear hG
                  unfold mvVal
                  go_simp
                  try exact hK
                go_simp
                refine hK _ ?_
                clear hK K
              refine wpLzb_call (fun K hK => ?_)
              unfold mvRun
              go_simp
              simp only [mvUpon]
              refine (SZ).mono ?_
              rintro e w3x ⟨rfl, rfl⟩
              refine ⟨_, rfl, ?_⟩
              go_simp
              refine hK _ _ (Grow.refl _) ?_
              clear hK K
              iterate 4
                refine wpLzb_still ?_ (fun w' hG K hK => ?_) (fun K hK => ?_)
                rotate_left
                · clear hG
                  unfold mvVal
                  go_simp
                  try exact hK
                go_simp
                refine hK _ ?_
                clear hK K
              iterate 4
                refine wpLzb_still ?_ (fun w' hG K hK => ?_) (fun K hK => ?_)
                rotate_left
                · have d2 := u2 w' hG
                  clear hG
                  unfold mvVal
                  go_simp
                  try exact hK
                go_simp
                refine hK _ ?_
                clear hK K
              refine wpLzb_call (fun K hK => ?_)
              unfold mvRun
              go_simp
              simp only [mvUpon]
              refine (SK).mono ?_
              rintro e w3x ⟨rfl, rfl⟩
              refine ⟨_, rfl, ?_⟩
              go_simp
              refine hK _ _ (Grow.refl _) ?_
              clear hK K
              iterate 2
                refine wpLzb_still ?_ (fun w' hG K hK => ?_) (fun K hK => ?_)
                rotate_left
                · clear hG
                  unfold mvVal
                  go_simp
                  try exact hK
                go_simp
                refine hK _ ?_
                clear hK K
              refine wpLz_nil ?_
              go_wp2_with fail
              have HRA : Hid (RunAt w w3 N base b r (k + 1) (.pointer (some ⟨q, 0, none⟩)) (.pointer (some ⟨p, 0, none⟩))) := Lib.hid ⟨R.M, well_more HRR.out.2 (by omega), Below.trans HGW.out.1 (by rw [← HNN.out]; exact HG3.out), .inr ⟨q, p, R.n, R.s, rfl, rfl, HD3.out, HRR.out.1⟩⟩
              exact ⟨⟨k + 1, nn, t + 1, Nat.succ_le_of_lt h1, by simp, rfl, by rw [e5], Nat.le_succ_of_le hnn, Nat.succ_le_succ htt, HRA⟩, meas7 h1⟩
            · have h6 : (n1 : Int) ≤ (t : Int) := by omega
              have HRA : Hid (RunAt w wr N base b r (k + 1) (.pointer (some ⟨q, 0, none⟩)) (.pointer (some ⟨p, 0, none⟩))) := Lib.hid ⟨M, well_more HGW.out.2.1 (by omega), HGW.out.1, .inr ⟨q, p, n, s, rfl, rfl, hD, by omega⟩⟩
              clear hD hn
              go_wp2_with fail
              exact ⟨⟨k + 1, nn, t, by omega, by simp, rfl, rfl, by omega, by omega, HRA⟩, by simp [RowKit.intOf]; omega⟩
    · as_aux_lemma =>
      obtain rfl : k = nA := by omega
      have h3 : ¬ (k : Int) < (k : Int) := by omega
      obtain ⟨M, hW, hg, hcase⟩ := hrel.out
      have hBo : Both (· < N) wr base b r M M := by
        rcases hcase with ⟨_, _, h⟩ | ⟨q, p, n, s, _, _, h, _⟩
        · exact h
        · exact h.both
      have SA := same_any base b r M wr hBo (well_lim room_big hW (by have := HN2.out.1; omega))
      have HG := Lib.hid hg
      clear hrel hcase hBo hW hg
      unfold theDisk theRef at SA
      go_wp2_with fail
      refine SA.mono ?_
      rintro e w2 ⟨rfl, t2⟩
      have HG2 : Hid (Grow w w2) := Lib.hid (HG.out.trans (turn_grow t2))
      clear SA t2
      go_wp2_with (go_at_call 8; refine (awake_wal _ (HTB.out.later HG2.out)).mono ?_; rintro e w' ⟨rfl, hb9⟩)
      go_ret
      exact ⟨rfl, HG2.out.trans hb9⟩

end Go.Proofs.YthacjeeafnblmaaGreatDoor
