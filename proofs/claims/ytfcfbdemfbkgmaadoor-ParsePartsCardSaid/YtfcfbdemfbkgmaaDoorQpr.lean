/- The code's module. Made by wip/tools/gencmod.py. Numbers and types by name. -/
import Derived.Test.YtfcfbdemfbkgmaaDoorQpq
namespace Go.Proofs.YtfcfbdemfbkgmaaDoor
open Go.RowKit Go.Lib
set_option maxRecDepth 100000

theorem mpRun_append_gen {sl el : TypeId} {z : Value} {size bytes : Nat} (E : Elem sl el z size bytes) {ops : Array Oper} {o : Oper} {a : Act} {w : World} {Qp : List PanicEntry → World → Prop} {K : Act → World → Prop} (hgd : o.guard = none) (s x : Operand)
    (ho : o.op = .call { callee := .builtin .append, args := #[s, x], argTypes := #[sl, sl] })
    (base : Nat) (v : Value) (n : Nat) (xs : List Value) (hs : a.eval s = v) (hown : w.ownsRow base el size v n xs) (vb : Value) (m : Nat) (news : List Value) (hx : a.eval x = vb) (hr : Cells w vb size m news) (h1 : ∀ u ∈ news, u.oneCell' = true)
    (p : Nat) (hp : p = n + m) (h63 : Hid (p ≤ 1000000)) (hby : bytes ≤ 1000) (hbase : base ≤ w.heap.size)
    (h : ∀ ao c w', w'.ownsRow base el size (.slice ao p c) p (xs ++ news) → Below base w w' → w.grownBy w' v.ownBlock → ((Value.slice ao p c).ownBlock = v.ownBlock ∨ (Value.slice ao p c).ownBlock = some w.heap.size) → K (a.put o.dst (.slice ao p c)) w') :
    mpRun Tryd.prog ops Qp o K a w := by
  subst hp
  have hb := h63.out
  have hw : Region.wanted o (yielded ops a.tmps) = true := by simp [Region.wanted, hgd]
  unfold mpRun
  rw [if_pos hw]
  obtain ⟨ao, c, w', hr', h2, h3, h4⟩ := run_append_gen E o.type base v n xs w hown vb m news hr h1 (by unfold maxLen; omega) (Nat.le_trans (Nat.mul_le_mul hb hby) (by decide)) hbase
  unfold execOp
  simp only [ho, resolve, invoke, builtin, Sem.run_bind, Sem.run_pure, Result.andThen_ok, List.map_toArray, List.map_cons, List.map_nil, hs, hx, hr', mpUpon]
  exact h ao c w' h2 (below_grown_own hown h3 hbase) h3 h4

theorem declLoop_err {L : List Tk} {q : Nat} {s : PS} {vs : List Vrb} {ps : List Prc} (h : s.e ≠ 0) : declLoop L q s vs ps = ((vs, ps), s) := by
  cases q with
  | zero => rfl
  | succ q => exact declLoop_stop rfl (.inl h)
/-- The whole, where the imports are read and where they failed. -/
structure ModG (L : List Tk) (nm : List UInt8) (q : Nat) (G1 : List Imp × PS) (R : Mdl × PS) : Prop where
  r : R = (⟨nm, q, G1.1, (declLoop L (L.length + 1) G1.2 [] []).1.1, (declLoop L (L.length + 1) G1.2 [] []).1.2⟩, (declLoop L (L.length + 1) G1.2 [] []).2)
theorem ModG.fell {L : List Tk} {nm : List UInt8} {q : Nat} {G1 : List Imp × PS} {R : Mdl × PS} (h : ModG L nm q G1 R) (he : G1.2.e ≠ 0) : R.2 = G1.2 := by
  rw [h.r, declLoop_err he]

set_option maxHeartbeats 16000000 in
theorem psr_module (w0 w : World) (b : Nat) (L : List Tk) (s : PS) (h : Psr w0 w b L s) :
    Calls Tryd.prog 14 #[.pointer (some ⟨b, 0, none⟩)] w (Ends w0 w b L (moduleT L s).2 (MdlC w (moduleT L s).1)) := by
  have HA := Lib.hid ((StC.of h).alloc (.cells #[.string ⟨#[]⟩, .int .i64 0, .slice none 0 0, .slice none 0 0, .slice none 0 0] 27))
  have hbw := h.blt
  obtain ⟨U, hU⟩ : ∃ U, w.heap.size = U := ⟨_, rfl⟩
  have HU := OwB.mk' (StC.of h) #[.string ⟨#[]⟩, .int .i64 0, .slice none 0 0, .slice none 0 0, .slice none 0 0] 27
  rw [hU] at HU
  replace HU := Lib.hid HU
  have hL := h.ok
  obtain ⟨R, hR⟩ : ∃ q, moduleT L s = q := ⟨_, rfl⟩
  rw [hR]
  unfold moduleT at hR
  simp only at hR
  have P := psr_expect w0 _ b L s kModule HA.out.r (by decide)
  obtain ⟨s1, hq⟩ : ∃ x, wantT L s kModule = x := ⟨_, rfl⟩
  rw [hq] at P hR
  have HR := Lib.hid hR
  have hie : ∀ (q : Nat) (x : PS) (acc : List Imp), x.e ≠ 0 → impLoop L q x acc = (acc, x) := fun q x acc hx => impLoop_stop rfl (isT_err hx _)
  have HE := Lib.hid (And.intro hie hL)
  clear h hq hR hie hL
  go_enter Tryd.func14, Tryd.ntmps14
  go_wp2_with fail
  refine P.mono ?_
  rintro e1 w1 hr
  rcases HA.out.out hr with ⟨h1, hv, X⟩ | ⟨h1, rfl, X⟩
  case inr =>
    have hf : Hid (R.2 = s1) := Lib.hid (by rw [← HR.out, (name_goes HE.out.2 s1).err h1, want_err h1, HE.out.1 _ _ _ h1, declLoop_err h1])
    clear hr P
    go_wp2_with fail
    rw [hf.out]
    exact ⟨rfl, X.out, .inr ⟨h1, rfl⟩⟩
  obtain rfl : e1 = _ := hv
  have HU1 := Lib.hid (HU.out.keep X.out.2)
  have X1 := Lib.hid X.out.1
  clear hr P X HA HU
  have P2 := psr_kind1 w0 w1 b L s1 X1.out.r
  obtain ⟨⟨nm, s2⟩, hq⟩ : ∃ x, nameT L s1 = x := ⟨_, rfl⟩
  have hR := HR.out
  rw [hq] at hR P2
  obtain ⟨q, hqq⟩ : ∃ q, (curT L s1).pos = q := ⟨_, rfl⟩
  rw [hqq] at hR P2
  generalize (curT L s1).kind = kd at *
  replace HR := Lib.hid hR
  unfold tokV at P2
  simp only at P2
  clear hq hR hqq
  go_wp2_with fail
  refine P2.mono ?_
  rintro e2 w2 hr
  rcases X1.out.out hr with ⟨h2, hv, X⟩ | ⟨h2, rfl, X⟩
  case inr =>
    have hf : Hid (R.2 = s2) := Lib.hid (by rw [← HR.out]; try simp only; rw [want_err h2, HE.out.1 _ _ _ h2, declLoop_err h2])
    clear hr P2
    go_wp2_with fail
    rw [hf.out]
    exact ⟨rfl, X.out, .inr ⟨h2, rfl⟩⟩
  obtain rfl : e2 = _ := hv
  have HU2 := Lib.hid ((HU1.out.keep X.out.2).alloc (.cells #[.int .i64 kd, .string (tx nm), .int .i64 (q : Int)] 37))
  have X2 := Lib.hid (X.out.1.alloc (.cells #[.int .i64 kd, .string (tx nm), .int .i64 (q : Int)] 37))
  have HT2 := Lib.hid (OwB.mk' X.out.1 #[.int .i64 kd, .string (tx nm), .int .i64 (q : Int)] 37)
  clear hr P2 X X1 HU1
  go_wp2_with fail
  refine (psr_expect w0 _ b L s2 [59] X2.out.r (by decide)).mono ?_
  obtain ⟨s3, hq⟩ : ∃ x, wantT L s2 [59] = x := ⟨_, rfl⟩
  have hR := HR.out
  try simp only at hR
  rw [hq] at hR ⊢
  obtain ⟨G1, hG1⟩ : ∃ G, impLoop L (L.length + 1) s3 [] = G := ⟨_, rfl⟩
  rw [hG1] at hR
  have HM : Hid (ModG L nm q G1 R) := Lib.hid ⟨hR.symm⟩
  have HG1 := Lib.hid hG1
  clear hq hR hG1 HR
  rintro e3 w3 hr
  rcases X2.out.out hr with ⟨h3, hv, X⟩ | ⟨h3, rfl, X⟩
  case inr =>
    have hf : Hid (R.2 = s3) := Lib.hid (by
      have e : G1 = ([], s3) := by rw [← HG1.out, HE.out.1 _ _ _ h3]
      rw [HM.out.fell (by rw [e]; exact h3), e])
    clear hr
    go_wp2_with fail
    rw [hf.out]
    exact ⟨rfl, X.out, .inr ⟨h3, rfl⟩⟩
  obtain rfl : e3 = _ := hv
  have hz3 := (HU2.out.keep X.out.2).z
  have hb3 := (HU2.out.keep X.out.2).nb
  have HT3 := HT2.out.keep X.out.2
  have d1 := HT3.cell 1 _ rfl
  have d2 := HT3.cell 2 _ rfl
  have H0 : Hid (CdAt w0 w (w3.alloc (.cells #[.string (tx nm), .int .i64 (q : Int), .slice none 0 0, .slice none 0 0, .slice none 0 0] 27)) b L w3.heap.size U ⟨nm, q, [], [], []⟩ (.slice none 0 0) (.slice none 0 0) (.slice none 0 0) 0 0 0 s3) := Lib.hid
    ⟨⟨X.out.1.r.chg ((Chg.refl [] w3).alloc _) (fun x hx => by cases hx), X.out.1.c.alloc _, heap_alloc_new _ _, (heap_alloc_old _ _ (Array.getElem?_eq_some_iff.1 hz3).1).trans hz3, hbw, X.out.1.c.size, by omega, by have := (Array.getElem?_eq_some_iff.1 hz3).1; omega⟩, OwnR.nil _ _ _ _ _ _, OwnR.nil _ _ _ _ _ _, ⟨[], OwnR.nil _ _ _ _ _ _, rfl⟩, rfl, rfl, rfl, fun k h => by simp [Value.ownBlock] at h, fun k h => by simp [Value.ownBlock] at h, fun k h => by simp [Value.ownBlock] at h⟩
  clear hr X X2 HU2 HT2 hz3 hb3 HT3
  go_upto_region 5 with fail
  generalize w3.heap.size = T at *
  generalize w3.alloc (.cells #[.string (tx nm), .int .i64 (q : Int), .slice none 0 0, .slice none 0 0, .slice none 0 0] 27) = W1 at *
  go_loopw [5] (fun _ wr => ∃ (vI : Value) (m q' : Nat) (s4 : PS) (acc : List Imp), Hid (CdAt w0 w wr b L T U ⟨nm, q, acc, [], []⟩ vI (.slice none 0 0) (.slice none 0 0) m 0 0 s4 ∧ impLoop L q' s4 acc = G1 ∧ remT L s4 < q' ∧ m + remT L s4 ≤ 20000))
    (fun _ wr => lenW b wr)
  case atStart =>
    refine ⟨_, 0, L.length + 1, s3, [], Lib.hid ⟨H0.out, HG1.out, rem_lt H0.out.rc.r.lt, ?_⟩⟩
    have := rem_lt (L := L) H0.out.rc.r.lt
    have := HE.out.2.few
    omega
  case round =>
    obtain ⟨vI, m, q', s4, acc, hG⟩ := hrel
    clear H0 HG1 d1 d2
    obtain ⟨q', rfl⟩ : ∃ q2, q' = q2 + 1 := ⟨q' - 1, by have := hG.out.2.2.1; omega⟩
    obtain ⟨⟨aI, cI, rfl⟩, _, _⟩ := hG.out.1.shapes
    have HLEN := Lib.hid hG.out.1.rc.r.len
    go_wp2_with fail
    refine (psr_accept w0 wr b L s4 kImport hG.out.1.rc.r (by decide)).mono ?_
    rintro e4 w4 hr
    obtain ⟨rfl, X4⟩ := hr.out1
    clear hr
    cases hB : isT L s4 kImport with
    | true =>
      rw [takeT, if_pos hB] at X4
      have H5 := Lib.hid (hG.out.1.keep X4.out.1 X4.out.2)
      have hst := impLoop_step hG.out.2.1 hB
      have hrg := rem_go (L := L) hG.out.1.rc.r.e hG.out.1.rc.r.lt
      have P3 := psr_kind1 w0 w4 b L s4.go H5.out.rc.r
      have hng := name_goes HE.out.2 s4.go
      obtain ⟨⟨a1, s5⟩, hq⟩ : ∃ x, nameT L s4.go = x := ⟨_, rfl⟩
      rw [hq] at hst P3 hng
      obtain ⟨p5, hp5⟩ : ∃ q, (curT L s4.go).pos = q := ⟨_, rfl⟩
      rw [hp5] at hst P3
      generalize (curT L s4.go).kind = kd5 at *
      unfold tokV at P3
      simp only at P3 hst hng
      have HST := Lib.hid (And.intro hst (And.intro hrg (And.intro hG.out.2.2 hng)))
      clear hB X4 hG hst hrg hq hp5 hng
      go_wp2_with fail
      refine P3.mono ?_
      rintro e5 w5 hr
      rcases H5.out.out hr with ⟨h5, hv, X⟩ | ⟨h5, rfl, X⟩
      case inr =>
        have hf : Hid (R.2 = s5) := Lib.hid (by
          have e := HST.out.1
          rw [want_err h5, HE.out.1 _ _ _ h5] at e
          rw [HM.out.fell (by rw [← e]; exact h5), ← e])
        clear hr P3
        go_wp2_with fail
        rw [hf.out]
        exact ⟨rfl, X.out, .inr ⟨h5, rfl⟩⟩
      obtain rfl : e5 = _ := hv
      have hc6 : Chg [b] w5 (w5.alloc (.cells #[.int .i64 kd5, .string (tx a1), .int .i64 (p5 : Int)] 37)) := (Chg.refl [b] w5).alloc _
      have H6 := Lib.hid (X.out.1.keep (X.out.1.rc.r.chg ((Chg.refl [] w5).alloc (.cells #[.int .i64 kd5, .string (tx a1), .int .i64 (p5 : Int)] 37)) (fun x hx => by cases hx)) hc6)
      have HT6 : Hid (OwB w (w5.alloc (.cells #[.int .i64 kd5, .string (tx a1), .int .i64 (p5 : Int)] 37)) b w5.heap.size #[.int .i64 kd5, .string (tx a1), .int .i64 (p5 : Int)] 37) := Lib.hid ⟨heap_alloc_new _ _, X.out.1.rc.r.blt, X.out.1.rc.c.size⟩
      clear hr P3 X H5 hc6
      go_wp2_with fail
      refine (psr_expect w0 _ b L s5 [59] H6.out.rc.r (by decide)).mono ?_
      have hwg := want_goes HE.out.2 s5 [59]
      obtain ⟨s6, hq⟩ : ∃ x, wantT L s5 [59] = x := ⟨_, rfl⟩
      have hst := HST.out.1
      rw [hq] at hst hwg ⊢
      have HS6 := Lib.hid (And.intro hst (And.intro hwg HST.out.2))
      clear hst hwg hq HST
      rintro e6 w6 hr
      rcases H6.out.out hr with ⟨h6, hv, X⟩ | ⟨h6, rfl, X⟩
      case inr =>
        have hf : Hid (R.2 = s6) := Lib.hid (by
          have e := HS6.out.1
          rw [HE.out.1 _ _ _ h6] at e
          rw [HM.out.fell (by rw [← e]; exact h6), ← e])
        clear hr
        go_wp2_with fail
        rw [hf.out]
        exact ⟨rfl, X.out, .inr ⟨h6, rfl⟩⟩
      obtain rfl : e6 = _ := hv
      have HT7 := HT6.out.keep X.out.2
      have H7 := Lib.hid X.out.1
      have d1 := HT7.cell 1 _ rfl
      have d2 := HT7.cell 2 _ rfl
      have k2 := H7.out.cell 2 _ rfl
      have FL : Hid (m + 1 ≤ 1000000) := Lib.hid (by have := HS6.out.2.2.2.1.2; omega)
      clear hr X H6 HT6 HT7
      go_wp2_with (at_builtin; refine wpList_append_gen elemImp rfl (.tmp 24) (.tmp 30) rfl w.heap.size _ m (impsV acc) rfl (H7.out.oi.o.alloc _) _ 1 (impV ⟨a1, p5⟩) rfl (Cells.lit _ (impV ⟨a1, p5⟩) 65 (0, 0) 2 1 rfl) (by intro u hu; simp only [impV, List.mem_cons, List.not_mem_nil, or_false] at hu; rcases hu with rfl | rfl <;> rfl) (m + 1) rfl FL (by decide) (Nat.le_trans H7.out.rc.c.size (by simp)) ?_; intro ao7 c7 w7 hown7 hb7 hg7 ho7; have HN := Lib.hid (CdAt.addI ⟨a1, p5⟩ H7.out hown7 hg7 ho7); have k97 := HN.out.1.cell 2 _ rfl; have f97 := HN.out.1.free 2; clear hown7 hb7 hg7 ho7)
      have hlt := HN.out.2.rc.r.lt
      have hl7 : lenW b _ = _ := HN.out.2.rc.r.len
      have hre := remT_e (L := L) HN.out.2.rc.r.e
      refine ⟨⟨_, m + 1, q', s6, _, Lib.hid ⟨HN.out.2, HS6.out.1, ?_, ?_⟩⟩, ?_⟩
      · have := HS6.out.2.1.rem
        have := HS6.out.2.2.1
        have := HS6.out.2.2.2.1.1
        have := HS6.out.2.2.2.2.rem
        omega
      · have := HS6.out.2.1.rem
        have := HS6.out.2.2.1
        have := HS6.out.2.2.2.1.2
        have := HS6.out.2.2.2.2.rem
        omega
      · have h8 := HLEN.out
        have h9 := HS6.out.2.1.i
        have h10 := HS6.out.2.2.2.2.i
        have h11 : s4.go.i = s4.i + 1 := rfl
        omega
    | false =>
      have hst := impLoop_stop hG.out.2.1 hB
      rw [takeT, hB, if_neg (by simp)] at X4
      have H4 := Lib.hid (hG.out.1.keep X4.out.1 X4.out.2)
      have HI9 : Hid (m ≤ 20000) := Lib.hid (by have := hG.out.2.2.2; omega)
      have hR := HM.out.r
      rw [hst] at hR
      simp only at hR
      obtain ⟨G2, hG2⟩ : ∃ G, declLoop L (L.length + 1) s4 [] [] = G := ⟨_, rfl⟩
      rw [hG2] at hR
      have HR := Lib.hid hR
      have HG2 := Lib.hid hG2
      clear hG X4 hst hR hG2 hB HM HLEN
      go_wp2_with fail
      go_loopw [33] (fun _ wr => ∃ (vV vP : Value) (mV mP q' : Nat) (s5 : PS) (vs : List Vrb) (ps : List Prc), Hid (CdAt w0 w wr b L T U ⟨nm, q, acc, vs, ps⟩ (.slice aI m cI) vV vP m mV mP s5 ∧ declLoop L q' s5 vs ps = G2 ∧ remT L s5 < q' ∧ mV + remT L s5 ≤ 20000 ∧ mP + remT L s5 ≤ 20000))
        (fun _ wr => lenW b wr)
      case atStart =>
        have := rem_lt (L := L) H4.out.rc.r.lt
        have := HE.out.2.few
        exact ⟨_, _, 0, 0, L.length + 1, s4, [], [], Lib.hid ⟨H4.out, HG2.out, rem_lt H4.out.rc.r.lt, by omega, by omega⟩⟩
      case round =>
        obtain ⟨vV, vP, mV, mP, q', s5, vs, ps, hG⟩ := hrel
        clear H4 HG2
        obtain ⟨q', rfl⟩ : ∃ q2, q' = q2 + 1 := ⟨q' - 1, by have := hG.out.2.2.1; omega⟩
        obtain ⟨_, ⟨aV, cV, rfl⟩, ⟨aP, cP, rfl⟩⟩ := hG.out.1.shapes
        have HLEN := Lib.hid hG.out.1.rc.r.len
        have f0 := tok_kind (curT L s5)
        have P5 := psr_peek w0 wr b L s5 hG.out.1.rc.r
        unfold tokV at P5
        obtain ⟨kd, hkd⟩ : ∃ k, (curT L s5).kind = k := ⟨_, rfl⟩
        have HKD := Lib.hid hkd
        rw [hkd] at f0 P5
        generalize (curT L s5).text = tt at *
        generalize (curT L s5).pos = pp at *
        clear hkd
        go_wp2_with fail
        refine P5.mono ?_
        rintro e6 w6 hr
        obtain ⟨rfl, X6⟩ := hr.out1
        have H6 := Lib.hid (hG.out.1.keep X6.out.1 X6.out.2)
        have HL6 := Lib.hid (X6.out.1.len.trans HLEN.out.symm)
        clear hr P5 X6
        by_cases hk : kd = 0
        · subst hk
          have hst := declLoop_stop hG.out.2.1 (.inr HKD.out)
          rw [hst] at HR
          have HZ := Lib.hid (H6.out.told (by have := HI9.out; omega) (by have := hG.out.2.2.2.1; omega) (by have := hG.out.2.2.2.2; omega))
          have HON := Lib.hid (mdl_ones ⟨nm, q, acc, vs, ps⟩ (show (Value.slice aI m cI).oneCell' = true from rfl) (show (Value.slice aV mV cV).oneCell' = true from rfl) (show (Value.slice aP mP cP).oneCell' = true from rfl))
          clear hG hst
          go_wp2_with (first | (refine wpList_load_row rfl 27 (.tmp 4) rfl T rfl _ _ _ _ H6.out.rc.sb Tryd.underlying27 rfl (mdl_info _ _ _ _) ?_) | (refine wpList_store_row rfl 27 (.tmp 2) (.tmp 55) rfl U _ rfl rfl _ _ H6.out.rc.z (mdl_info _ _ _ _) rfl HON.out ?_))
          try simp only [Exit.inBlock, Exit.then]
          refine bodyPost_ret (results_cell_row rfl _ _ U _ _ _ _ rfl (setRow_heap _ U _ _ _ _ H6.out.rc.z) Tryd.underlying27 rfl (mdl_info _ _ _ _)) rfl ?_
          rw [HR.out]
          exact ⟨HZ.out.2.1, .inl ⟨H6.out.rc.r.e, HZ.out.1, _, _, _, rfl, HZ.out.2.2⟩⟩
        have hkb : (kd == 0) = false := by simpa using hk
        have HK0 : Hid ((curT L s5).kind ≠ 0) := Lib.hid (by rw [HKD.out]; exact hk)
        go_wp2_with fail
        refine (psr_accept w0 w6 b L s5 kVar H6.out.rc.r (by decide)).mono ?_
        rintro e7 w7 hr
        obtain ⟨rfl, X7⟩ := hr.out1
        clear hr
        have he5 := Lib.hid H6.out.rc.r.e
        have hrg := rem_go (L := L) H6.out.rc.r.e H6.out.rc.r.lt
        cases hB : isT L s5 kVar with
        | true =>
          rw [takeT, if_pos hB] at X7
          have H7 := Lib.hid (H6.out.keep X7.out.1 X7.out.2)
          have hst := declLoop_var hG.out.2.1 he5.out HK0.out hB
          have hgo := var_goes HE.out.2 s5.go
          have P7 := psr_variable w0 w7.drew b L s5.go (H7.out.rc.r.chg ((Chg.refl [] w7).drew) (fun x hx => by cases hx))
          obtain ⟨⟨⟨vn, vl, vi, vq⟩, s8⟩, hq⟩ : ∃ x, varT L s5.go = x := ⟨_, rfl⟩
          rw [hq] at hst hgo P7
          have HST := Lib.hid (And.intro hst (And.intro hrg (And.intro hgo hG.out.2.2)))
          have HD := Lib.hid (H7.out.keep (H7.out.rc.r.chg ((Chg.refl [] w7).drew) (fun x hx => by cases hx)) ((Chg.refl [b] w7).drew))
          have hz7 := H7.out.rc.sb
          have k3 : ∀ w' : World, w'.heap[T]? = w7.heap[T]? → w'.cell? ⟨T, 3, none⟩ = some (.slice aV mV cV) := fun w' h => cellsN (h.trans hz7) 3 _ rfl
          have FL : Hid (mV + 1 ≤ 1000000) := Lib.hid (by have := hG.out.2.2.2.1; omega)
          clear hG X7 H6 hst hgo hq hrg hz7 hB
          go_upto_region 11 with fail
          refine wp_region_mp 7 (fun w1 w2 => w2.heap[T]? = w1.heap[T]?) (fun w => rfl) (fun h k => k.trans h) (fun c w' => Ends w0 w b L R.2 (MdlC w R.1) (.panicked c) w') (fun c w' hc a' ha => ⟨ha, hc⟩) (.still 0 (.still 1 (.still 2 (.one 3 (.one 4 (.one 5 (.still 6 (.one 7 .done)))))))) (by kernel_rfl) (by kernel_rfl) ?_
          iterate 3
            refine wpWk_still rfl ?_ (fun w' hG K hK => ?_) (fun K hK => ?_)
            rotate_left
            · have e0 := k3 w' hG
              unfold mvVal
              go_simp
              try exact hK
            go_simp
            refine hK _ ?_
            clear hK K
          refine wpWk_one rfl (fun K hK => ?_)
          unfold mpRun
          go_simp
          simp only [mpUpon]
          refine P7.mono ?_
          rintro e9 w9 hr
          rcases HD.out.out hr with ⟨h9, hv, X⟩ | ⟨h9, rfl, X⟩
          case inr =>
            have hf : R.2 = s8 := by
              have e := HST.out.1
              rw [declLoop_err h9] at e
              rw [HR.out, ← e]
            exact .inr ⟨_, rfl, X.out, .inr ⟨by rw [hf]; exact h9, by rw [hf]⟩⟩
          obtain rfl : e9 = _ := hv
          have H9 := Lib.hid X.out.1
          have hg9 : w9.heap[T]? = w7.drew.heap[T]? := X.out.2.block T (Array.getElem?_eq_some_iff.1 HD.out.rc.sb).1 (by have := HD.out.rc.bw; have := HD.out.rc.wT; rw [List.mem_singleton]; omega)
          clear hr X
          refine .inl ⟨_, rfl, ?_⟩
          go_simp
          refine hK _ _ (.inr hg9) ?_
          clear hK K hg9
          have hTl := (Array.getElem?_eq_some_iff.1 H9.out.rc.sb).1
          refine wpWk_one rfl (fun K hK => ?_)
          unfold mpRun
          go_simp
          simp only [mpUpon]
          refine hK _ _ (.inr (heap_alloc_old _ _ hTl)) ?_
          clear hK K
          refine wpWk_one rfl (fun K hK => ?_)
          refine mpRun_append_gen elemVar rfl (.tmp 40) (.tmp 43) rfl w.heap.size _ mV (varsV vs) rfl (H9.out.ov.o.alloc _) _ 1 (varV ⟨vn, vl, vi, vq⟩) rfl (Cells.lit _ (varV ⟨vn, vl, vi, vq⟩) 41 (0, 0) 4 1 rfl) (by intro u hu; simp only [varV, List.mem_cons, List.not_mem_nil, or_false] at hu; rcases hu with rfl | rfl | rfl | rfl <;> rfl) (mV + 1) rfl FL (by decide) (Nat.le_trans H9.out.rc.c.size (by simp)) ?_
          intro ao7 c7 w10 hown7 hb7 hg7 ho7
          have HN := Lib.hid (CdAt.addV ⟨vn, vl, vi, vq⟩ H9.out hown7 hg7 ho7)
          have k97 := HN.out.1.cell 3 _ rfl
          have f97 := HN.out.1.free 3
          have hsb : ∀ o, w10.heap[T]? = (w9.alloc o).heap[T]? := fun o => HN.out.1.sb.trans ((heap_alloc_old _ o hTl).trans H9.out.rc.sb).symm
          go_simp
          refine hK _ _ (.inr (hsb _)) ?_
          clear hK K hsb hown7 hb7 hg7 ho7
          refine wpWk_still rfl ?_ (fun w' hG K hK => ?_) (fun K hK => ?_)
          rotate_left
          · unfold mvVal
            go_simp
            try exact hK
          go_simp
          refine hK _ ?_
          clear hK K
          refine wpWk_one rfl (fun K hK => ?_)
          unfold mpRun
          go_simp
          simp only [mpUpon]
          refine hK _ _ (.inl rfl) ?_
          clear hK K
          unfold wpWk
          go_wp2_with fail
          have hlt := HN.out.2.rc.r.lt
          have hl7 : lenW b _ = _ := HN.out.2.rc.r.len
          refine ⟨⟨_, _, mV + 1, mP, q', s8, _, _, Lib.hid ⟨HN.out.2, HST.out.1, ?_, ?_, ?_⟩⟩, ?_⟩
          · have := HST.out.2.1
            have := HST.out.2.2.1.rem
            have := HST.out.2.2.2.1
            try simp only at *
            omega
          · have := HST.out.2.1
            have := HST.out.2.2.1.rem
            have := HST.out.2.2.2.2.1
            try simp only at *
            omega
          · have := HST.out.2.1
            have := HST.out.2.2.1.rem
            have := HST.out.2.2.2.2.2
            try simp only at *
            omega
          · have h8 := HLEN.out
            have h9 := HST.out.2.2.1.i
            have h11 : s5.go.i = s5.i + 1 := rfl
            try simp only at *
            omega
        | false =>
          rw [takeT, hB, if_neg (by simp)] at X7
          have H7 := Lib.hid (H6.out.keep X7.out.1 X7.out.2)
          clear X7 H6
          go_wp2_with fail
          refine (psr_expect w0 w7 b L s5 kProc H7.out.rc.r (by decide)).mono ?_
          rintro e8 w8 hr
          cases hB2 : isT L s5 kProc with
          | false =>
            have hst := declLoop_fail hG.out.2.1 he5.out HK0.out hB hB2
            rw [declLoop_err (fail_e (by decide))] at hst
            have w1' : wantT L s5 kProc = failT L s5 11 := by rw [wantT, hB2, if_neg (by simp)]
            rw [w1'] at hr
            have hf : Hid (R.2 = failT L s5 11) := Lib.hid (by rw [HR.out, ← hst])
            rcases H7.out.out hr with ⟨h0, hv, X⟩ | ⟨h0, rfl, X⟩
            · exact absurd h0 (fail_e (by decide))
            clear hr hst w1'
            go_wp2_with fail
            rw [hf.out]
            exact ⟨rfl, X.out, .inr ⟨h0, rfl⟩⟩
          | true =>
            have w1' : wantT L s5 kProc = s5.go := by rw [wantT, if_pos hB2]
            rw [w1'] at hr
            rcases H7.out.out hr with ⟨h8, hv, X⟩ | ⟨h8, rfl, X⟩
            case inr => exact absurd he5.out h8
            obtain rfl : e8 = _ := hv
            have H8 := Lib.hid X.out.1
            have hst := declLoop_proc hG.out.2.1 he5.out HK0.out hB hB2
            have hgo := proc_goes HE.out.2 s5.go
            have P8 := psr_proc w0 w8.drew b L s5.go (H8.out.rc.r.chg ((Chg.refl [] w8).drew) (fun x hx => by cases hx))
            obtain ⟨⟨pr, s9⟩, hq⟩ : ∃ x, procT L s5.go = x := ⟨_, rfl⟩
            rw [hq] at hst hgo P8
            have HST := Lib.hid (And.intro hst (And.intro hrg (And.intro hgo hG.out.2.2)))
            have HD := Lib.hid (H8.out.keep (H8.out.rc.r.chg ((Chg.refl [] w8).drew) (fun x hx => by cases hx)) ((Chg.refl [b] w8).drew))
            have hz8 := H8.out.rc.sb
            have k4 : ∀ w' : World, w'.heap[T]? = w8.heap[T]? → w'.cell? ⟨T, 4, none⟩ = some (.slice aP mP cP) := fun w' h => cellsN (h.trans hz8) 4 _ rfl
            have FL : Hid (mP + 1 ≤ 1000000) := Lib.hid (by have := hG.out.2.2.2.2; omega)
            clear hr hG X H7 hst hgo hq hrg hz8 hB hB2 w1'
            go_upto_region 13 with fail
            refine wp_region_mp 7 (fun w1 w2 => w2.heap[T]? = w1.heap[T]?) (fun w => rfl) (fun h k => k.trans h) (fun c w' => Ends w0 w b L R.2 (MdlC w R.1) (.panicked c) w') (fun c w' hc a' ha => ⟨ha, hc⟩) (.still 0 (.still 1 (.still 2 (.one 3 (.one 4 (.one 5 (.still 6 (.one 7 .done)))))))) (by kernel_rfl) (by kernel_rfl) ?_
            iterate 3
              refine wpWk_still rfl ?_ (fun w' hG K hK => ?_) (fun K hK => ?_)
              rotate_left
              · have e0 := k4 w' hG
                unfold mvVal
                go_simp
                try exact hK
              go_simp
              refine hK _ ?_
              clear hK K
            refine wpWk_one rfl (fun K hK => ?_)
            unfold mpRun
            go_simp
            simp only [mpUpon]
            refine P8.mono ?_
            rintro e9 w9 hr
            rcases HD.out.out hr with ⟨h9, hv, X⟩ | ⟨h9, rfl, X⟩
            case inr =>
              have hf : R.2 = s9 := by
                have e := HST.out.1
                rw [declLoop_err h9] at e
                rw [HR.out, ← e]
              exact .inr ⟨_, rfl, X.out, .inr ⟨by rw [hf]; exact h9, by rw [hf]⟩⟩
            obtain ⟨qP, qU, qB, rfl, hpv⟩ := hv
            have H9 := Lib.hid X.out.1
            have HPV := Lib.hid (ProcV.chg (Chg.refl [] w9) (fun _ _ h => by cases h) (fun k hk => HD.out.newM hk) _ _ hpv)
            obtain ⟨cs, g1, g2⟩ := H9.out.op
            have hg9 : w9.heap[T]? = w8.drew.heap[T]? := X.out.2.block T (Array.getElem?_eq_some_iff.1 HD.out.rc.sb).1 (by have := HD.out.rc.bw; have := HD.out.rc.wT; rw [List.mem_singleton]; omega)
            clear hr X hpv
            refine .inl ⟨_, rfl, ?_⟩
            go_simp
            refine hK _ _ (.inr hg9) ?_
            clear hK K hg9
            have hTl := (Array.getElem?_eq_some_iff.1 H9.out.rc.sb).1
            refine wpWk_one rfl (fun K hK => ?_)
            unfold mpRun
            go_simp
            simp only [mpUpon]
            refine hK _ _ (.inr (heap_alloc_old _ _ hTl)) ?_
            clear hK K
            refine wpWk_one rfl (fun K hK => ?_)
            refine mpRun_append_gen elemPrc rfl (.tmp 49) (.tmp 52) rfl w.heap.size _ mP cs rfl (g1.o.alloc _) _ 1 (prcV pr qP qU qB) rfl (Cells.lit _ (prcV pr qP qU qB) 70 (0, 0) 8 1 rfl) (by obtain ⟨_, n1, _, n2, _, n3, e, r1, r2, r3⟩ := HPV.out; simp only [prcV, List.cons.injEq, and_true, true_and] at e; obtain ⟨rfl, rfl, rfl⟩ := e; obtain ⟨_, _, rfl⟩ := r1.shape; obtain ⟨_, _, rfl⟩ := r2.shape; obtain ⟨_, _, rfl⟩ := r3.shape; intro u hu; simp only [prcV, List.mem_cons, List.not_mem_nil, or_false] at hu; rcases hu with rfl | rfl | rfl | rfl | rfl | rfl | rfl | rfl <;> rfl) (mP + 1) rfl FL (by decide) (Nat.le_trans H9.out.rc.c.size (by simp)) ?_
            intro ao7 c7 w10 hown7 hb7 hg7 ho7
            have HN := Lib.hid (CdAt.addP pr H9.out g1 g2 HPV.out hown7 hg7 ho7)
            have k97 := HN.out.1.cell 4 _ rfl
            have f97 := HN.out.1.free 4
            have hsb : ∀ o, w10.heap[T]? = (w9.alloc o).heap[T]? := fun o => HN.out.1.sb.trans ((heap_alloc_old _ o hTl).trans H9.out.rc.sb).symm
            go_simp
            refine hK _ _ (.inr (hsb _)) ?_
            clear hK K hsb hown7 hb7 hg7 ho7
            refine wpWk_still rfl ?_ (fun w' hG K hK => ?_) (fun K hK => ?_)
            rotate_left
            · unfold mvVal
              go_simp
              try exact hK
            go_simp
            refine hK _ ?_
            clear hK K
            refine wpWk_one rfl (fun K hK => ?_)
            unfold mpRun
            go_simp
            simp only [mpUpon]
            refine hK _ _ (.inl rfl) ?_
            clear hK K
            unfold wpWk
            go_wp2_with fail
            have hlt := HN.out.2.rc.r.lt
            have hl7 : lenW b _ = _ := HN.out.2.rc.r.len
            refine ⟨⟨_, _, mV, mP + 1, q', s9, _, _, Lib.hid ⟨HN.out.2, HST.out.1, ?_, ?_, ?_⟩⟩, ?_⟩
            · have := HST.out.2.1
              have := HST.out.2.2.1.rem
              have := HST.out.2.2.2.1
              try simp only at *
              omega
            · have := HST.out.2.1
              have := HST.out.2.2.1.rem
              have := HST.out.2.2.2.2.1
              try simp only at *
              omega
            · have := HST.out.2.1
              have := HST.out.2.2.1.rem
              have := HST.out.2.2.2.2.2
              try simp only at *
              omega
            · have h8 := HLEN.out
              have h9 := HST.out.2.2.1.i
              have h11 : s5.go.i = s5.i + 1 := rfl
              try simp only at *
              omega


end Go.Proofs.YtfcfbdemfbkgmaaDoor
