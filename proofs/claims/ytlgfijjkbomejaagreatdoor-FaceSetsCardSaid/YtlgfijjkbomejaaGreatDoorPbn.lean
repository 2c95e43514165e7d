/- The reference's module. Numbers and types by name. -/
import Derived.Test.YtlgfijjkbomejaaGreatDoorPbm
namespace Go.Proofs.YtlgfijjkbomejaaGreatDoor
open Go.RowKit Go.Lib
set_option maxRecDepth 100000

theorem impLoop_step {L : List Tk} {q : Nat} {s : PS} {acc : List Imp} {G : List Imp × PS} (h : impLoop L (q + 1) s acc = G) (hi : isT L s kImport = true) : impLoop L q (wantT L (nameT L s.go).2 [59]) (acc ++ [⟨(nameT L s.go).1, (curT L s.go).pos⟩]) = G := by
  unfold impLoop at h
  rw [if_pos hi] at h
  exact h
theorem impLoop_stop {L : List Tk} {q : Nat} {s : PS} {acc : List Imp} {G : List Imp × PS} (h : impLoop L q s acc = G) (hi : isT L s kImport = false) : G = (acc, s) := by
  cases q with
  | zero => exact h.symm
  | succ q =>
    unfold impLoop at h
    rw [if_neg (by rw [hi]; simp)] at h
    exact h.symm
theorem declLoop_stop {L : List Tk} {q : Nat} {s : PS} {vs : List Vrb} {ps : List Prc} {G : (List Vrb × List Prc) × PS} (h : declLoop L (q + 1) s vs ps = G) (hi : s.e ≠ 0 ∨ (curT L s).kind = 0) : G = ((vs, ps), s) := by
  unfold declLoop at h
  rw [if_pos hi] at h
  exact h.symm
theorem declLoop_var {L : List Tk} {q : Nat} {s : PS} {vs : List Vrb} {ps : List Prc} {G : (List Vrb × List Prc) × PS} (h : declLoop L (q + 1) s vs ps = G) (he : s.e = 0) (hk : (curT L s).kind ≠ 0) (hv : isT L s kVar = true) : declLoop L q (varT L s.go).2 (vs ++ [(varT L s.go).1]) ps = G := by
  unfold declLoop at h
  rw [if_neg (by simp [he, hk]), if_pos hv] at h
  exact h
theorem declLoop_proc {L : List Tk} {q : Nat} {s : PS} {vs : List Vrb} {ps : List Prc} {G : (List Vrb × List Prc) × PS} (h : declLoop L (q + 1) s vs ps = G) (he : s.e = 0) (hk : (curT L s).kind ≠ 0) (hv : isT L s kVar = false) (hp : isT L s kProc = true) : declLoop L q (procT L s.go).2 vs (ps ++ [(procT L s.go).1]) = G := by
  unfold declLoop at h
  rw [if_neg (by simp [he, hk]), if_neg (by rw [hv]; simp), if_pos hp] at h
  exact h
theorem declLoop_fail {L : List Tk} {q : Nat} {s : PS} {vs : List Vrb} {ps : List Prc} {G : (List Vrb × List Prc) × PS} (h : declLoop L (q + 1) s vs ps = G) (he : s.e = 0) (hk : (curT L s).kind ≠ 0) (hv : isT L s kVar = false) (hp : isT L s kProc = false) : declLoop L q (failT L s 11) vs ps = G := by
  unfold declLoop at h
  rw [if_neg (by simp [he, hk]), if_neg (by rw [hv]; simp), if_neg (by rw [hp]; simp)] at h
  exact h
theorem impLoop_goes {L : List Tk} (hL : TokL L) : ∀ (q : Nat) (s : PS) (acc : List Imp), Goes L s (impLoop L q s acc).2
  | 0, s, acc => Goes.refl L s
  | q + 1, s, acc => by
    unfold impLoop
    by_cases hi : isT L s kImport = true
    · rw [if_pos hi]
      have h1 := take_goes hL s kImport
      rw [takeT, if_pos hi] at h1
      exact h1.trans ((name_goes hL _).trans ((want_goes hL _ _).trans (impLoop_goes hL q _ _)))
    · rw [if_neg hi]
      exact Goes.refl L s

set_option maxHeartbeats 8000000 in
theorem rdr_module (w0 w : World) (b n : Nat) (vl : Value) (L : List Tk) (s : PS) (h : Rdr w0 w b n vl L s) (hd : Dok s) :
    Calls Tryz.prog 28 #[.pointer (some ⟨b, 0, none⟩)] w (MdTold w0 w b n vl L (moduleT L s)) := by
  obtain ⟨R, hR⟩ : ∃ R, moduleT L s = R := ⟨_, rfl⟩
  rw [hR]
  unfold moduleT at hR
  simp only at hR
  have HR := Lib.hid hR
  have hbw := h.blt
  have hc0 : Chg [] w (w.alloc (.cells #[.string ⟨#[]⟩, .int .i64 0, .slice none 0 0, .slice none 0 0, .slice none 0 0] 26)) := (Chg.refl [] w).alloc _
  have H0 := Lib.hid (And.intro (h.chg hc0 (fun x hx => by cases hx) (h.r.chg hc0 (by simp)) h.lt h.deep) (And.intro (hc0.mono (G := [b]) (fun x hx => by cases hx)) (heap_alloc_new w (.cells #[.string ⟨#[]⟩, .int .i64 0, .slice none 0 0, .slice none 0 0, .slice none 0 0] 26))))
  have HL := Lib.hid (And.intro h.ok hd)
  clear hR h hc0 hd
  go_enter Tryz.func28, Tryz.ntmps28
  go_wp2_with fail
  refine (rdr_want w0 _ b n _ L s kModule H0.out.1).mono ?_
  rintro e0 w0' hr
  obtain ⟨rfl, X0⟩ := hr.out1
  clear hr
  obtain ⟨s0, hs0⟩ : ∃ x, wantT L s kModule = x := ⟨_, rfl⟩
  rw [hs0] at X0 HR
  have HD0 : Hid (Dok s0) := Lib.hid (by rw [← hs0]; exact (want_goes HL.out.1 s kModule).dok HL.out.2)
  clear hs0
  go_wp2_with fail
  refine (rdr_here w0 _ b n _ L s0 X0.out.1).mono ?_
  rintro e1 w1 hr
  obtain ⟨rfl, X1⟩ := hr.out1
  clear hr
  go_wp2_with fail
  refine (rdr_name w0 _ b n _ L s0 X1.out.1).mono ?_
  rintro e2 w2 hr
  obtain ⟨rfl, X2⟩ := hr.out1
  clear hr
  obtain ⟨q, hq⟩ : ∃ q, (curT L s0).pos = q := ⟨_, rfl⟩
  obtain ⟨nm, hnm⟩ : ∃ x, (nameT L s0).1 = x := ⟨_, rfl⟩
  obtain ⟨s1, hs1⟩ : ∃ x, (nameT L s0).2 = x := ⟨_, rfl⟩
  rw [hq, hnm, hs1] at HR
  have HD1 : Hid (Dok s1) := Lib.hid (by rw [← hs1]; exact (name_goes HL.out.1 s0).dok HD0.out)
  have h1 : MdAt w0 w (w2.alloc (.cells #[.string (tx nm), .int .i64 (q : Int), .slice none 0 0, .slice none 0 0, .slice none 0 0] 26)) b n vl L w2.heap.size w.heap.size ⟨nm, q, [], [], []⟩ (.slice none 0 0) (.slice none 0 0) (.slice none 0 0) 0 0 0 s1 := by
    have c12 := (X0.out.2.trans X1.out.2).trans X2.out.2
    have hs2 := c12.size
    simp only [World.size_alloc] at hs2
    have hca : Chg [] w2 (w2.alloc (.cells #[.string (tx nm), .int .i64 (q : Int), .slice none 0 0, .slice none 0 0, .slice none 0 0] 26)) := (Chg.refl [] w2).alloc _
    have hr2 : Rdr w0 w2 b n vl L s1 := by rw [← hs1]; exact X2.out.1
    have hz := (c12.block w.heap.size (by simp) (by simp only [List.mem_singleton]; omega)).trans H0.out.2.2
    exact ⟨⟨hr2.chg hca (fun x hx => by cases hx) (hr2.r.chg hca (by simp)) hr2.lt hr2.deep, (H0.out.2.1.trans c12).trans' hca (fun x hx => by cases hx), heap_alloc_new w2 _, (hca.block w.heap.size (by omega) (by simp)).trans hz, hbw, by omega, Nat.le_refl _, by omega⟩, OwnR.nil _ _ _ _ _ _, OwnR.nil _ _ _ _ _ _, ⟨[], OwnR.nil _ _ _ _ _ _, rfl⟩, rfl, rfl, rfl, (fun k hk => by cases hk), (fun k hk => by cases hk), (fun k hk => by cases hk)⟩
  have H1 := Lib.hid h1
  clear h1 X0 X1 X2 H0 HD0
  try rw [hq]
  try rw [hnm]
  clear hq hnm hs1
  go_upto_region 3 with fail
  generalize w2.alloc (.cells #[.string (tx nm), .int .i64 (q : Int), .slice none 0 0, .slice none 0 0, .slice none 0 0] 26) = W at *
  generalize w2.heap.size = T at *
  have HBW := Lib.hid hbw
  clear hbw
  generalize w.heap.size = U at H1 ⊢
  go_wp2_with fail
  refine (rdr_want w0 _ b n _ L s1 [59] H1.out.rc.r).mono ?_
  rintro e3 w3 hr
  obtain ⟨rfl, X3⟩ := hr.out1
  clear hr
  have H3 := Lib.hid (H1.out.keep X3.out.1 X3.out.2)
  have HD3 := Lib.hid ((want_goes HL.out.1 s1 [59]).dok HD1.out)
  clear H1 X3 HD1
  generalize wantT L s1 [59] = s2 at *
  obtain ⟨G1, hG1⟩ : ∃ G, impLoop L (L.length + 1) s2 [] = G := ⟨_, rfl⟩
  simp only [hG1] at HR
  have HD5 : Hid (Dok G1.2) := Lib.hid (by rw [← hG1]; exact (impLoop_goes HL.out.1 _ s2 []).dok HD3.out)
  have hA0 : Hid (MdAt w0 w w3 b n vl L T U ⟨nm, q, [], [], []⟩ (.slice none 0 0) (.slice none 0 0) (.slice none 0 0) 0 0 0 s2 ∧ impLoop L (L.length + 1) s2 [] = G1 ∧ remT L s2 < L.length + 1 ∧ 0 + remT L s2 ≤ 20000) := Lib.hid ⟨H3.out, hG1, rem_lt H3.out.rc.r.lt, by have := rem_lt (L := L) H3.out.rc.r.lt; have := HL.out.1.few; omega⟩
  clear hG1 H3 HD3
  go_wp2_with fail
  go_loopw [13] (fun _ wr => ∃ (vI : Value) (m q' : Nat) (s3 : PS) (acc : List Imp), Hid (MdAt w0 w wr b n vl L T U ⟨nm, q, acc, [], []⟩ vI (.slice none 0 0) (.slice none 0 0) m 0 0 s3 ∧ impLoop L q' s3 acc = G1 ∧ remT L s3 < q' ∧ m + remT L s3 ≤ 20000))
    (fun _ wr => remW L b wr)
  case atStart => exact ⟨_, 0, _, s2, [], hA0⟩
  case round =>
    obtain ⟨vI, m, q', s3, acc, hG⟩ := hrel
    clear hA0
    obtain ⟨q', rfl⟩ : ∃ q2, q' = q2 + 1 := ⟨q' - 1, by have := hG.out.2.2.1; omega⟩
    go_wp2_with fail
    refine (rdr_take w0 _ b n _ L s3 kImport hG.out.1.rc.r).mono ?_
    rintro e4 w4 hr
    obtain ⟨rfl, X4⟩ := hr.out1
    clear hr
    cases hB : isT L s3 kImport with
    | true =>
      rw [takeT, if_pos hB] at X4
      have H4 := Lib.hid (hG.out.1.keep X4.out.1 X4.out.2)
      have HST := Lib.hid (impLoop_step hG.out.2.1 hB)
      have hrm : remT L (wantT L (nameT L s3.go).2 [59]) < remT L s3 := by
        have h1 := isT_e hB
        have h2 := rem_go (L := L) h1.1 hG.out.1.rc.r.lt
        have h3 := (name_goes HL.out.1 s3.go).rem
        have h4 := (want_goes HL.out.1 (nameT L s3.go).2 [59]).rem
        omega
      have HRM := Lib.hid hrm
      have hm : m ≤ 20000 := by have := hG.out.2.2.2; omega
      have FL : Hid (m + 1 ≤ 1000000) := Lib.hid (by omega)
      clear hrm
      have HD1 : Hid (MdAt w0 w w4.drew b n vl L T U ⟨nm, q, acc, [], []⟩ vI (.slice none 0 0) (.slice none 0 0) m 0 0 s3.go) := Lib.hid (H4.out.keep (H4.out.rc.r.drewN 1) ((Chg.refl [b] w4).drewN 1))
      go_upto_region 5 with fail
      have k9 : w4.cell? ⟨T, 2, none⟩ = some vI := H4.out.rc.cell 2 _ rfl
      have k9d : w4.drew.cell? ⟨T, 2, none⟩ = some vI := HD1.out.rc.cell 2 _ rfl
      go_region_law (first | (refine step_append_gen elemImp rfl (.tmp 16) (.tmp 22) rfl w.heap.size vI m (impsV acc) (by simp [Act.eval]) HO5.out _ 1 [.string (tx (nameT L s3.go).1), .int .i64 ((curT L s3.go).pos : Int)] (by simp [Act.eval]) HC5.out (by simp [Value.oneCell']) (m + 1) rfl FL (by decide) HB5.out ?_; intro ao7 c7 w7 hown7 hb7 hg7 ho7; have HN := Lib.hid (MdAt.addI ⟨(nameT L s3.go).1, (curT L s3.go).pos⟩ H6.out hown7 hg7 ho7); have k97 := HN.out.1.cell 2 _ rfl; have f97 := HN.out.1.free 2; clear hown7 hb7 hg7 ho7) | (go_simp; go_at_call 66; refine (rdr_here w0 _ b n _ L s3.go HD1.out.rc.r).mono ?_; rintro e w5 hr; obtain ⟨rfl, X5⟩ := hr.out1; clear hr; have H5 := Lib.hid (HD1.out.keep X5.out.1 X5.out.2); have k95 : w5.cell? ⟨T, 2, none⟩ = some vI := H5.out.rc.cell 2 _ rfl) | (go_simp; go_at_call 67; refine (rdr_name w0 _ b n _ L s3.go H5.out.rc.r).mono ?_; rintro e w6 hr; obtain ⟨rfl, X6⟩ := hr.out1; clear hr; have H6 := Lib.hid (H5.out.keep X6.out.1 X6.out.2); have k96 : w6.cell? ⟨T, 2, none⟩ = some vI := H6.out.rc.cell 2 _ rfl; have k96b : (w6.alloc (.cells #[.string (tx (nameT L s3.go).1), .int .i64 ((curT L s3.go).pos : Int)] 122)).cell? ⟨T, 2, none⟩ = some vI := ((Chg.refl [] w6).alloc (.cells #[.string (tx (nameT L s3.go).1), .int .i64 ((curT L s3.go).pos : Int)] 122)).cell k96 (by simp); have HO5 : Hid ((w6.alloc (.cells #[.string (tx (nameT L s3.go).1), .int .i64 ((curT L s3.go).pos : Int)] 122)).ownsRow w.heap.size 122 2 vI m (impsV acc)) := Lib.hid (H6.out.oi.o.alloc _); have HC5 := Lib.hid (Cells.lit w6 [.string (tx (nameT L s3.go).1), .int .i64 ((curT L s3.go).pos : Int)] 122 (0, 0) 2 1 rfl); have HB5 : Hid (w.heap.size ≤ (w6.alloc (.cells #[.string (tx (nameT L s3.go).1), .int .i64 ((curT L s3.go).pos : Int)] 122)).heap.size) := Lib.hid (Nat.le_trans H6.out.rc.c.size (by simp))))
      all_goals
        go_wp2_with fail
        refine (rdr_want w0 _ b n _ L _ [59] HN.out.2.rc.r).mono ?_
        rintro e11 w11 hr
        obtain ⟨rfl, X11⟩ := hr.out1
        clear hr
        have HT := Lib.hid (HN.out.2.keep X11.out.1 X11.out.2)
        have hms : remW L b w11 < remW L b wr := by
          rw [HT.out.rc.r.rem, hG.out.1.rc.r.rem]
          exact HRM.out
        have HMS := Lib.hid hms
        clear hms
        go_wp2_with fail
        exact ⟨⟨_, m + 1, q', _, _, Lib.hid ⟨HT.out, HST.out, by have := HRM.out; have := hG.out.2.2.1; omega, by have := HRM.out; have := hG.out.2.2.2; omega⟩⟩, HMS.out⟩
    | false =>
      have hst := impLoop_stop hG.out.2.1 hB
      rw [takeT, hB, if_neg (by simp)] at X4
      have H4 := Lib.hid (hG.out.1.keep X4.out.1 X4.out.2)
      have HI9 : Hid (m ≤ 20000) := Lib.hid (by have := hG.out.2.2.2; omega)
      subst hst
      try simp only at HR
      try simp only at HD5
      obtain ⟨G2, hG2⟩ : ∃ G, declLoop L (L.length + 1) s3 [] [] = G := ⟨_, rfl⟩
      simp only [hG2] at HR
      have hB0 : Hid (MdAt w0 w w4 b n vl L T U ⟨nm, q, acc, [], []⟩ vI (.slice none 0 0) (.slice none 0 0) m 0 0 s3 ∧ declLoop L (L.length + 1) s3 [] [] = G2 ∧ remT L s3 < L.length + 1 ∧ 0 + remT L s3 ≤ 20000 ∧ 0 + remT L s3 ≤ 20000 ∧ Dok s3) := Lib.hid ⟨H4.out, hG2, rem_lt H4.out.rc.r.lt, by have := rem_lt (L := L) H4.out.rc.r.lt; have := HL.out.1.few; omega, by have := rem_lt (L := L) H4.out.rc.r.lt; have := HL.out.1.few; omega, HD5.out⟩
      clear hG X4 H4 hG2 HD5
      go_wp2_with fail
      go_loopw [27] (fun _ wr => ∃ (vV vP : Value) (mV mP q' : Nat) (s4 : PS) (vs : List Vrb) (ps : List Prc), Hid (MdAt w0 w wr b n vl L T U ⟨nm, q, acc, vs, ps⟩ vI vV vP m mV mP s4 ∧ declLoop L q' s4 vs ps = G2 ∧ remT L s4 < q' ∧ mV + remT L s4 ≤ 20000 ∧ mP + remT L s4 ≤ 20000 ∧ Dok s4))
        (fun _ wr => remW L b wr)
      case atStart => exact ⟨_, _, 0, 0, _, s3, [], [], hB0⟩
      case round =>
        obtain ⟨vV, vP, mV, mP, q2, s4, vs, ps, hH⟩ := hrel
        clear hB0
        obtain ⟨q2, rfl⟩ : ∃ q3, q2 = q3 + 1 := ⟨q2 - 1, by have := hH.out.2.2.1; omega⟩
        have r3 := hH.out.1.rc.r.r.c3
        by_cases he : s4.e = 0
        case neg =>
          have he2 : (s4.e == 0) = false := by simpa using he
          go_upto_region 7 with fail
          go_quiet (fail)
          have HZ := Lib.hid (hH.out.1.keep (hH.out.1.rc.r.drewN nq) ((Chg.refl [b] wr).drewN nq))
          have hst := declLoop_stop hH.out.2.1 (.inl he)
          have HB9 : Hid (m ≤ 20000 ∧ mV ≤ 20000 ∧ mP ≤ 20000) := Lib.hid ⟨HI9.out, by have := hH.out.2.2.2.1; omega, by have := hH.out.2.2.2.2.1; omega⟩
          obtain ⟨cz, g1z, _⟩ := HZ.out.op
          have HON := Lib.hid (mdl_ones ⟨nm, q, acc, vs, ps⟩ HZ.out.oi.one HZ.out.ov.one g1z.one)
          clear g1z
          subst hst
          generalize wr.drewN nq = w5 at *
          go_wp2_with (first | (refine wpList_load_row rfl 26 (.tmp 3) rfl T rfl _ _ _ _ HZ.out.rc.sb Tryz.underlying26 rfl (mdl_info _ _ _ _) ?_) | (refine wpList_store_row rfl 26 (.tmp 2) (.tmp 66) rfl U _ rfl rfl _ _ HZ.out.rc.z (mdl_info _ _ _ _) rfl HON.out ?_))
          try simp only [Exit.inBlock, Exit.then]
          refine bodyPost_ret (results_cell_row rfl _ _ U _ _ _ _ rfl (setRow_heap _ U _ _ _ _ HZ.out.rc.z) Tryz.underlying26 rfl (mdl_info _ _ _ _)) rfl ?_
          have hR := HR.out
          rw [← hR]
          exact HZ.out.told (by have := HB9.out.1; omega) (by have := HB9.out.2.1; omega) (by have := HB9.out.2.2; omega)
        case pos =>
          rw [he] at r3
          obtain ⟨a, c, rfl, hin, d0, d1, d2⟩ := hH.out.1.rc.r.cur (Grow.refl _)
          have r0 := hH.out.1.rc.r.r.c0
          have r1 := hH.out.1.rc.r.r.c1
          obtain ⟨kd, hkd⟩ : ∃ k, (curT L s4).kind = k := ⟨_, rfl⟩
          rw [hkd] at d0
          by_cases hk : kd = 0
          case pos =>
            subst hk
            go_upto_region 7 with fail
            go_quiet (fail)
            clear r0 r1 r3 d0 d1 d2 hin
            have HZ := Lib.hid (hH.out.1.keep (hH.out.1.rc.r.drewN nq) ((Chg.refl [b] wr).drewN nq))
            have hst := declLoop_stop hH.out.2.1 (.inr hkd)
            have HB9 : Hid (m ≤ 20000 ∧ mV ≤ 20000 ∧ mP ≤ 20000) := Lib.hid ⟨HI9.out, by have := hH.out.2.2.2.1; omega, by have := hH.out.2.2.2.2.1; omega⟩
            obtain ⟨cz, g1z, _⟩ := HZ.out.op
            have HON := Lib.hid (mdl_ones ⟨nm, q, acc, vs, ps⟩ HZ.out.oi.one HZ.out.ov.one g1z.one)
            clear g1z
            subst hst
            generalize wr.drewN nq = w5 at *
            go_wp2_with (first | (refine wpList_load_row rfl 26 (.tmp 3) rfl T rfl _ _ _ _ HZ.out.rc.sb Tryz.underlying26 rfl (mdl_info _ _ _ _) ?_) | (refine wpList_store_row rfl 26 (.tmp 2) (.tmp 66) rfl U _ rfl rfl _ _ HZ.out.rc.z (mdl_info _ _ _ _) rfl HON.out ?_))
            try simp only [Exit.inBlock, Exit.then]
            refine bodyPost_ret (results_cell_row rfl _ _ U _ _ _ _ rfl (setRow_heap _ U _ _ _ _ HZ.out.rc.z) Tryz.underlying26 rfl (mdl_info _ _ _ _)) rfl ?_
            have hR := HR.out
            rw [← hR]
            exact HZ.out.told (by have := HB9.out.1; omega) (by have := HB9.out.2.1; omega) (by have := HB9.out.2.2; omega)
          case neg =>
            have hk2 : (kd == 0) = false := by simpa using hk
            have HE := Lib.hid he
            have HK : Hid ((curT L s4).kind ≠ 0) := Lib.hid (by rw [hkd]; exact hk)
            go_upto_region 7 with fail
            go_quiet (fail)
            have H5 := Lib.hid (hH.out.1.keep (hH.out.1.rc.r.drewN nq) ((Chg.refl [b] wr).drewN nq))
            clear r0 r1 r3 d0 d1 d2 hin he hkd
            generalize wr.drewN nq = w5 at *
            go_wp2_with fail
            refine (rdr_take w0 _ b n _ L s4 kVar H5.out.rc.r).mono ?_
            rintro e6 w6 hr
            obtain ⟨rfl, X6⟩ := hr.out1
            clear hr
            cases hV : isT L s4 kVar with
            | true =>
              rw [takeT, if_pos hV] at X6
              have H6 := Lib.hid (H5.out.keep X6.out.1 X6.out.2)
              have HST := Lib.hid (declLoop_var hH.out.2.1 HE.out HK.out hV)
              have hrm : remT L (varT L s4.go).2 < remT L s4 := by
                have h2 := rem_go (L := L) HE.out hH.out.1.rc.r.lt
                have h3 := (var_goes HL.out.1 s4.go).rem
                omega
              have hgo := take_goes HL.out.1 s4 kVar
              rw [takeT, if_pos hV] at hgo
              have HDK : Hid (Dok (varT L s4.go).2) := Lib.hid ((hgo.trans (var_goes HL.out.1 s4.go)).dok hH.out.2.2.2.2.2)
              have HRM := Lib.hid hrm
              have hm : mV ≤ 20000 := by have := hH.out.2.2.2.1; omega
              have FL : Hid (mV + 1 ≤ 1000000) := Lib.hid (by omega)
              clear hrm hgo
              have HD1 : Hid (MdAt w0 w w6.drew b n (.slice (some a) n c) L T U ⟨nm, q, acc, vs, ps⟩ vI vV vP m mV mP s4.go) := Lib.hid (H6.out.keep (H6.out.rc.r.drewN 1) ((Chg.refl [b] w6).drewN 1))
              go_upto_region 9 with fail
              have k9 : w6.cell? ⟨T, 3, none⟩ = some vV := H6.out.rc.cell 3 _ rfl
              have k9d : w6.drew.cell? ⟨T, 3, none⟩ = some vV := HD1.out.rc.cell 3 _ rfl
              go_region_law (first | (refine step_append_gen elemVar rfl (.tmp 49) (.tmp 52) rfl w.heap.size vV mV (varsV vs) (by simp [Act.eval]) HO7.out _ 1 (varV (varT L s4.go).1) (by simp [Act.eval]) HC7.out (by intro u hu; simp only [varV, List.mem_cons, List.not_mem_nil, or_false] at hu; rcases hu with rfl | rfl | rfl | rfl <;> rfl) (mV + 1) rfl FL (by decide) HB7.out ?_; intro ao7 c7 w8 hown7 hb7 hg7 ho7; have HN := Lib.hid (MdAt.addV (varT L s4.go).1 H7.out hown7 hg7 ho7); have k97 := HN.out.1.cell 3 _ rfl; have f97 := HN.out.1.free 3; clear hown7 hb7 hg7 ho7) | (go_simp; go_at_call 69; refine (rdr_variable w0 _ b n _ L s4.go HD1.out.rc.r).mono ?_; rintro e w7 ⟨rfl, r7, cc7⟩; have H7 := Lib.hid (HD1.out.keep r7 cc7); clear r7 cc7; simp only [varV]; have k95 : w7.cell? ⟨T, 3, none⟩ = some vV := H7.out.rc.cell 3 _ rfl; have k95b : (w7.alloc (.cells #[.string (tx (varT L s4.go).1.name), .string (tx (varT L s4.go).1.label), .int .i64 (varT L s4.go).1.init, .int .i64 ((varT L s4.go).1.pos : Int)] 76)).cell? ⟨T, 3, none⟩ = some vV := ((Chg.refl [] w7).alloc (.cells #[.string (tx (varT L s4.go).1.name), .string (tx (varT L s4.go).1.label), .int .i64 (varT L s4.go).1.init, .int .i64 ((varT L s4.go).1.pos : Int)] 76)).cell k95 (by simp); have HO7 : Hid ((w7.alloc (.cells #[.string (tx (varT L s4.go).1.name), .string (tx (varT L s4.go).1.label), .int .i64 (varT L s4.go).1.init, .int .i64 ((varT L s4.go).1.pos : Int)] 76)).ownsRow w.heap.size 76 4 vV mV (varsV vs)) := Lib.hid (H7.out.ov.o.alloc _); have HC7 := Lib.hid (Cells.lit w7 (varV (varT L s4.go).1) 76 (0, 0) 4 1 rfl); have HB7 : Hid (w.heap.size ≤ (w7.alloc (.cells #[.string (tx (varT L s4.go).1.name), .string (tx (varT L s4.go).1.label), .int .i64 (varT L s4.go).1.init, .int .i64 ((varT L s4.go).1.pos : Int)] 76)).heap.size) := Lib.hid (Nat.le_trans H7.out.rc.c.size (by simp))))
              all_goals
                have hms : remW L b (w8.setCell ⟨T, 3, none⟩ (.slice ao7 (mV + 1) c7)) < remW L b wr := by
                  rw [HN.out.2.rc.r.rem, hH.out.1.rc.r.rem]
                  exact HRM.out
                have HMS := Lib.hid hms
                clear hms
                go_wp2_with fail
                exact ⟨⟨_, _, mV + 1, mP, q2, _, _, _, Lib.hid ⟨HN.out.2, HST.out, by have := HRM.out; have := hH.out.2.2.1; omega, by have := HRM.out; have := hH.out.2.2.2.1; omega, by have := HRM.out; have := hH.out.2.2.2.2.1; omega, HDK.out⟩⟩, HMS.out⟩
            | false =>
              rw [takeT, hV, if_neg (by simp)] at X6
              have H6 := Lib.hid (H5.out.keep X6.out.1 X6.out.2)
              go_wp2_with fail
              refine (rdr_take w0 _ b n _ L s4 kProc H6.out.rc.r).mono ?_
              rintro e7 w7 hr
              obtain ⟨rfl, X7⟩ := hr.out1
              clear hr
              cases hP : isT L s4 kProc with
              | true =>
                rw [takeT, if_pos hP] at X7
                have H7 := Lib.hid (H6.out.keep X7.out.1 X7.out.2)
                have HST := Lib.hid (declLoop_proc hH.out.2.1 HE.out HK.out hV hP)
                have hrm : remT L (procT L s4.go).2 < remT L s4 := by
                  have h2 := rem_go (L := L) HE.out hH.out.1.rc.r.lt
                  have h3 := (proc_goes HL.out.1 s4.go).rem
                  omega
                have hgo := take_goes HL.out.1 s4 kProc
                rw [takeT, if_pos hP] at hgo
                have HDG : Hid (Dok s4.go) := Lib.hid (hgo.dok hH.out.2.2.2.2.2)
                have HDK : Hid (Dok (procT L s4.go).2) := Lib.hid ((hgo.trans (proc_goes HL.out.1 s4.go)).dok hH.out.2.2.2.2.2)
                have HRM := Lib.hid hrm
                have hm : mP ≤ 20000 := by have := hH.out.2.2.2.2.1; omega
                have FL : Hid (mP + 1 ≤ 1000000) := Lib.hid (by omega)
                clear hrm hgo
                have HD1 : Hid (MdAt w0 w w7.drew b n (.slice (some a) n c) L T U ⟨nm, q, acc, vs, ps⟩ vI vV vP m mV mP s4.go) := Lib.hid (H7.out.keep (H7.out.rc.r.drewN 1) ((Chg.refl [b] w7).drewN 1))
                go_upto_region 11 with fail
                have k9 : w7.cell? ⟨T, 4, none⟩ = some vP := H7.out.rc.cell 4 _ rfl
                have k9d : w7.drew.cell? ⟨T, 4, none⟩ = some vP := HD1.out.rc.cell 4 _ rfl
                go_region_law (first | (refine step_append_gen elemPrc rfl (.tmp 58) (.tmp 61) rfl w.heap.size vP mP cs8 (by simp [Act.eval]) HO8.out _ 1 (prcV (procT L s4.go).1 (.slice aA nA cA) (.slice aB nB cB) (.slice aC nC cC)) (by simp [Act.eval]) HC8.out (by intro u hu; simp only [prcV, List.mem_cons, List.not_mem_nil, or_false] at hu; rcases hu with rfl | rfl | rfl | rfl | rfl | rfl | rfl | rfl <;> rfl) (mP + 1) rfl FL (by decide) HB8.out ?_; intro ao7 c7 w9 hown7 hb7 hg7 ho7; have HN := Lib.hid (MdAt.addP (procT L s4.go).1 H8.out G8.out.1 G8.out.2 HPV.out hown7 hg7 ho7); have k97 := HN.out.1.cell 4 _ rfl; have f97 := HN.out.1.free 4; clear hown7 hb7 hg7 ho7) | (go_simp; go_at_call 70; refine (rdr_proc w0 _ b n _ L s4.go HD1.out.rc.r HDG.out).mono ?_; rintro e w8 ⟨cn, rfl, hpv, r8, cc8⟩; have H8 := Lib.hid (HD1.out.keep r8 cc8); have hpn := ProcV.chg (Chg.refl [] w8) (fun _ _ h => by cases h) (fun k hk => HD1.out.newM hk) _ _ hpv; obtain ⟨vA, nA, vB, nB, vC, nC, rfl, hA, hB, hC⟩ := hpv; obtain ⟨aA, cA, rfl⟩ := hA.shape; obtain ⟨aB, cB, rfl⟩ := hB.shape; obtain ⟨aC, cC, rfl⟩ := hC.shape; have HPV := Lib.hid hpn; clear hA hB hC r8 cc8 hpn; simp only [prcV]; obtain ⟨cs8, g18, g28⟩ := H8.out.op; have G8 := Lib.hid (And.intro g18 g28); clear g18 g28; have k95 : w8.cell? ⟨T, 4, none⟩ = some vP := H8.out.rc.cell 4 _ rfl; have k95b : (w8.alloc (.cells #[.string (tx (procT L s4.go).1.name), .slice aA nA cA, .bool (procT L s4.go).1.has, .string (tx (procT L s4.go).1.result), .string (tx (procT L s4.go).1.pc), .slice aB nB cB, .slice aC nC cC, .int .i64 ((procT L s4.go).1.pos : Int)] 66)).cell? ⟨T, 4, none⟩ = some vP := ((Chg.refl [] w8).alloc (.cells #[.string (tx (procT L s4.go).1.name), .slice aA nA cA, .bool (procT L s4.go).1.has, .string (tx (procT L s4.go).1.result), .string (tx (procT L s4.go).1.pc), .slice aB nB cB, .slice aC nC cC, .int .i64 ((procT L s4.go).1.pos : Int)] 66)).cell k95 (by simp); have HO8 : Hid ((w8.alloc (.cells #[.string (tx (procT L s4.go).1.name), .slice aA nA cA, .bool (procT L s4.go).1.has, .string (tx (procT L s4.go).1.result), .string (tx (procT L s4.go).1.pc), .slice aB nB cB, .slice aC nC cC, .int .i64 ((procT L s4.go).1.pos : Int)] 66)).ownsRow w.heap.size 66 8 vP mP cs8) := Lib.hid (G8.out.1.o.alloc _); have HC8 := Lib.hid (Cells.lit w8 (prcV (procT L s4.go).1 (.slice aA nA cA) (.slice aB nB cB) (.slice aC nC cC)) 66 (0, 0) 8 1 rfl); have HB8 : Hid (w.heap.size ≤ (w8.alloc (.cells #[.string (tx (procT L s4.go).1.name), .slice aA nA cA, .bool (procT L s4.go).1.has, .string (tx (procT L s4.go).1.result), .string (tx (procT L s4.go).1.pc), .slice aB nB cB, .slice aC nC cC, .int .i64 ((procT L s4.go).1.pos : Int)] 66)).heap.size) := Lib.hid (Nat.le_trans H8.out.rc.c.size (by simp))))
                all_goals
                  have hms : remW L b (w9.setCell ⟨T, 4, none⟩ (.slice ao7 (mP + 1) c7)) < remW L b wr := by
                    rw [HN.out.2.rc.r.rem, hH.out.1.rc.r.rem]
                    exact HRM.out
                  have HMS := Lib.hid hms
                  clear hms
                  go_wp2_with fail
                  exact ⟨⟨_, _, mV, mP + 1, q2, _, _, _, Lib.hid ⟨HN.out.2, HST.out, by have := HRM.out; have := hH.out.2.2.1; omega, by have := HRM.out; have := hH.out.2.2.2.1; omega, by have := HRM.out; have := hH.out.2.2.2.2.1; omega, HDK.out⟩⟩, HMS.out⟩
              | false =>
                rw [takeT, hP, if_neg (by simp)] at X7
                have H7 := Lib.hid (H6.out.keep X7.out.1 X7.out.2)
                have HST := Lib.hid (declLoop_fail hH.out.2.1 HE.out HK.out hV hP)
                have hrm : remT L (failT L s4 11) < remT L s4 := rem_fail (by decide) HE.out hH.out.1.rc.r.lt
                have HRM := Lib.hid hrm
                have HDK : Hid (Dok (failT L s4 11)) := Lib.hid ((fail_goes s4 11).dok hH.out.2.2.2.2.2)
                clear hrm
                go_wp2_with fail
                refine (rdr_fail w0 _ b n _ L s4 11 H7.out.rc.r).mono ?_
                rintro e8 w8 hr
                obtain ⟨rfl, X8⟩ := hr.out1
                clear hr
                have HT := Lib.hid (H7.out.keep X8.out.1 X8.out.2)
                have hms : remW L b w8 < remW L b wr := by
                  rw [HT.out.rc.r.rem, hH.out.1.rc.r.rem]
                  exact HRM.out
                have HMS := Lib.hid hms
                clear hms
                go_wp2_with fail
                exact ⟨⟨_, _, mV, mP, q2, _, _, _, Lib.hid ⟨HT.out, HST.out, by have := HRM.out; have := hH.out.2.2.1; omega, by have := HRM.out; have := hH.out.2.2.2.1; omega, by have := HRM.out; have := hH.out.2.2.2.2.1; omega, HDK.out⟩⟩, HMS.out⟩

end Go.Proofs.YtlgfijjkbomejaaGreatDoor
