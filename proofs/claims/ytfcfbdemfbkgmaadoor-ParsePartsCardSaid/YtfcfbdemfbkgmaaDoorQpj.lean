/- The code's lists, over what they are made of: made by wip/tools/genlist.py. Numbers and types by name. -/
import Derived.Test.YtfcfbdemfbkgmaaDoorQpi
namespace Go.Proofs.YtfcfbdemfbkgmaaDoor
open Go.RowKit Go.Lib
set_option maxRecDepth 100000

set_option maxHeartbeats 2000000 in
theorem clist_par (w0 w : World) (b : Nat) (L : List Tk) (s : PS) (shut : List UInt8) (h : Psr w0 w b L s) (hs : shut ∈ wordsL) (hs4 : shut ≠ [44]) :
    Calls Tryd.prog 42 #[.pointer (some ⟨b, 0, none⟩), .string (tx shut), .func (.func 40) #[.pointer (some ⟨b, 0, none⟩)] #[]] w (Ends w0 w b L (listT L (paramT L) s shut).2 (RowsC w 3 (fun _ _ p c => c = parV p) (listT L (paramT L) s shut).1)) := by
  have P := psr_accept w0 w b L s shut h hs
  obtain ⟨R, hR⟩ : ∃ R, listT L (paramT L) s shut = R := ⟨_, rfl⟩
  rw [hR]
  have HR := Lib.hid hR
  have he := h.e
  have hok := h.ok
  have hbl := h.blt
  have HS := Lib.hid (StC.of h)
  have HK := Lib.hid (And.intro hs (And.intro hs4 hok))
  have M : Hid (Mono (fun _ _ p c => c = parV p)) := Lib.hid (fun _ _ _ _ _ h => h)
  clear h hR hs hs4
  have y1 := tx_list shut
  go_enter Tryd.func42, Tryd.ntmps42
  go_wp2_with fail
  refine P.mono ?_
  rintro e1 w1 hr
  obtain ⟨rfl, X1⟩ := hr.out1
  clear hr P
  cases hB : isT L s shut with
  | true =>
    rw [takeT, if_pos hB] at X1
    have hR := HR.out
    unfold listT at hR
    simp only at hR
    rw [if_pos hB] at hR
    simp only at hR
    rw [wantT, if_pos hB] at hR
    clear hB HR
    go_wp2_with fail
    go_ret
    rw [← hR]
    exact ⟨X1.out.2, .inl ⟨he, X1.out.1, none, 0, 0, rfl, RowsP.nil _ _ _ _⟩⟩
  | false =>
    rw [takeT, hB, if_neg (by simp)] at X1
    have hG := ListG.first he hB HR.out
    have HS1 := Lib.hid (HS.out.keep X1.out.1 X1.out.2)
    have HG := Lib.hid hG
    clear hB X1 HR HS hG he
    have E1 := psr_param w0 w1 b L s HS1.out.r
    obtain ⟨⟨a1, s1⟩, hq⟩ : ∃ q, paramT L s = q := ⟨_, rfl⟩
    rw [hq] at E1
    have hG := HG.out
    rw [hq] at hG
    clear HG hq
    simp only at E1 hG
    have HG := Lib.hid hG
    clear hG
    obtain ⟨n1, b1, p1⟩ := a1
    change Calls _ _ _ _ (Ends _ _ _ _ _ (Ret (.agg #[.string (tx n1), .string (tx b1), .int .i64 (p1 : Int)]))) at E1
    go_wp2_with fail
    refine E1.mono ?_
    rintro e2 w2 hr
    rcases HS1.out.out hr with ⟨h0, hv, X⟩ | ⟨h0, rfl, X⟩
    case inr =>
      have hf := Lib.hid (HG.out.fell h0)
      clear hr E1
      go_wp2_with fail
      rw [hf.out]
      exact ⟨rfl, X.out, .inr ⟨h0, rfl⟩⟩
    obtain rfl : e2 = _ := hv
    have H2 : Hid (RoAt w0 w (w2.alloc (.cells #[.string (tx n1), .string (tx b1), .int .i64 (p1 : Int)] 46)) b L 46 3 (fun _ _ p c => c = parV p) (.slice (some ⟨w2.heap.size, 0, none⟩) 1 1) 1 s1 [(⟨n1, b1, p1⟩ : Par)]) := Lib.hid (RoAt.lit M.out X.out.1 hbl rfl rfl rfl)
    clear hr E1 X HS1
    go_wp2_with fail
    go_loopw [7] (fun x wr => ∃ (ao : Option Addr) (m c q : Nat) (s2 : PS) (acc : List _), x = .slice ao m c ∧ Hid (RoAt w0 w wr b L 46 3 (fun _ _ p c => c = parV p) (.slice ao m c) m s2 acc ∧ ListG L (paramT L) q s2 acc shut R ∧ m + (L.length - s2.i) ≤ 20000 ∧ L.length - s2.i ≤ q))
      (fun _ wr => lenW b wr)
    case atStart =>
      refine ⟨_, 1, 1, L.length, s1, _, rfl, Lib.hid ⟨H2.out, HG.out, ?_, by omega⟩⟩
      have := HK.out.2.2.few
      omega
    case round =>
      obtain ⟨ao, m, c, q, s2, acc, rfl, H⟩ := hrel
      clear H2 HG
      have P := psr_accept w0 wr b L s2 shut H.out.1.st.r HK.out.1
      have he := H.out.1.st.r.e
      have hlen := H.out.1.st.r.len
      have wd := fun t ht => isT_text H.out.1.st.r.x H.out.1.st.r.lt he (t := t) ht
      have HW := Lib.hid (And.intro wd hlen)
      clear wd hlen
      go_wp2_with fail
      refine P.mono ?_
      rintro e3 w3 hr
      obtain ⟨rfl, X3⟩ := hr.out1
      clear hr P
      cases hB : isT L s2 shut with
      | true =>
        rw [takeT, if_pos hB] at X3
        have h4 : isT L s2 [44] = false := by
          rw [HW.out.1 shut HK.out.1] at hB
          rw [HW.out.1 [44] (by decide), of_decide_eq_true hB]
          exact decide_eq_false HK.out.2.1
        have hR := H.out.2.1.last h4
        rw [wantT, if_pos hB] at hR
        have H3 := Lib.hid (RoAt.told M.out (by decide) (H.out.1.keep M.out X3.out.1 X3.out.2) (by have := H.out.2.2.1; omega))
        have HC := Lib.hid (And.intro X3.out.1 (H.out.1.st.c.trans X3.out.2))
        have HR := Lib.hid hR
        clear hB h4 H X3 hR HW
        go_wp2_with fail
        go_ret
        rw [HR.out]
        exact ⟨HC.out.2, .inl ⟨he, HC.out.1, ao, m, c, rfl, H3.out⟩⟩
      | false =>
        rw [takeT, hB, if_neg (by simp)] at X3
        have H3 := Lib.hid (H.out.1.keep M.out X3.out.1 X3.out.2)
        have hlen3 := X3.out.1.len
        have HL := Lib.hid (hlen3.trans HW.out.2.symm)
        have HLEN := Lib.hid HW.out.2
        clear X3 hlen3
        go_wp2_with fail
        refine (psr_expect w0 w3 b L s2 [44] H3.out.st.r (by decide)).mono ?_
        rintro e4 w4 hr
        cases h4 : isT L s2 [44] with
        | false =>
          have hR := H.out.2.1.last h4
          have w1' : wantT L s2 [44] = failT L s2 11 := by rw [wantT, h4, if_neg (by simp)]
          have w2' : wantT L s2 shut = failT L s2 11 := by rw [wantT, hB, if_neg (by simp)]
          rw [w1'] at hr
          rw [w2'] at hR
          rcases H3.out.st.out hr with ⟨h0, hv, X⟩ | ⟨h0, rfl, X⟩
          · exact absurd h0 (fail_e (by decide))
          · have HR := Lib.hid hR
            clear hr hR w1' w2' hB h4
            go_wp2_with fail
            rw [HR.out]
            exact ⟨rfl, X.out, .inr ⟨h0, rfl⟩⟩
        | true =>
          have w1' : wantT L s2 [44] = s2.go := by rw [wantT, if_pos h4]
          rw [w1'] at hr
          rcases H3.out.st.out hr with ⟨h0, hv, X⟩ | ⟨h0, rfl, X⟩
          case inr => exact absurd he h0
          obtain rfl : e4 = _ := hv
          have hmore := isT_more HK.out.2.2 h4 H3.out.st.r.lt
          obtain ⟨q', rfl⟩ : ∃ q', q = q' + 1 := ⟨q - 1, by have := H.out.2.2.2; have := H3.out.st.r.lt; omega⟩
          have hG := H.out.2.1.more he h4
          have H4 := Lib.hid (H3.out.keep M.out X.out.1.r X.out.2)
          have HQ := Lib.hid (And.intro H.out.2.2 (And.intro hmore hG))
          clear hr X hB h4 w1' hmore hG H H3 HW
          have E2 := psr_param w0 w4 b L s2.go H4.out.st.r
          obtain ⟨⟨a2, s3⟩, hq⟩ : ∃ q, paramT L s2.go = q := ⟨_, rfl⟩
          have hgo := param_goes HK.out.2.2 s2.go
          have hG := HQ.out.2.2
          rw [hq] at E2 hG hgo
          clear hq
          simp only at E2 hG hgo
          have HG := Lib.hid (And.intro hG hgo.i)
          clear hG hgo
          obtain ⟨n2, b2, p2⟩ := a2
          change Calls _ _ _ _ (Ends _ _ _ _ _ (Ret (.agg #[.string (tx n2), .string (tx b2), .int .i64 (p2 : Int)]))) at E2
          have FL : Hid (m + 1 ≤ 1000000) := Lib.hid (by have := HQ.out.1.1; omega)
          obtain ⟨cs, o1, o2⟩ := H4.out.o
          have HO := Lib.hid (And.intro o1 o2)
          clear o1 o2
          go_wp2_with fail
          refine E2.mono ?_
          rintro e5 w5 hr
          rcases H4.out.st.out hr with ⟨h0, hv, X⟩ | ⟨h0, rfl, X⟩
          case inr =>
            have hf := Lib.hid (HG.out.1.fell h0)
            clear hr E2
            go_wp2_with fail
            rw [hf.out]
            exact ⟨rfl, X.out, .inr ⟨h0, rfl⟩⟩
          obtain rfl : e5 = _ := hv
          have HOW := Lib.hid (owns_chg HO.out.1 X.out.2 (fun k hk hm => by have := (HO.out.1.lt k hk).1; have := H4.out.bw; rw [List.mem_singleton] at hm; omega))
          clear hr E2
          go_wp2_with (at_builtin; refine wpList_append_gen elemPar rfl (.tmp 20) (.tmp 23) rfl w.heap.size _ m _ rfl (HOW.out.alloc _) _ 1 (parV ⟨n2, b2, p2⟩) rfl (Cells.lit _ (parV ⟨n2, b2, p2⟩) 46 (0, 0) 3 1 rfl) (parV_one _) (m + 1) rfl FL (by decide) (Nat.le_trans X.out.1.c.size (by simp)) ?_; intro ao7 c7 w7 hown7 hb7 hg7 ho7; have HN := Lib.hid (H4.out.next M.out HO.out.1 HO.out.2 X.out.1.r X.out.2 rfl rfl hown7 hg7 ho7); clear hown7 hb7 hg7 ho7)
          have hl7 : lenW b _ = _ := HN.out.st.r.len
          have hlt := HN.out.st.r.lt
          refine ⟨⟨ao7, m + 1, c7, q', s3, _, rfl, Lib.hid ⟨HN.out, HG.out.1, ?_, ?_⟩⟩, ?_⟩
          · have := HQ.out.1.1
            have h5 := HG.out.2
            have : s2.go.i = s2.i + 1 := rfl
            omega
          · have := HQ.out.1.2
            have h5 := HG.out.2
            have : s2.go.i = s2.i + 1 := rfl
            omega
          · have h8 := HL.out
            have h5 := HG.out.2
            have h6 : s2.go.i = s2.i + 1 := rfl
            have h9 : lenW b wr = L.length - s2.i := HLEN.out
            omega

set_option maxHeartbeats 2000000 in
theorem clist_str (w0 w : World) (b : Nat) (L : List Tk) (s : PS) (shut : List UInt8) (h : Psr w0 w b L s) (hs : shut ∈ wordsL) (hs4 : shut ≠ [44]) :
    Calls Tryd.prog 44 #[.pointer (some ⟨b, 0, none⟩), .string (tx shut), .func (.func 43) #[.pointer (some ⟨b, 0, none⟩)] #[]] w (Ends w0 w b L (listT L (nameT L) s shut).2 (RowsC w 1 (fun _ _ p c => c = [Value.string (tx p)]) (listT L (nameT L) s shut).1)) := by
  have P := psr_accept w0 w b L s shut h hs
  obtain ⟨R, hR⟩ : ∃ R, listT L (nameT L) s shut = R := ⟨_, rfl⟩
  rw [hR]
  have HR := Lib.hid hR
  have he := h.e
  have hok := h.ok
  have hbl := h.blt
  have HS := Lib.hid (StC.of h)
  have HK := Lib.hid (And.intro hs (And.intro hs4 hok))
  have M : Hid (Mono (fun _ _ p c => c = [Value.string (tx p)])) := Lib.hid (fun _ _ _ _ _ h => h)
  clear h hR hs hs4
  have y1 := tx_list shut
  go_enter Tryd.func44, Tryd.ntmps44
  go_wp2_with fail
  refine P.mono ?_
  rintro e1 w1 hr
  obtain ⟨rfl, X1⟩ := hr.out1
  clear hr P
  cases hB : isT L s shut with
  | true =>
    rw [takeT, if_pos hB] at X1
    have hR := HR.out
    unfold listT at hR
    simp only at hR
    rw [if_pos hB] at hR
    simp only at hR
    rw [wantT, if_pos hB] at hR
    clear hB HR
    go_wp2_with fail
    go_ret
    rw [← hR]
    exact ⟨X1.out.2, .inl ⟨he, X1.out.1, none, 0, 0, rfl, RowsP.nil _ _ _ _⟩⟩
  | false =>
    rw [takeT, hB, if_neg (by simp)] at X1
    have hG := ListG.first he hB HR.out
    have HS1 := Lib.hid (HS.out.keep X1.out.1 X1.out.2)
    have HG := Lib.hid hG
    clear hB X1 HR HS hG he
    have E1 := psr_name w0 w1 b L s HS1.out.r
    obtain ⟨⟨a1, s1⟩, hq⟩ : ∃ q, nameT L s = q := ⟨_, rfl⟩
    rw [hq] at E1
    have hG := HG.out
    rw [hq] at hG
    clear HG hq
    simp only at E1 hG
    have HG := Lib.hid hG
    clear hG
    skip
    go_wp2_with fail
    refine E1.mono ?_
    rintro e2 w2 hr
    rcases HS1.out.out hr with ⟨h0, hv, X⟩ | ⟨h0, rfl, X⟩
    case inr =>
      have hf := Lib.hid (HG.out.fell h0)
      clear hr E1
      go_wp2_with fail
      rw [hf.out]
      exact ⟨rfl, X.out, .inr ⟨h0, rfl⟩⟩
    obtain rfl : e2 = _ := hv
    have H2 : Hid (RoAt w0 w (w2.alloc (.cells #[.string (tx a1)] 9)) b L 9 1 (fun _ _ p c => c = [Value.string (tx p)]) (.slice (some ⟨w2.heap.size, 0, none⟩) 1 1) 1 s1 [a1]) := Lib.hid (RoAt.lit M.out X.out.1 hbl rfl rfl rfl)
    clear hr E1 X HS1
    go_wp2_with fail
    go_loopw [7] (fun x wr => ∃ (ao : Option Addr) (m c q : Nat) (s2 : PS) (acc : List _), x = .slice ao m c ∧ Hid (RoAt w0 w wr b L 9 1 (fun _ _ p c => c = [Value.string (tx p)]) (.slice ao m c) m s2 acc ∧ ListG L (nameT L) q s2 acc shut R ∧ m + (L.length - s2.i) ≤ 20000 ∧ L.length - s2.i ≤ q))
      (fun _ wr => lenW b wr)
    case atStart =>
      refine ⟨_, 1, 1, L.length, s1, _, rfl, Lib.hid ⟨H2.out, HG.out, ?_, by omega⟩⟩
      have := HK.out.2.2.few
      omega
    case round =>
      obtain ⟨ao, m, c, q, s2, acc, rfl, H⟩ := hrel
      clear H2 HG
      have P := psr_accept w0 wr b L s2 shut H.out.1.st.r HK.out.1
      have he := H.out.1.st.r.e
      have hlen := H.out.1.st.r.len
      have wd := fun t ht => isT_text H.out.1.st.r.x H.out.1.st.r.lt he (t := t) ht
      have HW := Lib.hid (And.intro wd hlen)
      clear wd hlen
      go_wp2_with fail
      refine P.mono ?_
      rintro e3 w3 hr
      obtain ⟨rfl, X3⟩ := hr.out1
      clear hr P
      cases hB : isT L s2 shut with
      | true =>
        rw [takeT, if_pos hB] at X3
        have h4 : isT L s2 [44] = false := by
          rw [HW.out.1 shut HK.out.1] at hB
          rw [HW.out.1 [44] (by decide), of_decide_eq_true hB]
          exact decide_eq_false HK.out.2.1
        have hR := H.out.2.1.last h4
        rw [wantT, if_pos hB] at hR
        have H3 := Lib.hid (RoAt.told M.out (by decide) (H.out.1.keep M.out X3.out.1 X3.out.2) (by have := H.out.2.2.1; omega))
        have HC := Lib.hid (And.intro X3.out.1 (H.out.1.st.c.trans X3.out.2))
        have HR := Lib.hid hR
        clear hB h4 H X3 hR HW
        go_wp2_with fail
        go_ret
        rw [HR.out]
        exact ⟨HC.out.2, .inl ⟨he, HC.out.1, ao, m, c, rfl, H3.out⟩⟩
      | false =>
        rw [takeT, hB, if_neg (by simp)] at X3
        have H3 := Lib.hid (H.out.1.keep M.out X3.out.1 X3.out.2)
        have hlen3 := X3.out.1.len
        have HL := Lib.hid (hlen3.trans HW.out.2.symm)
        have HLEN := Lib.hid HW.out.2
        clear X3 hlen3
        go_wp2_with fail
        refine (psr_expect w0 w3 b L s2 [44] H3.out.st.r (by decide)).mono ?_
        rintro e4 w4 hr
        cases h4 : isT L s2 [44] with
        | false =>
          have hR := H.out.2.1.last h4
          have w1' : wantT L s2 [44] = failT L s2 11 := by rw [wantT, h4, if_neg (by simp)]
          have w2' : wantT L s2 shut = failT L s2 11 := by rw [wantT, hB, if_neg (by simp)]
          rw [w1'] at hr
          rw [w2'] at hR
          rcases H3.out.st.out hr with ⟨h0, hv, X⟩ | ⟨h0, rfl, X⟩
          · exact absurd h0 (fail_e (by decide))
          · have HR := Lib.hid hR
            clear hr hR w1' w2' hB h4
            go_wp2_with fail
            rw [HR.out]
            exact ⟨rfl, X.out, .inr ⟨h0, rfl⟩⟩
        | true =>
          have w1' : wantT L s2 [44] = s2.go := by rw [wantT, if_pos h4]
          rw [w1'] at hr
          rcases H3.out.st.out hr with ⟨h0, hv, X⟩ | ⟨h0, rfl, X⟩
          case inr => exact absurd he h0
          obtain rfl : e4 = _ := hv
          have hmore := isT_more HK.out.2.2 h4 H3.out.st.r.lt
          obtain ⟨q', rfl⟩ : ∃ q', q = q' + 1 := ⟨q - 1, by have := H.out.2.2.2; have := H3.out.st.r.lt; omega⟩
          have hG := H.out.2.1.more he h4
          have H4 := Lib.hid (H3.out.keep M.out X.out.1.r X.out.2)
          have HQ := Lib.hid (And.intro H.out.2.2 (And.intro hmore hG))
          clear hr X hB h4 w1' hmore hG H H3 HW
          have E2 := psr_name w0 w4 b L s2.go H4.out.st.r
          obtain ⟨⟨a2, s3⟩, hq⟩ : ∃ q, nameT L s2.go = q := ⟨_, rfl⟩
          have hgo := name_goes HK.out.2.2 s2.go
          have hG := HQ.out.2.2
          rw [hq] at E2 hG hgo
          clear hq
          simp only at E2 hG hgo
          have HG := Lib.hid (And.intro hG hgo.i)
          clear hG hgo
          skip
          have FL : Hid (m + 1 ≤ 1000000) := Lib.hid (by have := HQ.out.1.1; omega)
          obtain ⟨cs, o1, o2⟩ := H4.out.o
          have HO := Lib.hid (And.intro o1 o2)
          clear o1 o2
          go_wp2_with fail
          refine E2.mono ?_
          rintro e5 w5 hr
          rcases H4.out.st.out hr with ⟨h0, hv, X⟩ | ⟨h0, rfl, X⟩
          case inr =>
            have hf := Lib.hid (HG.out.1.fell h0)
            clear hr E2
            go_wp2_with fail
            rw [hf.out]
            exact ⟨rfl, X.out, .inr ⟨h0, rfl⟩⟩
          obtain rfl : e5 = _ := hv
          have HOW := Lib.hid (owns_chg HO.out.1 X.out.2 (fun k hk hm => by have := (HO.out.1.lt k hk).1; have := H4.out.bw; rw [List.mem_singleton] at hm; omega))
          clear hr E2
          go_wp2_with (at_builtin; refine wpList_append_gen elemStr rfl (.tmp 20) (.tmp 23) rfl w.heap.size _ m _ rfl (HOW.out.alloc _) _ 1 [.string (tx a2)] rfl (Cells.lit _ [.string (tx a2)] 9 (0, 0) 1 1 rfl) (fun u hu => by simp only [List.mem_singleton] at hu; subst hu; rfl) (m + 1) rfl FL (by decide) (Nat.le_trans X.out.1.c.size (by simp)) ?_; intro ao7 c7 w7 hown7 hb7 hg7 ho7; have HN := Lib.hid (H4.out.next M.out HO.out.1 HO.out.2 X.out.1.r X.out.2 rfl rfl hown7 hg7 ho7); clear hown7 hb7 hg7 ho7)
          have hl7 : lenW b _ = _ := HN.out.st.r.len
          have hlt := HN.out.st.r.lt
          refine ⟨⟨ao7, m + 1, c7, q', s3, _, rfl, Lib.hid ⟨HN.out, HG.out.1, ?_, ?_⟩⟩, ?_⟩
          · have := HQ.out.1.1
            have h5 := HG.out.2
            have : s2.go.i = s2.i + 1 := rfl
            omega
          · have := HQ.out.1.2
            have h5 := HG.out.2
            have : s2.go.i = s2.i + 1 := rfl
            omega
          · have h8 := HL.out
            have h5 := HG.out.2
            have h6 : s2.go.i = s2.i + 1 := rfl
            have h9 : lenW b wr = L.length - s2.i := HLEN.out
            omega

set_option maxHeartbeats 2000000 in
theorem clist_args (w0 w : World) (b : Nat) (L : List Tk) (s : PS) (shut : List UInt8) (h : Psr w0 w b L s) (hs : shut ∈ wordsL) (hs4 : shut ≠ [44]) :
    Calls Tryd.prog 75 #[.pointer (some ⟨b, 0, none⟩), .string (tx shut), .func (.func 58) #[.pointer (some ⟨b, 0, none⟩)] #[]] w (Ends w0 w b L (listT L (exprN L) s shut).2 (RowsC w 1 (ArgV) (listT L (exprN L) s shut).1)) := by
  have P := psr_accept w0 w b L s shut h hs
  obtain ⟨R, hR⟩ : ∃ R, listT L (exprN L) s shut = R := ⟨_, rfl⟩
  rw [hR]
  have HR := Lib.hid hR
  have he := h.e
  have hok := h.ok
  have hbl := h.blt
  have HS := Lib.hid (StC.of h)
  have HK := Lib.hid (And.intro hs (And.intro hs4 hok))
  have M : Hid (Mono (ArgV)) := Lib.hid (fun hc hP hQ => ArgV.chg hc hP hQ)
  clear h hR hs hs4
  have y1 := tx_list shut
  go_enter Tryd.func75, Tryd.ntmps75
  go_wp2_with fail
  refine P.mono ?_
  rintro e1 w1 hr
  obtain ⟨rfl, X1⟩ := hr.out1
  clear hr P
  cases hB : isT L s shut with
  | true =>
    rw [takeT, if_pos hB] at X1
    have hR := HR.out
    unfold listT at hR
    simp only at hR
    rw [if_pos hB] at hR
    simp only at hR
    rw [wantT, if_pos hB] at hR
    clear hB HR
    go_wp2_with fail
    go_ret
    rw [← hR]
    exact ⟨X1.out.2, .inl ⟨he, X1.out.1, none, 0, 0, rfl, RowsP.nil _ _ _ _⟩⟩
  | false =>
    rw [takeT, hB, if_neg (by simp)] at X1
    have hG := ListG.first he hB HR.out
    have HS1 := Lib.hid (HS.out.keep X1.out.1 X1.out.2)
    have HG := Lib.hid hG
    clear hB X1 HR HS hG he
    have E1 := psr_expr w0 w1 b L s HS1.out.r
    obtain ⟨⟨a1, s1⟩, hq⟩ : ∃ q, exprN L s = q := ⟨_, rfl⟩
    rw [hq] at E1
    have hG := HG.out
    rw [hq] at hG
    clear HG hq
    simp only at E1 hG
    have HG := Lib.hid hG
    clear hG
    skip
    go_wp2_with fail
    refine E1.mono ?_
    rintro e2 w2 hr
    rcases HS1.out.out hr with ⟨h0, hv, X⟩ | ⟨h0, rfl, X⟩
    case inr =>
      have hf := Lib.hid (HG.out.fell h0)
      clear hr E1
      go_wp2_with fail
      rw [hf.out]
      exact ⟨rfl, X.out, .inr ⟨h0, rfl⟩⟩
    obtain ⟨ax1, mx1, cx1, rfl, hm1, hn1⟩ := hv
    have hn1 := Lib.hid hn1
    have H2 : Hid (RoAt w0 w (w2.alloc (.cells #[.slice ax1 mx1 cx1] 85)) b L 85 1 (ArgV) (.slice (some ⟨w2.heap.size, 0, none⟩) 1 1) 1 s1 [a1]) := Lib.hid (RoAt.lit M.out X.out.1 hbl rfl (⟨_, _, rfl, hn1.out.chg (Chg.refl [] _) (fun _ _ h => by cases h) (fun k hk => ⟨Nat.le_trans HS1.out.c.size hk.1, hk.2⟩)⟩) rfl)
    clear hr E1 X HS1
    go_wp2_with fail
    go_loopw [7] (fun x wr => ∃ (ao : Option Addr) (m c q : Nat) (s2 : PS) (acc : List _), x = .slice ao m c ∧ Hid (RoAt w0 w wr b L 85 1 (ArgV) (.slice ao m c) m s2 acc ∧ ListG L (exprN L) q s2 acc shut R ∧ m + (L.length - s2.i) ≤ 20000 ∧ L.length - s2.i ≤ q))
      (fun _ wr => lenW b wr)
    case atStart =>
      refine ⟨_, 1, 1, L.length, s1, _, rfl, Lib.hid ⟨H2.out, HG.out, ?_, by omega⟩⟩
      have := HK.out.2.2.few
      omega
    case round =>
      obtain ⟨ao, m, c, q, s2, acc, rfl, H⟩ := hrel
      clear H2 HG
      have P := psr_accept w0 wr b L s2 shut H.out.1.st.r HK.out.1
      have he := H.out.1.st.r.e
      have hlen := H.out.1.st.r.len
      have wd := fun t ht => isT_text H.out.1.st.r.x H.out.1.st.r.lt he (t := t) ht
      have HW := Lib.hid (And.intro wd hlen)
      clear wd hlen
      go_wp2_with fail
      refine P.mono ?_
      rintro e3 w3 hr
      obtain ⟨rfl, X3⟩ := hr.out1
      clear hr P
      cases hB : isT L s2 shut with
      | true =>
        rw [takeT, if_pos hB] at X3
        have h4 : isT L s2 [44] = false := by
          rw [HW.out.1 shut HK.out.1] at hB
          rw [HW.out.1 [44] (by decide), of_decide_eq_true hB]
          exact decide_eq_false HK.out.2.1
        have hR := H.out.2.1.last h4
        rw [wantT, if_pos hB] at hR
        have H3 := Lib.hid (RoAt.told M.out (by decide) (H.out.1.keep M.out X3.out.1 X3.out.2) (by have := H.out.2.2.1; omega))
        have HC := Lib.hid (And.intro X3.out.1 (H.out.1.st.c.trans X3.out.2))
        have HR := Lib.hid hR
        clear hB h4 H X3 hR HW
        go_wp2_with fail
        go_ret
        rw [HR.out]
        exact ⟨HC.out.2, .inl ⟨he, HC.out.1, ao, m, c, rfl, H3.out⟩⟩
      | false =>
        rw [takeT, hB, if_neg (by simp)] at X3
        have H3 := Lib.hid (H.out.1.keep M.out X3.out.1 X3.out.2)
        have hlen3 := X3.out.1.len
        have HL := Lib.hid (hlen3.trans HW.out.2.symm)
        have HLEN := Lib.hid HW.out.2
        clear X3 hlen3
        go_wp2_with fail
        refine (psr_expect w0 w3 b L s2 [44] H3.out.st.r (by decide)).mono ?_
        rintro e4 w4 hr
        cases h4 : isT L s2 [44] with
        | false =>
          have hR := H.out.2.1.last h4
          have w1' : wantT L s2 [44] = failT L s2 11 := by rw [wantT, h4, if_neg (by simp)]
          have w2' : wantT L s2 shut = failT L s2 11 := by rw [wantT, hB, if_neg (by simp)]
          rw [w1'] at hr
          rw [w2'] at hR
          rcases H3.out.st.out hr with ⟨h0, hv, X⟩ | ⟨h0, rfl, X⟩
          · exact absurd h0 (fail_e (by decide))
          · have HR := Lib.hid hR
            clear hr hR w1' w2' hB h4
            go_wp2_with fail
            rw [HR.out]
            exact ⟨rfl, X.out, .inr ⟨h0, rfl⟩⟩
        | true =>
          have w1' : wantT L s2 [44] = s2.go := by rw [wantT, if_pos h4]
          rw [w1'] at hr
          rcases H3.out.st.out hr with ⟨h0, hv, X⟩ | ⟨h0, rfl, X⟩
          case inr => exact absurd he h0
          obtain rfl : e4 = _ := hv
          have hmore := isT_more HK.out.2.2 h4 H3.out.st.r.lt
          obtain ⟨q', rfl⟩ : ∃ q', q = q' + 1 := ⟨q - 1, by have := H.out.2.2.2; have := H3.out.st.r.lt; omega⟩
          have hG := H.out.2.1.more he h4
          have H4 := Lib.hid (H3.out.keep M.out X.out.1.r X.out.2)
          have HQ := Lib.hid (And.intro H.out.2.2 (And.intro hmore hG))
          clear hr X hB h4 w1' hmore hG H H3 HW
          have E2 := psr_expr w0 w4 b L s2.go H4.out.st.r
          obtain ⟨⟨a2, s3⟩, hq⟩ : ∃ q, exprN L s2.go = q := ⟨_, rfl⟩
          have hgo := exprN_goes HK.out.2.2 s2.go
          have hG := HQ.out.2.2
          rw [hq] at E2 hG hgo
          clear hq
          simp only at E2 hG hgo
          have HG := Lib.hid (And.intro hG hgo.i)
          clear hG hgo
          skip
          have FL : Hid (m + 1 ≤ 1000000) := Lib.hid (by have := HQ.out.1.1; omega)
          obtain ⟨cs, o1, o2⟩ := H4.out.o
          have HO := Lib.hid (And.intro o1 o2)
          clear o1 o2
          go_wp2_with fail
          refine E2.mono ?_
          rintro e5 w5 hr
          rcases H4.out.st.out hr with ⟨h0, hv, X⟩ | ⟨h0, rfl, X⟩
          case inr =>
            have hf := Lib.hid (HG.out.1.fell h0)
            clear hr E2
            go_wp2_with fail
            rw [hf.out]
            exact ⟨rfl, X.out, .inr ⟨h0, rfl⟩⟩
          obtain ⟨ax2, mx2, cx2, rfl, hm2, hn2⟩ := hv
          have hn2 := Lib.hid hn2
          have HOW := Lib.hid (owns_chg HO.out.1 X.out.2 (fun k hk hm => by have := (HO.out.1.lt k hk).1; have := H4.out.bw; rw [List.mem_singleton] at hm; omega))
          clear hr E2
          go_wp2_with (at_builtin; refine wpList_append_gen elemArgs rfl (.tmp 20) (.tmp 23) rfl w.heap.size _ m _ rfl (HOW.out.alloc _) _ 1 [.slice ax2 mx2 cx2] rfl (Cells.lit _ [.slice ax2 mx2 cx2] 85 (0, 0) 1 1 rfl) (fun u hu => by simp only [List.mem_singleton] at hu; subst hu; rfl) (m + 1) rfl FL (by decide) (Nat.le_trans X.out.1.c.size (by simp)) ?_; intro ao7 c7 w7 hown7 hb7 hg7 ho7; have HN := Lib.hid (H4.out.next M.out HO.out.1 HO.out.2 X.out.1.r X.out.2 rfl (⟨_, _, rfl, hn2.out⟩) hown7 hg7 ho7); clear hown7 hb7 hg7 ho7)
          have hl7 : lenW b _ = _ := HN.out.st.r.len
          have hlt := HN.out.st.r.lt
          refine ⟨⟨ao7, m + 1, c7, q', s3, _, rfl, Lib.hid ⟨HN.out, HG.out.1, ?_, ?_⟩⟩, ?_⟩
          · have := HQ.out.1.1
            have h5 := HG.out.2
            have : s2.go.i = s2.i + 1 := rfl
            omega
          · have := HQ.out.1.2
            have h5 := HG.out.2
            have : s2.go.i = s2.i + 1 := rfl
            omega
          · have h8 := HL.out
            have h5 := HG.out.2
            have h6 : s2.go.i = s2.i + 1 := rfl
            have h9 : lenW b wr = L.length - s2.i := HLEN.out
            omega

end Go.Proofs.YtfcfbdemfbkgmaaDoor
