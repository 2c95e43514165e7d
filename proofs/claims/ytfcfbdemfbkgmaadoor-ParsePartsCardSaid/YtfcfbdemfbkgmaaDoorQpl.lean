/- The code's simple: a statement without a block. Made by wip/tools/gensimple.py. Numbers and types by name. -/
import Derived.Test.YtfcfbdemfbkgmaaDoorQpk
namespace Go.Proofs.YtfcfbdemfbkgmaaDoor
open Go.RowKit Go.Lib
set_option maxRecDepth 100000

/-- A statement without a block, in the code's order. -/
def simpleT (L : List Tk) (s : PS) (pos : Nat) : SH × PS :=
  if isT L s kLet = true then letT L s.go pos
  else if isT L s kResult = true then resultT L s.go pos
  else if isT L s kCall = true then callT L s.go pos
  else if isT L s kEmit = true then emitT L s.go pos
  else if isT L s kSkip = true then ({ sh0 pos with kind := 8 }, s.go)
  else setT L s pos
theorem let_is (L : List Tk) (s : PS) (pos : Nat) : letT L s pos = ({ sh0 pos with kind := 1, name := (paramT L s).1.name, label := (paramT L s).1.label, e := (valueT L (paramT L s).2).1 }, (valueT L (paramT L s).2).2) := rfl
theorem result_is (L : List Tk) (s : PS) (pos : Nat) : resultT L s pos = ({ sh0 pos with kind := 3, e := (valueT L s).1 }, (valueT L s).2) := rfl
theorem set_is (L : List Tk) (s : PS) (pos : Nat) : setT L s pos = ({ sh0 pos with kind := 2, mod := (qnameT L s).1.1, name := (qnameT L s).1.2, e := (valueT L (qnameT L s).2).1 }, (valueT L (qnameT L s).2).2) := rfl
theorem SvAt.nodes {w0 w wr w1 : World} {b : Nat} {L : List Tk} {S : Nat} {h h' : SH} {vE vA : Value} {s s1 : PS} {ao : Option Addr} {m c : Nat} {l : List Nd} (H1 : SvAt w0 w wr b L S h vE vA s) (H : SvAt w0 w w1 b L S h vE vA s1) (hn : NodesP w1 (fun k => wr.heap.size ≤ k ∧ k < w1.heap.size) (.slice ao m c) m l)
    (e : (stmHead h vE vA (.slice none 0 0) (.slice none 0 0)).toArray.setIfInBounds 8 (.slice ao m c) = (stmHead h' (.slice ao m c) vA (.slice none 0 0) (.slice none 0 0)).toArray) (he : h'.e = l) (ha : h'.args = h.args) : SvAt w0 w (w1.setCell ⟨S, 8, none⟩ (.slice ao m c)) b L S h' (.slice ao m c) vA s1 :=
  H.put 8 (.slice ao m c) e ⟨m, by rw [he]; exact hn.chg (Chg.refl [] _) (fun _ _ h => by cases h) (fun k hk => ⟨Nat.le_trans H1.c.size hk.1, hk.2⟩)⟩ (by rw [ha]; exact H.a)

theorem SvEnd.comp {w0 w wr w1 : World} {b : Nat} {L : List Tk} {S : Nat} {r : SH × PS} {e : Ending} (h : SvEnd w0 wr b L S r e w1) (hc : Chg [b, S] w wr) (hs : S < w.heap.size) : SvEnd w0 w b L S r e w1 := by
  rcases h with ⟨h1, h2, vE, vA, H⟩ | ⟨h1, h2, h3⟩
  · obtain ⟨nE, he⟩ := H.e
    obtain ⟨nA, ha⟩ := H.a
    have hQ : ∀ k, NewW wr w1 k → NewW w w1 k := fun k hk => ⟨Nat.le_trans hc.size hk.1, hk.2⟩
    exact .inl ⟨h1, h2, vE, vA, ⟨H.r, hc.trans H.c, H.z, ⟨nE, he.chg (Chg.refl [] _) (fun _ _ h => by cases h) hQ⟩, ⟨nA, ha.chg (Chg.refl [] _) (fun _ _ h => by cases h) hQ⟩, H.nb, hs⟩⟩
  · exact .inr ⟨h1, h2, hc.trans h3⟩
set_option maxHeartbeats 4000000 in
theorem psr_simple (w0 w : World) (b : Nat) (L : List Tk) (s : PS) (S pos : Nat) (hr : Psr w0 w b L s) (hz : SBlk w S (sh0 pos) (.slice none 0 0) (.slice none 0 0) (.slice none 0 0) (.slice none 0 0)) (hb : b < S) :
    Calls Tryd.prog 59 #[.pointer (some ⟨b, 0, none⟩), .pointer (some ⟨S, 0, none⟩)] w (SvEnd w0 w b L S (simpleT L s pos)) := by
  have H0 := Lib.hid (SvAt.first hr hz rfl rfl hb)
  have hok := hr.ok
  have he := hr.e
  obtain ⟨R, hR⟩ : ∃ R, simpleT L s pos = R := ⟨_, rfl⟩
  rw [hR]
  unfold simpleT at hR
  have HR0 := Lib.hid hR
  have HK := Lib.hid (And.intro hok he)
  clear hr hz hR hok he
  go_enter Tryd.func59, Tryd.ntmps59
  go_wp2_with fail
  refine (psr_accept w0 _ b L s kLet H0.out.r (by decide)).mono ?_
  rintro eq0 w1 hr
  obtain ⟨rfl, X1⟩ := hr.out1
  clear hr
  cases hB0 : isT L s kLet with
  | true =>
    rw [takeT, if_pos hB0] at X1
    have hR := HR0.out
    rw [if_pos hB0] at hR
    have HT := Lib.hid (H0.out.keep X1.out.1 X1.out.2)
    clear hB0 X1 H0 HR0
    rw [let_is] at hR
    have HRT := Lib.hid hR
    clear hR
    go_wp2_with fail
    refine (psr_param w0 _ b L s.go HT.out.r).mono ?_
    obtain ⟨⟨⟨nm, lb, pp⟩, s21⟩, hq⟩ : ∃ q, paramT L s.go = q := ⟨_, rfl⟩
    have hR := HRT.out
    rw [hq] at hR ⊢
    have HR21 := Lib.hid hR
    clear hR hq HRT
    rintro e21 w21 hr
    change Ends _ _ _ _ _ (Ret (.agg #[.string (tx nm), .string (tx lb), .int .i64 (pp : Int)])) _ _ at hr
    rcases HT.out.out hr with ⟨h21, hv, X21⟩ | ⟨h21, rfl, X21⟩
    case inr =>
      have hR := HR21.out
      simp only at hR; rw [(value_goes HK.out.1 s21).err h21] at hR
      have hR := Lib.hid hR
      clear hr
      go_wp2_with fail
      rw [← hR.out]
      exact ⟨rfl, .inr ⟨h21, rfl, X21.out⟩⟩
    obtain rfl : e21 = _ := hv
    have hT := heap_alloc_new w21 (.cells #[.string (tx nm), .string (tx lb), .int .i64 (pp : Int)] 46)
    have H22 := X21.out.1.alloc (.cells #[.string (tx nm), .string (tx lb), .int .i64 (pp : Int)] 46)
    obtain ⟨W, hW⟩ : ∃ W, w21.alloc (.cells #[.string (tx nm), .string (tx lb), .int .i64 (pp : Int)] 46) = W := ⟨_, rfl⟩
    rw [hW] at hT H22
    have HD := Lib.hid H22
    have hTS : w21.heap.size ≠ S := by have := X21.out.1.z.lt; omega
    clear hr X21 HT
    go_upto_region 5 with fail
    generalize w21.heap.size = T at *
    have d0 : W.cell? ⟨T, 0, none⟩ = some (.string (tx nm)) := cellsN hT 0 _ rfl
    have d1 : W.cell? ⟨T, 1, none⟩ = some (.string (tx lb)) := cellsN hT 1 _ rfl
    have hST : S ≠ T := fun e => hTS e.symm
    have k0 := HD.out.cell 0 _ rfl
    have k3 := HD.out.cell 3 _ rfl
    have k4 := HD.out.cell 4 _ rfl
    have f0 := HD.out.free 0
    have f3 := HD.out.free 3
    have f4 := HD.out.free 4
    clear hT H22 hW
    have H25 : Hid (SvAt w0 w (((W.setCell ⟨S, 0, none⟩ (.int .i64 1)).setCell ⟨S, 3, none⟩ (.string (tx nm))).setCell ⟨S, 4, none⟩ (.string (tx lb))).drew b L S { sh0 pos with kind := 1, name := nm, label := lb } (.slice none 0 0) (.slice none 0 0) s21) := Lib.hid
      (((HD.out.field (h' := { sh0 pos with kind := 1 }) 0 (.int .i64 1) rfl rfl rfl).field (h' := { sh0 pos with kind := 1, name := nm }) 3 (.string (tx nm)) rfl rfl rfl).field (h' := { sh0 pos with kind := 1, name := nm, label := lb }) 4 (.string (tx lb)) rfl rfl rfl).drew
    go_region
    generalize (((W.setCell ⟨S, 0, none⟩ (.int .i64 1)).setCell ⟨S, 3, none⟩ (.string (tx nm))).setCell ⟨S, 4, none⟩ (.string (tx lb))).drew = W25 at *
    have HR25 := HR21
    clear HD d0 d1 k0 k3 k4 f0 f3 f4 HR21
    go_wp2_with fail
    refine (psr_value w0 _ b L s21 H25.out.r).mono ?_
    obtain ⟨⟨l26, s26⟩, hq26⟩ : ∃ q, valueT L s21 = q := ⟨_, rfl⟩
    have hR := HR25.out
    rw [hq26] at hR ⊢
    have HR26 := Lib.hid hR
    clear hR hq26 HR25
    rintro e26 w26 hr
    rcases H25.out.out hr with ⟨h26, hv, X26⟩ | ⟨h26, rfl, X26⟩
    case inr =>
      have hR := HR26.out
      skip
      have hR := Lib.hid hR
      clear hr
      go_wp2_with fail
      rw [← hR.out]
      exact ⟨rfl, .inr ⟨h26, rfl, X26.out⟩⟩
    obtain ⟨ao, m, c, rfl, hm, hn⟩ := hv
    have k8 := X26.out.1.cell 8 _ rfl
    have f8 := X26.out.1.free 8
    have HZ : Hid (SvAt w0 w (w26.setCell ⟨S, 8, none⟩ (.slice ao m c)) b L S { sh0 pos with kind := 1, name := nm, label := lb, e := l26 } (.slice ao m c) (.slice none 0 0) s26) := Lib.hid (H25.out.nodes X26.out.1 hn rfl rfl rfl)
    clear hr hn hm X26 H25
    go_wp2_with fail
    go_end0
    rw [← HR26.out]
    exact .inl ⟨h26, rfl, _, _, HZ.out⟩
  | false =>
    rw [takeT, hB0, if_neg (by simp)] at X1
    have hR := HR0.out
    rw [hB0, if_neg (by simp)] at hR
    have HR1 := Lib.hid hR
    have H1 := Lib.hid (H0.out.keep X1.out.1 X1.out.2)
    clear hB0 X1 H0 HR0 hR
    go_wp2_with fail
    refine (psr_accept w0 _ b L s kResult H1.out.r (by decide)).mono ?_
    rintro eq1 w2 hr
    obtain ⟨rfl, X2⟩ := hr.out1
    clear hr
    cases hB1 : isT L s kResult with
    | true =>
      rw [takeT, if_pos hB1] at X2
      have hR := HR1.out
      rw [if_pos hB1] at hR
      have HT := Lib.hid (H1.out.keep X2.out.1 X2.out.2)
      clear hB1 X2 H1 HR1
      rw [result_is] at hR
      have HR25 := Lib.hid hR
      have k0 := HT.out.cell 0 _ rfl
      have f0 := HT.out.free 0
      have H25 := Lib.hid (HT.out.field (h' := { sh0 pos with kind := 3 }) 0 (.int .i64 3) rfl rfl rfl)
      clear hR HT
      go_wp2_with fail
      refine (psr_value w0 _ b L s.go H25.out.r).mono ?_
      obtain ⟨⟨l26, s26⟩, hq26⟩ : ∃ q, valueT L s.go = q := ⟨_, rfl⟩
      have hR := HR25.out
      rw [hq26] at hR ⊢
      have HR26 := Lib.hid hR
      clear hR hq26 HR25
      rintro e26 w26 hr
      rcases H25.out.out hr with ⟨h26, hv, X26⟩ | ⟨h26, rfl, X26⟩
      case inr =>
        have hR := HR26.out
        skip
        have hR := Lib.hid hR
        clear hr
        go_wp2_with fail
        rw [← hR.out]
        exact ⟨rfl, .inr ⟨h26, rfl, X26.out⟩⟩
      obtain ⟨ao, m, c, rfl, hm, hn⟩ := hv
      have k8 := X26.out.1.cell 8 _ rfl
      have f8 := X26.out.1.free 8
      have HZ : Hid (SvAt w0 w (w26.setCell ⟨S, 8, none⟩ (.slice ao m c)) b L S { sh0 pos with kind := 3, e := l26 } (.slice ao m c) (.slice none 0 0) s26) := Lib.hid (H25.out.nodes X26.out.1 hn rfl rfl rfl)
      clear hr hn hm X26 H25
      go_wp2_with fail
      go_end0
      rw [← HR26.out]
      exact .inl ⟨h26, rfl, _, _, HZ.out⟩
    | false =>
      rw [takeT, hB1, if_neg (by simp)] at X2
      have hR := HR1.out
      rw [hB1, if_neg (by simp)] at hR
      have HR2 := Lib.hid hR
      have H2 := Lib.hid (H1.out.keep X2.out.1 X2.out.2)
      clear hB1 X2 H1 HR1 hR
      go_wp2_with fail
      refine (psr_accept w0 _ b L s kCall H2.out.r (by decide)).mono ?_
      rintro eq2 w3 hr
      obtain ⟨rfl, X3⟩ := hr.out1
      clear hr
      cases hB2 : isT L s kCall with
      | true =>
        rw [takeT, if_pos hB2] at X3
        have hR := HR2.out
        rw [if_pos hB2] at hR
        have HT := Lib.hid (H2.out.keep X3.out.1 X3.out.2)
        clear hB2 X3 H2 HR2
        have HRC := Lib.hid hR
        have k0 := HT.out.cell 0 _ rfl
        have f0 := HT.out.free 0
        have H25 := Lib.hid (HT.out.field (h' := shCall pos) 0 (.int .i64 4) rfl rfl rfl)
        clear hR HT
        go_wp2_with fail
        refine (psr_call w0 _ b L s.go S pos H25.out.r H25.out.z H25.out.nb).mono ?_
        rintro e26 w26 hr
        have hr2 := hr.comp H25.out.c H25.out.sw
        rw [HRC.out] at hr2
        clear hr
        rcases hr2 with ⟨h26, rfl, vE, vA, X26⟩ | ⟨h26, rfl, X26⟩
        · have HX := Lib.hid X26
          clear X26
          go_wp2_with fail
          go_end0
          exact .inl ⟨h26, rfl, vE, vA, HX.out⟩
        · have HX := Lib.hid X26
          clear X26
          go_wp2_with fail
          exact ⟨rfl, .inr ⟨h26, rfl, HX.out⟩⟩
      | false =>
        rw [takeT, hB2, if_neg (by simp)] at X3
        have hR := HR2.out
        rw [hB2, if_neg (by simp)] at hR
        have HR3 := Lib.hid hR
        have H3 := Lib.hid (H2.out.keep X3.out.1 X3.out.2)
        clear hB2 X3 H2 HR2 hR
        go_wp2_with fail
        refine (psr_accept w0 _ b L s kEmit H3.out.r (by decide)).mono ?_
        rintro eq3 w4 hr
        obtain ⟨rfl, X4⟩ := hr.out1
        clear hr
        cases hB3 : isT L s kEmit with
        | true =>
          rw [takeT, if_pos hB3] at X4
          have hR := HR3.out
          rw [if_pos hB3] at hR
          have HT := Lib.hid (H3.out.keep X4.out.1 X4.out.2)
          clear hB3 X4 H3 HR3
          unfold emitT at hR
          simp only at hR
          have HRC := Lib.hid hR
          have k0 := HT.out.cell 0 _ rfl
          have f0 := HT.out.free 0
          have H25 := Lib.hid (HT.out.field (h' := { sh0 pos with kind := 7 }) 0 (.int .i64 7) rfl rfl rfl)
          clear hR HT
          go_wp2_with fail
          refine (psr_name w0 _ b L s.go H25.out.r).mono ?_
          obtain ⟨⟨nm, s26⟩, hq⟩ : ∃ q, nameT L s.go = q := ⟨_, rfl⟩
          have hR := HRC.out
          rw [hq] at hR ⊢
          have HR26 := Lib.hid hR
          clear hR hq HRC
          rintro e26 w26 hr
          rcases H25.out.out hr with ⟨h26, hv, X26⟩ | ⟨h26, rfl, X26⟩
          case inr =>
            have hR := HR26.out
            skip
            have hR := Lib.hid hR
            clear hr
            go_wp2_with fail
            rw [← hR.out]
            exact ⟨rfl, .inr ⟨h26, rfl, X26.out⟩⟩
          obtain rfl : e26 = _ := hv
          have k3 := X26.out.1.cell 3 _ rfl
          have f3 := X26.out.1.free 3
          have HZ : Hid (SvAt w0 w (w26.setCell ⟨S, 3, none⟩ (.string (tx nm))) b L S { sh0 pos with kind := 7, name := nm } (.slice none 0 0) (.slice none 0 0) s26) := Lib.hid (X26.out.1.field 3 (.string (tx nm)) rfl rfl rfl)
          clear hr X26 H25 k0 f0
          go_wp2_with fail
          go_end0
          rw [← HR26.out]
          exact .inl ⟨h26, rfl, _, _, HZ.out⟩
        | false =>
          rw [takeT, hB3, if_neg (by simp)] at X4
          have hR := HR3.out
          rw [hB3, if_neg (by simp)] at hR
          have HR4 := Lib.hid hR
          have H4 := Lib.hid (H3.out.keep X4.out.1 X4.out.2)
          clear hB3 X4 H3 HR3 hR
          go_wp2_with fail
          refine (psr_accept w0 _ b L s kSkip H4.out.r (by decide)).mono ?_
          rintro eq4 w5 hr
          obtain ⟨rfl, X5⟩ := hr.out1
          clear hr
          cases hB4 : isT L s kSkip with
          | true =>
            rw [takeT, if_pos hB4] at X5
            have hR := HR4.out
            rw [if_pos hB4] at hR
            have HT := Lib.hid (H4.out.keep X5.out.1 X5.out.2)
            clear hB4 X5 H4 HR4
            have k0 := HT.out.cell 0 _ rfl
            have f0 := HT.out.free 0
            have HZ : Hid (SvAt w0 w _ b L S { sh0 pos with kind := 8 } (.slice none 0 0) (.slice none 0 0) s.go) := Lib.hid (HT.out.field (h' := { sh0 pos with kind := 8 }) 0 (.int .i64 8) rfl rfl rfl)
            have HR26 := Lib.hid hR
            clear HT hR
            go_wp2_with fail
            go_end0
            rw [← HR26.out]
            exact .inl ⟨HK.out.2, rfl, _, _, HZ.out⟩
          | false =>
            rw [takeT, hB4, if_neg (by simp)] at X5
            have hR := HR4.out
            rw [hB4, if_neg (by simp)] at hR
            have HR5 := Lib.hid hR
            have H5 := Lib.hid (H4.out.keep X5.out.1 X5.out.2)
            clear hB4 X5 H4 HR4 hR
            have hR := HR5.out
            rw [set_is] at hR
            have HRC := Lib.hid hR
            have k0 := H5.out.cell 0 _ rfl
            have f0 := H5.out.free 0
            have H25 := Lib.hid (H5.out.field (h' := { sh0 pos with kind := 2 }) 0 (.int .i64 2) rfl rfl rfl)
            clear hR H5 HR5
            go_wp2_with fail
            refine (psr_qname w0 _ b L s H25.out.r).mono ?_
            obtain ⟨⟨⟨q1, q2⟩, s26⟩, hq⟩ : ∃ q, qnameT L s = q := ⟨_, rfl⟩
            have hR := HRC.out
            rw [hq] at hR ⊢
            have HR26 := Lib.hid hR
            clear hR hq HRC
            rintro e26 w26 hr
            rcases H25.out.out hr with ⟨h26, hv, X26⟩ | ⟨h26, rfl, X26⟩
            case inr =>
              have hR := HR26.out
              simp only at hR; rw [(value_goes HK.out.1 s26).err h26] at hR
              have hR := Lib.hid hR
              clear hr
              go_wp2_with fail
              rw [← hR.out]
              exact ⟨rfl, .inr ⟨h26, rfl, X26.out⟩⟩
            obtain rfl : e26 = _ := hv
            have k2 := X26.out.1.cell 2 _ rfl
            have f2 := X26.out.1.free 2
            have k3 := X26.out.1.cell 3 _ rfl
            have f3 := X26.out.1.free 3
            have H27 : Hid (SvAt w0 w ((w26.setCell ⟨S, 2, none⟩ (.string (tx q1))).setCell ⟨S, 3, none⟩ (.string (tx q2))) b L S { sh0 pos with kind := 2, mod := q1, name := q2 } (.slice none 0 0) (.slice none 0 0) s26) := Lib.hid
              ((X26.out.1.field (h' := { sh0 pos with kind := 2, mod := q1 }) 2 (.string (tx q1)) rfl rfl rfl).field (h' := { sh0 pos with kind := 2, mod := q1, name := q2 }) 3 (.string (tx q2)) rfl rfl rfl)
            have HR27 := HR26
            clear hr X26 H25 k0 f0 HR26
            go_wp2_with fail
            refine (psr_value w0 _ b L s26 H27.out.r).mono ?_
            obtain ⟨⟨l28, s28⟩, hq28⟩ : ∃ q, valueT L s26 = q := ⟨_, rfl⟩
            have hR := HR27.out
            rw [hq28] at hR ⊢
            have HR28 := Lib.hid hR
            clear hR hq28 HR27
            rintro e28 w28 hr
            rcases H27.out.out hr with ⟨h28, hv, X28⟩ | ⟨h28, rfl, X28⟩
            case inr =>
              have hR := HR28.out
              skip
              have hR := Lib.hid hR
              clear hr
              go_wp2_with fail
              rw [← hR.out]
              exact ⟨rfl, .inr ⟨h28, rfl, X28.out⟩⟩
            obtain ⟨ao, m, c, rfl, hm, hn⟩ := hv
            have k8 := X28.out.1.cell 8 _ rfl
            have f8 := X28.out.1.free 8
            have HZ : Hid (SvAt w0 w (w28.setCell ⟨S, 8, none⟩ (.slice ao m c)) b L S { sh0 pos with kind := 2, mod := q1, name := q2, e := l28 } (.slice ao m c) (.slice none 0 0) s28) := Lib.hid (H27.out.nodes X28.out.1 hn rfl rfl rfl)
            clear hr hn hm X28 H27
            go_wp2_with fail
            go_end0
            rw [← HR28.out]
            exact .inl ⟨h28, rfl, _, _, HZ.out⟩

end Go.Proofs.YtfcfbdemfbkgmaaDoor
