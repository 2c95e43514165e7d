/- The code's line and labels. Made by wip/tools/genclab.py. Numbers and types by name. -/
import Derived.Test.YtlgfijjkbomejaaDoorQpr
namespace Go.Proofs.YtlgfijjkbomejaaDoor
open Go.RowKit Go.Lib
set_option maxRecDepth 100000

/-- One line of labels. -/
def lineT (L : List Tk) (s : PS) : List Par × PS :=
  let r := lessLoop L (L.length + 1) (nameT L s).2 (nameT L s).1 (if isT L (nameT L s).2 [60] = true then [] else [⟨(nameT L s).1, [], (curT L s).pos⟩])
  (r.1, wantT L r.2 [59])
theorem less_acc {L : List Tk} : ∀ (n : Nat) (s : PS) (a : List UInt8) (acc : List Par), lessLoop L n s a acc = (acc ++ (lessLoop L n s a []).1, (lessLoop L n s a []).2)
  | 0, s, a, acc => by unfold lessLoop; simp
  | n + 1, s, a, acc => by
    unfold lessLoop
    split
    · simp only
      rw [less_acc n _ _ (acc ++ _), less_acc n _ _ ([] ++ _)]
      simp
    · simp
theorem less_goes {L : List Tk} (hL : TokL L) : ∀ (n : Nat) (s : PS) (a : List UInt8) (acc : List Par), Goes L s (lessLoop L n s a acc).2
  | 0, s, a, acc => Goes.refl L s
  | n + 1, s, a, acc => by
    unfold lessLoop
    split
    · rename_i h
      exact (is_goes hL h).trans ((name_goes hL _).trans (less_goes hL n _ _ _))
    · exact Goes.refl L s
theorem line_goes {L : List Tk} (hL : TokL L) (s : PS) : Goes L s (lineT L s).2 := (name_goes hL s).trans ((less_goes hL _ _ _ _).trans (want_goes hL _ _))
theorem lineLoop_step {L : List Tk} {n : Nat} {s : PS} {acc : List Par} {R : List Par × PS} (he : s.e = 0) (hk : (curT L s).kind ≠ 0) (h : lineLoop L (n + 1) s acc = R) : lineLoop L n (lineT L s).2 (acc ++ (lineT L s).1) = R := by
  unfold lineLoop at h
  rw [if_neg (by simp [he, hk])] at h
  simp only at h
  rw [less_acc] at h
  unfold lineT
  simp only
  by_cases h6 : isT L (nameT L s).2 [60] = true
  · rw [if_pos h6] at h ⊢
    rw [← h]
  · rw [if_neg h6] at h ⊢
    rw [less_acc _ _ _ [_]]
    rw [← h]
    simp
theorem lineLoop_stop {L : List Tk} {n : Nat} {s : PS} {acc : List Par} {R : List Par × PS} (hk : s.e ≠ 0 ∨ (curT L s).kind = 0) (h : lineLoop L n s acc = R) : R = (acc, s) := by
  cases n with
  | zero => exact h.symm
  | succ n =>
    unfold lineLoop at h
    rw [if_pos hk] at h
    exact h.symm
theorem ro_apart {wr : World} {base el size : Nat} {v : Value} {m : Nat} {cs : List Value} {T : Nat} {xs : Array Value} {t : TypeId} (h : wr.ownsRow base el size v m cs) (z : wr.heap[T]? = some (.cells xs t)) (hne : el ≠ t) : v.ownBlock ≠ some T := by
  rcases h.2 with ⟨rfl, rfl⟩ | ⟨g, cap, cur, rfl, _, hg, _⟩
  · simp [Value.ownBlock]
  · intro e
    simp only [Value.ownBlock, Option.some.injEq] at e
    subst e
    rw [z] at hg
    cases hg
    exact hne rfl
abbrev ParR : World → (Nat → Prop) → Par → List Value → Prop := fun _ _ p c => c = parV p
theorem monoPar : Mono ParR := fun _ _ _ _ _ h => h
/-- Of the last names of a line: what is left makes the whole. -/
def LessG (L : List Tk) (q : Nat) (s : PS) (a : List UInt8) (acc : List Par) (R : List Par × PS) : Prop := (lessLoop L q s a acc).1 = R.1 ∧ wantT L (lessLoop L q s a acc).2 [59] = R.2
theorem LessG.stop {L : List Tk} {q : Nat} {s : PS} {a : List UInt8} {acc : List Par} {R : List Par × PS} (hB : isT L s [60] = false) (h : LessG L q s a acc R) : R = (acc, wantT L s [59]) := by
  have e : lessLoop L q s a acc = (acc, s) := by
    cases q with
    | zero => rfl
    | succ q =>
      unfold lessLoop
      rw [hB, if_neg (by simp)]
  unfold LessG at h
  rw [e] at h
  exact Prod.ext h.1.symm h.2.symm
theorem LessG.more {L : List Tk} {q : Nat} {s : PS} {a : List UInt8} {acc : List Par} {R : List Par × PS} (hB : isT L s [60] = true) (h : LessG L (q + 1) s a acc R) : LessG L q (nameT L s.go).2 (nameT L s.go).1 (acc ++ [⟨a, (nameT L s.go).1, (curT L s.go).pos⟩]) R := by
  unfold LessG at h
  unfold lessLoop at h
  rw [if_pos hB] at h
  exact h
theorem LessG.fell {L : List Tk} {q : Nat} {s : PS} {a : List UInt8} {acc : List Par} {R : List Par × PS} (he : s.e ≠ 0) (h : LessG L q s a acc R) : R.2 = s := by
  rw [h.stop (isT_err he _)]
  exact want_err he _

/-- What an append leaves of a block of another type. -/
theorem grown_keeps {wr w7 : World} {base el size : Nat} {v : Value} {m : Nat} {cs : List Value} {T : Nat} {xs : Array Value} {t : TypeId} {o : Obj} (h : wr.ownsRow base el size v m cs) (hg : (wr.alloc o).grownBy w7 v.ownBlock) (z : wr.heap[T]? = some (.cells xs t)) (hne : el ≠ t) : w7.heap[T]? = some (.cells xs t) := by
  have hT := (Array.getElem?_eq_some_iff.1 z).1
  have c7' : Chg (rowF v) wr w7 := ((Chg.refl (rowF v) wr).alloc o).trans' (Chg.of_grown (F := rowF v) hg (fun k hk => rowF_mem.2 hk)) fun x hx => .inl hx
  exact (c7'.block T hT (fun hx => ro_apart h z hne (rowF_mem.1 hx))).trans z
theorem RoAt.set {α : Type} {w0 w wr : World} {b : Nat} {L : List Tk} {el : TypeId} {size : Nat} {R : α → List Value → Prop} {v : Value} {m : Nat} {s : PS} {acc : List α} {T : Nat} (H : RoAt w0 w wr b L el size (fun _ _ => R) v m s acc) (hb : b < T) (hn : w.heap.size ≤ T) (hv : v.ownBlock ≠ some T) (j : Nat) (x : Value) : RoAt w0 w (wr.setCell ⟨T, j, none⟩ x) b L el size (fun _ _ => R) v m s acc := by
  have hc : Chg [T] wr (wr.setCell ⟨T, j, none⟩ x) := (Chg.refl [T] wr).set (.inl (by simp)) j x
  obtain ⟨cs, h1, h2⟩ := H.o
  exact ⟨H.st.set hb hn j x, ⟨cs, owns_chg h1 hc (fun k hk hm => by rw [List.mem_singleton] at hm; subst hm; exact hv hk), h2⟩, H.em, H.bw⟩

set_option maxHeartbeats 4000000 in
theorem psr_line (w0 w : World) (b : Nat) (L : List Tk) (s : PS) (h : Psr w0 w b L s) :
    Calls Tryd.prog 35 #[.pointer (some ⟨b, 0, none⟩)] w (Ends w0 w b L (lineT L s).2 (RowsC w 3 ParR (lineT L s).1)) := by
  have P := psr_kind1 w0 w b L s h
  have HS := Lib.hid (StC.of h)
  have hbl := h.blt
  have hL := h.ok
  obtain ⟨R, hR⟩ : ∃ q, lineT L s = q := ⟨_, rfl⟩
  rw [hR]
  unfold lineT at hR
  simp only at hR
  have hng := name_goes hL s
  have hrs := rem_lt (L := L) h.lt
  obtain ⟨⟨a0, s1⟩, hq⟩ : ∃ q, nameT L s = q := ⟨_, rfl⟩
  rw [hq] at P hR hng
  obtain ⟨p0, hp0⟩ : ∃ q, (curT L s).pos = q := ⟨_, rfl⟩
  rw [hp0] at P hR
  generalize (curT L s).kind = kd0 at *
  unfold tokV at P
  simp only at P hR hng
  have HR := Lib.hid hR
  have HK := Lib.hid (And.intro hL (And.intro hng hrs))
  clear h hq hR hL hng hrs hp0
  go_enter Tryd.func35, Tryd.ntmps35
  go_wp2_with fail
  refine P.mono ?_
  rintro e1 w1 hr
  rcases HS.out.out hr with ⟨h1, hv, X⟩ | ⟨h1, rfl, X⟩
  case inr =>
    have hf : Hid (R.2 = s1) := Lib.hid (by
      rw [← HR.out]
      simp only
      rw [(less_goes HK.out.1 _ s1 _ _).err h1]
      exact want_err h1 _)
    clear hr P
    go_wp2_with fail
    rw [hf.out]
    exact ⟨rfl, X.out, .inr ⟨h1, rfl⟩⟩
  obtain rfl : e1 = _ := hv
  have HT1 := Lib.hid (OwB.mk' X.out.1 #[.int .i64 kd0, .string (tx a0), .int .i64 (p0 : Int)] 80)
  have X1 := Lib.hid (X.out.1.alloc (.cells #[.int .i64 kd0, .string (tx a0), .int .i64 (p0 : Int)] 80))
  clear hr P X HS
  go_wp2_with fail
  refine (psr_accept w0 _ b L s1 [59] X1.out.r (by decide)).mono ?_
  rintro e2 w2 hr
  obtain ⟨rfl, X2⟩ := hr.out1
  have HT2 := Lib.hid (HT1.out.keep X2.out.2)
  have S2 := Lib.hid (X1.out.keep X2.out.1 X2.out.2)
  clear hr X2 HT1
  generalize w1.heap.size = T at *
  have d1 : w2.cell? ⟨T, 1, none⟩ = some (.string (tx a0)) := HT2.out.cell 1 _ rfl
  have d2 : w2.cell? ⟨T, 2, none⟩ = some (.int .i64 (p0 : Int)) := HT2.out.cell 2 _ rfl
  have he1 := X1.out.r.e
  cases hB : isT L s1 [59] with
  | true =>
    rw [takeT, if_pos hB] at S2
    have hn : isT L s1 [60] = false := isT_two hB (by decide)
    have hR := HR.out
    rw [hn] at hR
    simp only [Bool.false_eq_true, if_false] at hR
    have e0 : lessLoop L (L.length + 1) s1 a0 [⟨a0, [], p0⟩] = ([⟨a0, [], p0⟩], s1) := by
      unfold lessLoop
      rw [hn, if_neg (by simp)]
    rw [e0] at hR
    simp only at hR
    rw [wantT, if_pos hB] at hR
    have H3 : Hid (RoAt w0 w (w2.alloc (.cells #[.string (tx a0), .string ⟨#[]⟩, .int .i64 (p0 : Int)] 26)) b L 26 3 ParR (.slice (some ⟨w2.heap.size, 0, none⟩) 1 1) 1 s1.go [⟨a0, [], p0⟩]) := Lib.hid (RoAt.lit monoPar S2.out hbl rfl rfl rfl)
    have HRR := Lib.hid hR
    clear hB hn hR e0
    go_wp2_with fail
    go_ret
    rw [← HRR.out]
    exact ⟨H3.out.st.c, .inl ⟨he1, H3.out.st.r, _, _, _, rfl, H3.out.told monoPar (by decide) (by decide)⟩⟩
  | false =>
    rw [takeT, hB, if_neg (by simp)] at S2
    have hG : LessG L (L.length + 1) s1 a0 (if isT L s1 [60] = true then [] else [⟨a0, [], p0⟩]) R := by rw [← HR.out]; exact ⟨rfl, rfl⟩
    have H3 := Lib.hid (RoAt.nil (α := Par) (el := 26) (size := 3) (Rel := ParR) S2.out hbl)
    have HG := Lib.hid hG
    have HB := Lib.hid hB
    clear hG hB d1 d2 HR S2 he1
    go_wp2_with fail
    go_loopw [4, 5] (fun x _ wr => ∃ (ao : Option Addr) (m c q : Nat) (s2 : PS) (a : List UInt8) (kd : Int) (p : Nat) (acc acc' : List Par), x = .slice ao m c ∧ Hid (RoAt w0 w wr b L 26 3 ParR (.slice ao m c) m s2 acc ∧ OwB w wr b T #[.int .i64 kd, .string (tx a), .int .i64 (p : Int)] 80 ∧ LessG L q s2 a acc' R ∧ (isT L s2 [60] = true → acc' = acc) ∧ (isT L s2 [59] = true → acc' = acc) ∧ remT L s2 < q ∧ m + remT L s2 ≤ 20000))
      (fun _ _ wr => lenW b wr)
    case atStart =>
      refine ⟨none, 0, 0, L.length + 1, s1, a0, kd0, p0, [], _, rfl, Lib.hid ⟨H3.out, HT2.out, HG.out, fun h => if_pos h, fun h => absurd (HB.out.symm.trans h) (by simp), ?_, ?_⟩⟩
      · have := HK.out.2.1.rem
        have := HK.out.2.2
        omega
      · have := HK.out.2.1.rem
        have := HK.out.2.2
        have := HK.out.1.few
        omega
    case round =>
      obtain ⟨ao, m, c, q, s2, a, kd, p, acc, acc', rfl, H⟩ := hrel
      clear H3 HG HT2
      obtain ⟨q, rfl⟩ : ∃ q', q = q' + 1 := ⟨q - 1, by have := H.out.2.2.2.2.2.1; omega⟩
      have he := H.out.1.st.r.e
      have HLEN := Lib.hid H.out.1.st.r.len
      go_wp2_with fail
      refine (psr_accept w0 wr b L s2 [59] H.out.1.st.r (by decide)).mono ?_
      rintro e3 w3 hr
      obtain ⟨rfl, X3⟩ := hr.out1
      clear hr
      cases hB3 : isT L s2 [59] with
      | true =>
        rw [takeT, if_pos hB3] at X3
        have hR := H.out.2.2.1.stop (isT_two hB3 (by decide))
        rw [wantT, if_pos hB3, H.out.2.2.2.2.1 hB3] at hR
        have H4 := Lib.hid (H.out.1.keep monoPar X3.out.1 X3.out.2)
        have HT := Lib.hid (H4.out.told monoPar (by decide) (by have := H.out.2.2.2.2.2.2; omega))
        have HRR := Lib.hid hR
        clear hB3 hR H X3
        go_wp2_with fail
        go_ret
        rw [HRR.out]
        exact ⟨H4.out.st.c, .inl ⟨he, H4.out.st.r, _, _, _, rfl, HT.out⟩⟩
      | false =>
        rw [takeT, hB3, if_neg (by simp)] at X3
        have H4 := Lib.hid (H.out.1.keep monoPar X3.out.1 X3.out.2)
        have HO4 := Lib.hid (H.out.2.1.keep X3.out.2)
        clear X3
        go_wp2_with fail
        refine (psr_expect w0 w3 b L s2 [60] H4.out.st.r (by decide)).mono ?_
        rintro e4 w4 hr
        cases hB4 : isT L s2 [60] with
        | false =>
          have hR := H.out.2.2.1.stop hB4
          have w1' : wantT L s2 [60] = failT L s2 11 := by rw [wantT, hB4, if_neg (by simp)]
          have w2' : wantT L s2 [59] = failT L s2 11 := by rw [wantT, hB3, if_neg (by simp)]
          rw [w1'] at hr
          rw [w2'] at hR
          rcases H4.out.st.out hr with ⟨h0, hv, X⟩ | ⟨h0, rfl, X⟩
          · exact absurd h0 (fail_e (by decide))
          have HRR := Lib.hid hR
          clear hr hR w1' w2' hB3 hB4
          go_wp2_with fail
          rw [HRR.out]
          exact ⟨rfl, X.out, .inr ⟨h0, rfl⟩⟩
        | true =>
          have w1' : wantT L s2 [60] = s2.go := by rw [wantT, if_pos hB4]
          rw [w1'] at hr
          rcases H4.out.st.out hr with ⟨h0, hv, X⟩ | ⟨h0, rfl, X⟩
          case inr => exact absurd he h0
          obtain rfl : e4 = _ := hv
          have H5 := Lib.hid (H4.out.keep monoPar X.out.1.r X.out.2)
          have HO5 := Lib.hid (HO4.out.keep X.out.2)
          have hG := H.out.2.2.1.more hB4
          have hrg := rem_go (L := L) he H4.out.st.r.lt
          have hng := name_goes HK.out.1 s2.go
          have P5 := psr_kind1 w0 w4 b L s2.go H5.out.st.r
          obtain ⟨⟨a2, s3⟩, hq⟩ : ∃ q, nameT L s2.go = q := ⟨_, rfl⟩
          rw [hq] at hG hng P5
          obtain ⟨p2, hp2⟩ : ∃ q, (curT L s2.go).pos = q := ⟨_, rfl⟩
          rw [hp2] at hG P5
          generalize (curT L s2.go).kind = kd2 at *
          unfold tokV at P5
          simp only at P5 hG hng
          rw [H.out.2.2.2.1 hB4] at hG
          have HQ := Lib.hid (And.intro hG (And.intro hrg (And.intro hng H.out.2.2.2.2.2)))
          clear hr X hB3 hB4 w1' hG hrg hng hq hp2 H H4 HO4
          go_wp2_with fail
          refine P5.mono ?_
          rintro e6 w6 hr
          rcases H5.out.st.out hr with ⟨h6, hv, X⟩ | ⟨h6, rfl, X⟩
          case inr =>
            have hf := Lib.hid (HQ.out.1.fell h6)
            clear hr P5
            go_wp2_with fail
            rw [hf.out]
            exact ⟨rfl, X.out, .inr ⟨h6, rfl⟩⟩
          obtain rfl : e6 = _ := hv
          have HN6 := Lib.hid (OwB.mk' X.out.1 #[.int .i64 kd2, .string (tx a2), .int .i64 (p2 : Int)] 80)
          have H6' := H5.out.keep monoPar X.out.1.r X.out.2
          have hc6 : Chg [b] w6 (w6.alloc (.cells #[.int .i64 kd2, .string (tx a2), .int .i64 (p2 : Int)] 80)) := (Chg.refl [b] w6).alloc _
          have H6 := Lib.hid (H6'.keep monoPar (X.out.1.alloc (.cells #[.int .i64 kd2, .string (tx a2), .int .i64 (p2 : Int)] 80)).r hc6)
          have HO6 := Lib.hid ((HO5.out.keep X.out.2).keep hc6)
          have hTV : w6.heap.size ≠ T := by have := (HO5.out.keep X.out.2).lt; omega
          clear hr P5 X H5 HO5 H6' hc6
          generalize hw6 : w6.alloc (.cells #[.int .i64 kd2, .string (tx a2), .int .i64 (p2 : Int)] 80) = W6 at *
          generalize hV : w6.heap.size = V at *
          have d1 := HO6.out.cell 1 _ rfl
          have c1 := HN6.out.cell 1 _ rfl
          have c2 := HN6.out.cell 2 _ rfl
          have FL : Hid (m + 1 ≤ 1000000) := Lib.hid (by have := HQ.out.2.2.2.2; omega)
          obtain ⟨cs, o1, o2⟩ := H6.out.o
          have HROW := Lib.hid (And.intro o1 o2)
          clear o1 o2
          go_wp2_with (first
            | (at_builtin; refine wpList_append_gen elemPar rfl (.tmp 23) (.tmp 31) rfl w.heap.size _ m _ rfl (HROW.out.1.alloc _) _ 1 (parV ⟨a, a2, p2⟩) rfl (Cells.lit _ (parV ⟨a, a2, p2⟩) 26 (0, 0) 3 1 rfl) (parV_one _) (m + 1) rfl FL (by decide) (Nat.le_trans H6.out.st.c.size (by simp)) ?_; intro ao7 c7 w7 hown7 hb7 hg7 ho7; have HN := Lib.hid (H6.out.next monoPar HROW.out.1 HROW.out.2 H6.out.st.r (Chg.refl [b] _) rfl (a := ⟨a, a2, p2⟩) rfl hown7 hg7 ho7); have hz7 := grown_keeps HROW.out.1 hg7 HO6.out.z (by decide); have hz8 := grown_keeps HROW.out.1 hg7 HN6.out.z (by decide); have HZ := Lib.hid (And.intro hz7 hz8); have t0 := cellsN hz7 0 _ rfl; have t1 := cellsN hz7 1 _ rfl; have t2 := cellsN hz7 2 _ rfl; have g0 := frozen_of_row w7 T 0 _ _ hz7; have g1 := frozen_of_row w7 T 1 _ _ hz7; have g2 := frozen_of_row w7 T 2 _ _ hz7; clear hown7 hb7 hg7 ho7 hz7 hz8)
            | (refine wpList_load_row rfl 80 (.tmp 5) rfl V rfl _ _ _ _ HZ.out.2 Tryd.underlying80 rfl (tok_info ⟨kd2, a2, p2⟩) ?_))
          have hnr : (Value.slice ao7 (m + 1) c7).ownBlock ≠ some T := by
            obtain ⟨cs7, g1, _⟩ := HN.out.o
            exact ro_apart g1 HZ.out.1 (by decide)
          have HF := ((HN.out.set HO6.out.nb HO6.out.new hnr 0 (.int .i64 kd2)).set HO6.out.nb HO6.out.new hnr 1 (.string (tx a2))).set HO6.out.nb HO6.out.new hnr 2 (.int .i64 (p2 : Int))
          have HOF := (((⟨HZ.out.1, HO6.out.nb, HO6.out.new⟩ : OwB w w7 b T _ 80).set 0 (.int .i64 kd2)).set 1 (.string (tx a2))).set 2 (.int .i64 (p2 : Int))
          have hl7 : lenW b _ = _ := HF.st.r.len
          have hlt := HF.st.r.lt
          refine ⟨⟨ao7, m + 1, c7, q, s3, a2, kd2, p2, _, _, rfl, Lib.hid ⟨HF, HOF, HQ.out.1, fun _ => rfl, fun _ => rfl, ?_, ?_⟩⟩, ?_⟩
          · have := HQ.out.2.1
            have := HQ.out.2.2.1.rem
            have := HQ.out.2.2.2.1
            omega
          · have := HQ.out.2.1
            have := HQ.out.2.2.1.rem
            have := HQ.out.2.2.2.2
            omega
          · have h8 := HLEN.out
            have h9 := HQ.out.2.2.1.i
            have h10 : s2.go.i = s2.i + 1 := rfl
            omega

theorem less_pot {L : List Tk} (hL : TokL L) : ∀ (n : Nat) (s : PS) (a : List UInt8) (acc : List Par), s.i < L.length → (lessLoop L n s a acc).1.length + remT L (lessLoop L n s a acc).2 ≤ acc.length + remT L s
  | 0, s, a, acc, _ => Nat.le_refl _
  | n + 1, s, a, acc, hi => by
    unfold lessLoop
    split
    · rename_i h
      have h1 := isT_more hL h hi
      have h2 := rem_go (L := L) (isT_e h).1 hi
      have h3 := (name_goes hL s.go).rem
      have h4 := less_pot hL n (nameT L s.go).2 (nameT L s.go).1 (acc ++ [⟨a, (nameT L s.go).1, (curT L s.go).pos⟩]) ((name_goes hL s.go).lt h1)
      rw [List.length_append] at h4
      simp only [List.length_singleton] at h4
      simp only
      omega
    · exact Nat.le_refl _
theorem line_pot {L : List Tk} (hL : TokL L) (s : PS) (he : s.e = 0) (hi : s.i < L.length) : (lineT L s).1.length + remT L (lineT L s).2 ≤ remT L s := by
  unfold lineT
  simp only
  have h1 := rem_name (L := L) he hi
  have h2 := less_pot hL (L.length + 1) (nameT L s).2 (nameT L s).1 (if isT L (nameT L s).2 [60] = true then [] else [⟨(nameT L s).1, [], (curT L s).pos⟩]) ((name_goes hL s).lt hi)
  have h3 := (want_goes hL (lessLoop L (L.length + 1) (nameT L s).2 (nameT L s).1 (if isT L (nameT L s).2 [60] = true then [] else [⟨(nameT L s).1, [], (curT L s).pos⟩])).2 [59]).rem
  have h4 : (if isT L (nameT L s).2 [60] = true then ([] : List Par) else [⟨(nameT L s).1, [], (curT L s).pos⟩]).length ≤ 1 := by split <;> simp
  omega
theorem Parts.append {α : Type} {size : Nat} {R : α → List Value → Prop} : ∀ {l k : List α} {cs ds : List Value}, Parts size R l cs → Parts size R k ds → Parts size R (l ++ k) (cs ++ ds)
  | [], _, cs, _, h, h2 => by
    change cs = [] at h
    subst h
    exact h2
  | a :: l, _, cs, _, ⟨c, d, e, h1, h2, h3⟩, hk => ⟨c, d ++ _, by rw [e, List.append_assoc], h1, h2, Parts.append h3 hk⟩
theorem RoAt.append {α : Type} {w0 w wr w5 w7 : World} {b : Nat} {L : List Tk} {el : TypeId} {size : Nat} {R : α → List Value → Prop} {v : Value} {m p : Nat} {s s5 : PS} {acc l2 : List α} {ao7 : Option Addr} {c7 : Nat} {cs cn : List Value} (H : RoAt w0 w wr b L el size (fun _ _ => R) v m s acc) (h1 : wr.ownsRow w.heap.size el size v m cs) (h2 : Parts size R acc cs)
    (r5 : Psr w0 w5 b L s5) (c5 : Chg [b] wr w5) (hn : Parts size R l2 cn) (hp : p = m + l2.length)
    (h7 : w7.ownsRow w.heap.size el size (.slice ao7 p c7) p (cs ++ cn)) (hg : w5.grownBy w7 v.ownBlock) : RoAt w0 w w7 b L el size (fun _ _ => R) (.slice ao7 p c7) p s5 (acc ++ l2) := by
  have hbw := H.bw
  have c7' : Chg (rowF v) w5 w7 := Chg.of_grown (F := rowF v) hg (fun k hk => rowF_mem.2 hk)
  have hv : ∀ k, v.ownBlock = some k → w.heap.size ≤ k ∧ k < wr.heap.size := fun k hk => h1.lt k hk
  have r7 : Psr w0 w7 b L s5 := r5.chg c7' (fun x hx => by have := (hv x (rowF_mem.1 hx)).1; omega)
  exact ⟨⟨r7, (H.st.c.trans c5).trans' c7' (fun x hx => .inr (hv x (rowF_mem.1 hx)).1)⟩, ⟨_, h7, h2.append hn⟩, by rw [List.length_append, ← H.em]; exact hp, hbw⟩
theorem par_one : ∀ {l : List Par} {cs : List Value}, Parts 3 (fun p c => c = parV p) l cs → ∀ u ∈ cs, u.oneCell' = true
  | [], cs, h, u, hu => by
    change cs = [] at h
    subst h
    cases hu
  | a :: l, cs, ⟨c, d, e, h1, h2, h3⟩, u, hu => by
    subst e
    rcases List.mem_append.1 hu with hu | hu
    · rw [h2] at hu
      exact parV_one a u hu
    · exact par_one h3 u hu

set_option maxHeartbeats 4000000 in
theorem psr_labels (w0 w : World) (b : Nat) (L : List Tk) (s : PS) (h : Psr w0 w b L s) :
    Calls Tryd.prog 27 #[.pointer (some ⟨b, 0, none⟩)] w (Ends w0 w b L (labelsT L s).2 (RowsC w 3 ParR (labelsT L s).1)) := by
  have P := psr_expect w0 w b L s kLabels h (by decide)
  have HS := Lib.hid (StC.of h)
  have hbl := h.blt
  have hL := h.ok
  obtain ⟨R, hR⟩ : ∃ q, labelsT L s = q := ⟨_, rfl⟩
  rw [hR]
  unfold labelsT at hR
  obtain ⟨s1, hq⟩ : ∃ q, wantT L s kLabels = q := ⟨_, rfl⟩
  rw [hq] at P hR
  have HR := Lib.hid hR
  have HK := Lib.hid hL
  clear h hq hR hL
  go_enter Tryd.func27, Tryd.ntmps27
  go_wp2_with fail
  refine P.mono ?_
  rintro e1 w1 hr
  rcases HS.out.out hr with ⟨h1, hv, X⟩ | ⟨h1, rfl, X⟩
  case inr =>
    have hf : Hid (R.2 = s1) := Lib.hid (by rw [lineLoop_stop (.inl h1) HR.out])
    clear hr P
    go_wp2_with fail
    rw [hf.out]
    exact ⟨rfl, X.out, .inr ⟨h1, rfl⟩⟩
  obtain rfl : e1 = _ := hv
  have H2 := Lib.hid (RoAt.nil (α := Par) (el := 26) (size := 3) (Rel := ParR) X.out.1 hbl)
  clear hr P X HS
  go_wp2_with fail
  go_loopw [3] (fun x wr => ∃ (ao : Option Addr) (m c q : Nat) (s2 : PS) (acc : List Par), x = .slice ao m c ∧ Hid (RoAt w0 w wr b L 26 3 ParR (.slice ao m c) m s2 acc ∧ lineLoop L q s2 acc = R ∧ remT L s2 < q ∧ m + remT L s2 ≤ 20000))
    (fun _ wr => lenW b wr)
  case atStart =>
    have := rem_lt (L := L) H2.out.st.r.lt
    have := HK.out.few
    exact ⟨none, 0, 0, L.length + 1, s1, [], rfl, Lib.hid ⟨H2.out, HR.out, rem_lt H2.out.st.r.lt, by omega⟩⟩
  case round =>
    obtain ⟨ao, m, c, q, s2, acc, rfl, H⟩ := hrel
    clear H2 HR
    obtain ⟨q, rfl⟩ : ∃ q', q = q' + 1 := ⟨q - 1, by have := H.out.2.2.1; omega⟩
    have HLEN := Lib.hid H.out.1.st.r.len
    have f0 := tok_kind (curT L s2)
    have P5 := psr_peek w0 wr b L s2 H.out.1.st.r
    unfold tokV at P5
    obtain ⟨kd, hkd⟩ : ∃ k, (curT L s2).kind = k := ⟨_, rfl⟩
    have HKD := Lib.hid hkd
    rw [hkd] at f0 P5
    generalize (curT L s2).text = tt at *
    generalize (curT L s2).pos = pp at *
    clear hkd
    go_wp2_with fail
    refine P5.mono ?_
    rintro e3 w3 hr
    obtain ⟨rfl, X3⟩ := hr.out1
    have H3 := Lib.hid (H.out.1.keep monoPar X3.out.1 X3.out.2)
    clear hr P5 X3
    by_cases hk : kd = 0
    · subst hk
      have hst := Lib.hid (lineLoop_stop (.inr HKD.out) H.out.2.1)
      have HT := Lib.hid (H3.out.told monoPar (by decide) (by have := H.out.2.2.2; omega))
      clear H
      go_wp2_with fail
      go_ret
      rw [hst.out]
      exact ⟨H3.out.st.c, .inl ⟨H3.out.st.r.e, H3.out.st.r, _, _, _, rfl, HT.out⟩⟩
    have hkb : (kd == 0) = false := by simpa using hk
    have hst := lineLoop_step H3.out.st.r.e (by rw [HKD.out]; exact hk) H.out.2.1
    have hgo := line_goes HK.out s2
    have hpot := line_pot HK.out s2 H3.out.st.r.e H3.out.st.r.lt
    have hrm := H.out.1.st.r
    have P6 := psr_line w0 w3 b L s2 H3.out.st.r
    have hng := rem_name (L := L) H3.out.st.r.e H3.out.st.r.lt
    have hlg : remT L (lineT L s2).2 ≤ remT L (nameT L s2).2 := ((less_goes HK.out _ _ _ _).trans (want_goes HK.out _ _)).rem
    obtain ⟨⟨l2, s3⟩, hq⟩ : ∃ q, lineT L s2 = q := ⟨_, rfl⟩
    rw [hq] at hst hgo hpot P6 hlg
    have HQ := Lib.hid (And.intro hst (And.intro hgo (And.intro hpot (And.intro hng (And.intro hlg H.out.2.2)))))
    obtain ⟨cs, o1, o2⟩ := H3.out.o
    have HROW := Lib.hid (And.intro o1 o2)
    clear hst hgo hpot hrm hng hlg hq H o1 o2
    go_wp2_with fail
    refine P6.mono ?_
    rintro e6 w6 hr
    rcases H3.out.st.out hr with ⟨h6, hv, X⟩ | ⟨h6, rfl, X⟩
    case inr =>
      have hf : Hid (R.2 = s3) := Lib.hid (by rw [lineLoop_stop (.inl h6) HQ.out.1])
      clear hr P6
      go_wp2_with fail
      rw [hf.out]
      exact ⟨rfl, X.out, .inr ⟨h6, rfl⟩⟩
    obtain ⟨a2, m2, c2, rfl, hm2, hm9, _, cn, hcn, hpn⟩ := hv
    have hown := owns_chg HROW.out.1 X.out.2 (fun k hk hm => by have := (HROW.out.1.lt k hk).1; have := H3.out.bw; rw [List.mem_singleton] at hm; omega)
    have HX := Lib.hid (And.intro hcn (And.intro hpn (And.intro hown hm2)))
    have FL : Hid (m + m2 ≤ 1000000) := Lib.hid (by
      have := HQ.out.2.2.1
      have := HQ.out.2.2.2.2.2.2
      first | omega | (simp only at *; omega))
    clear hr P6 hm2 hm9 hcn hpn hown
    go_wp2_with (at_builtin; refine wpList_append_gen elemPar rfl (.tmp 10) (.tmp 12) rfl w.heap.size _ m _ rfl HX.out.2.2.1 _ m2 cn rfl HX.out.1 (par_one HX.out.2.1) (m + m2) rfl FL (by decide) X.out.1.c.size ?_; intro ao7 c7 w7 hown7 hb7 hg7 ho7; have HN := Lib.hid (H3.out.append HROW.out.1 HROW.out.2 X.out.1.r X.out.2 HX.out.2.1 (by rw [HX.out.2.2.2]) hown7 hg7); clear hown7 hb7 hg7 ho7)
    have hl7 : lenW b _ = _ := HN.out.st.r.len
    have hlt := HN.out.st.r.lt
    have hr3 := remT_e (L := L) HN.out.st.r.e
    have hr2 := remT_e (L := L) H3.out.st.r.e
    refine ⟨⟨ao7, m + m2, c7, q, s3, _, rfl, Lib.hid ⟨HN.out, HQ.out.1, ?_, ?_⟩⟩, ?_⟩
    · have := HQ.out.2.2.2.1
      have := HQ.out.2.2.2.2.1
      have := HQ.out.2.2.2.2.2.1
      first | omega | (simp only at *; omega)
    · have := HQ.out.2.2.1
      have := HQ.out.2.2.2.2.2.2
      have := HX.out.2.2.2
      first | omega | (simp only at *; omega)
    · have h8 := HLEN.out
      have := HQ.out.2.2.2.1
      have := HQ.out.2.2.2.2.1
      have := H3.out.st.r.lt
      first | omega | (simp only at *; omega)

end Go.Proofs.YtlgfijjkbomejaaDoor
