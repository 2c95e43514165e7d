/- The code's value and call; a statement's block that is filled in. Numbers and types by name. -/
import Derived.Test.YtfcfbdemfbkgmaaDoorQpj
import Derived.Test.YtfcfbdemfbkgmaaDoorPbf
namespace Go.Proofs.YtfcfbdemfbkgmaaDoor
open Go.RowKit Go.Lib
set_option maxRecDepth 100000

def valueT (L : List Tk) (s : PS) : List Nd × PS := exprN L (wantT L s [61])
theorem value_goes {L : List Tk} (hL : TokL L) (s : PS) : Goes L s (valueT L s).2 := (want_goes hL _ _).trans (exprN_goes hL _)
theorem psr_value (w0 w : World) (b : Nat) (L : List Tk) (s : PS) (h : Psr w0 w b L s) :
    Calls Tryd.prog 66 #[.pointer (some ⟨b, 0, none⟩)] w (Ends w0 w b L (valueT L s).2 (NdsC w (valueT L s).1)) := by
  have P := psr_expect w0 w b L s [61] h (by decide)
  have HS := Lib.hid (StC.of h)
  have hok := h.ok
  unfold valueT
  have E := Lib.hid (fun w1 h1 => psr_expr w0 w1 b L (wantT L s [61]) h1)
  have hgo := exprN_goes hok (wantT L s [61])
  generalize exprN L (wantT L s [61]) = R at *
  generalize wantT L s [61] = s1 at *
  have HG := Lib.hid hgo
  clear h hgo
  go_enter Tryd.func66, Tryd.ntmps66
  go_wp2_with fail
  refine P.mono ?_
  rintro e1 w1 hr
  rcases HS.out.out hr with ⟨h0, hv, X⟩ | ⟨h0, rfl, X⟩
  case inr =>
    clear hr P
    go_wp2_with fail
    rw [HG.out.err h0]
    exact ⟨rfl, X.out, .inr ⟨h0, rfl⟩⟩
  obtain rfl : e1 = _ := hv
  clear hr P HG
  go_wp2_with fail
  refine (E.out w1 X.out.1.r).mono ?_
  rintro e2 w2 hr
  rcases X.out.1.out hr with ⟨h2, hv, X2⟩ | ⟨h2, rfl, X2⟩
  case inr =>
    clear hr E
    go_wp2_with fail
    exact ⟨rfl, X2.out, .inr ⟨h2, rfl⟩⟩
  obtain ⟨ao, m, c, rfl, hm, hn⟩ := hv
  have HF := Lib.hid (show Ends w0 w b L R.2 (NdsC w R.1) (.returned (.slice ao m c)) w2 from ⟨X2.out.1.c, .inl ⟨h2, X2.out.1.r, ao, m, c, rfl, hm, hn.chg (Chg.refl [] _) (fun _ _ h => by cases h) (fun k hk => ⟨Nat.le_trans X.out.1.c.size hk.1, hk.2⟩)⟩⟩)
  clear hr E hn hm X2
  go_wp2_with fail
  go_ret
  exact HF.out

/-- A statement's block that is filled in: the state, the block, its parts. -/
structure SvAt (w0 w wr : World) (b : Nat) (L : List Tk) (S : Nat) (h : SH) (vE vA : Value) (s : PS) : Prop where
  r : Psr w0 wr b L s
  c : Chg [b, S] w wr
  z : SBlk wr S h vE vA (.slice none 0 0) (.slice none 0 0)
  e : ∃ nE, NodesP wr (NewW w wr) vE nE h.e
  a : ∃ nA, ArgsP wr (NewW w wr) vA nA h.args
  nb : b < S
  sw : S < w.heap.size
variable {w0 w wr : World} {b : Nat} {L : List Tk} {S : Nat} {h : SH} {vE vA : Value} {s : PS}
theorem SvAt.keep {w1 : World} {s1 : PS} (H : SvAt w0 w wr b L S h vE vA s) (hr : Psr w0 w1 b L s1) (hc : Chg [b] wr w1) : SvAt w0 w w1 b L S h vE vA s1 := by
  obtain ⟨nE, he⟩ := H.e
  obtain ⟨nA, ha⟩ := H.a
  have hb := H.nb
  have hs := H.sw
  have hP : ∀ k, NewW w wr k → k ∉ [b] := fun k hk hm => by rw [List.mem_singleton] at hm; have := hk.1; omega
  have hQ : ∀ k, NewW w wr k → NewW w w1 k := fun k hk => ⟨hk.1, Nat.lt_of_lt_of_le hk.2 hc.size⟩
  exact ⟨hr, H.c.trans (hc.mono (fun x hx => by rw [List.mem_singleton] at hx; rw [hx]; exact List.mem_cons_self ..)), H.z.chg hc (by rw [List.mem_singleton]; omega), ⟨nE, he.chg hc hP hQ⟩, ⟨nA, ha.chg hc hP hQ⟩, hb, hs⟩
theorem SvAt.alloc (H : SvAt w0 w wr b L S h vE vA s) (o : Obj) : SvAt w0 w (wr.alloc o) b L S h vE vA s := H.keep (H.r.chg ((Chg.refl [] wr).alloc o) (fun x hx => by cases hx)) ((Chg.refl [b] wr).alloc o)
theorem SvAt.drew (H : SvAt w0 w wr b L S h vE vA s) : SvAt w0 w wr.drew b L S h vE vA s := H.keep (H.r.chg ((Chg.refl [] wr).drew) (fun x hx => by cases hx)) ((Chg.refl [b] wr).drew)
theorem SvAt.put {h' : SH} {vE' vA' : Value} (H : SvAt w0 w wr b L S h vE vA s) (j : Nat) (v : Value) (e : (stmHead h vE vA (.slice none 0 0) (.slice none 0 0)).toArray.setIfInBounds j v = (stmHead h' vE' vA' (.slice none 0 0) (.slice none 0 0)).toArray)
    (he : ∃ nE, NodesP wr (NewW w wr) vE' nE h'.e) (ha : ∃ nA, ArgsP wr (NewW w wr) vA' nA h'.args) : SvAt w0 w (wr.setCell ⟨S, j, none⟩ v) b L S h' vE' vA' s := by
  have hc : Chg [S] wr (wr.setCell ⟨S, j, none⟩ v) := (Chg.refl [S] wr).set (.inl (by simp)) j v
  have hb := H.nb
  have hs := H.sw
  have hP : ∀ k, NewW w wr k → k ∉ [S] := fun k hk hm => by rw [List.mem_singleton] at hm; have := hk.1; omega
  have hQ : ∀ k, NewW w wr k → NewW w (wr.setCell ⟨S, j, none⟩ v) k := fun k hk => ⟨hk.1, Nat.lt_of_lt_of_le hk.2 hc.size⟩
  obtain ⟨nE, he⟩ := he
  obtain ⟨nA, ha⟩ := ha
  exact ⟨H.r.chg hc (fun y hy => by rw [List.mem_singleton] at hy; rw [hy]; exact hb), H.c.trans (hc.mono (fun x hx => by rw [List.mem_singleton] at hx; rw [hx]; simp)), H.z.set j v e, ⟨nE, he.chg hc hP hQ⟩, ⟨nA, ha.chg hc hP hQ⟩, hb, hs⟩
/-- A field that is no list. -/
theorem SvAt.field {h' : SH} (H : SvAt w0 w wr b L S h vE vA s) (j : Nat) (v : Value) (e : (stmHead h vE vA (.slice none 0 0) (.slice none 0 0)).toArray.setIfInBounds j v = (stmHead h' vE vA (.slice none 0 0) (.slice none 0 0)).toArray) (h1 : h'.e = h.e) (h2 : h'.args = h.args) : SvAt w0 w (wr.setCell ⟨S, j, none⟩ v) b L S h' vE vA s :=
  H.put j v e (by rw [h1]; exact H.e) (by rw [h2]; exact H.a)
theorem SvAt.cell (H : SvAt w0 w wr b L S h vE vA s) (j : Nat) (v : Value) (hj : (stmHead h vE vA (.slice none 0 0) (.slice none 0 0))[j]? = some v) : wr.cell? ⟨S, j, none⟩ = some v := H.z.cell j v hj
theorem SvAt.free (H : SvAt w0 w wr b L S h vE vA s) (j : Nat) : wr.frozen? ⟨S, j, none⟩ = false := H.z.free j
/-- What filling it in leaves. -/
def SvEnd (w0 w : World) (b : Nat) (L : List Tk) (S : Nat) (r : SH × PS) (e : Ending) (w' : World) : Prop :=
  (r.2.e = 0 ∧ e = .returned (.tuple #[]) ∧ ∃ vE vA, SvAt w0 w w' b L S r.1 vE vA r.2) ∨ (r.2.e ≠ 0 ∧ e = Pnk r.2 ∧ Chg [b, S] w w')
theorem SvAt.out {w1 : World} {s1 : PS} {V : World → Ending → Prop} {e : Ending} (H : SvAt w0 w wr b L S h vE vA s) (k : Ends w0 wr b L s1 V e w1) : (s1.e = 0 ∧ V w1 e ∧ Hid (SvAt w0 w w1 b L S h vE vA s1 ∧ Chg [b] wr w1)) ∨ (s1.e ≠ 0 ∧ e = Pnk s1 ∧ Hid (Chg [b, S] w w1)) := by
  obtain ⟨hc, ⟨h0, h1, h2⟩ | ⟨h0, h1⟩⟩ := k
  · exact .inl ⟨h0, h2, Lib.hid ⟨H.keep h1 hc, hc⟩⟩
  · exact .inr ⟨h0, h1, Lib.hid (H.c.trans (hc.mono (fun x hx => by rw [List.mem_singleton] at hx; rw [hx]; exact List.mem_cons_self ..)))⟩
theorem SvAt.first {h0 : SH} (hr : Psr w0 w b L s) (hz : SBlk w S h0 (.slice none 0 0) (.slice none 0 0) (.slice none 0 0) (.slice none 0 0)) (he : h0.e = []) (ha : h0.args = []) (hb : b < S) : SvAt w0 w w b L S h0 (.slice none 0 0) (.slice none 0 0) s :=
  ⟨hr, Chg.refl _ _, hz, ⟨0, by rw [he]; exact RowsP.nil _ _ _ _⟩, ⟨0, by rw [ha]; exact RowsP.nil _ _ _ _⟩, hb, hz.lt⟩

def shCall (pos : Nat) : SH := { sh0 pos with kind := 4 }
set_option maxHeartbeats 2000000 in
theorem psr_call (w0 w : World) (b : Nat) (L : List Tk) (s : PS) (S pos : Nat) (hr : Psr w0 w b L s) (hz : SBlk w S (shCall pos) (.slice none 0 0) (.slice none 0 0) (.slice none 0 0) (.slice none 0 0)) (hb : b < S) :
    Calls Tryd.prog 67 #[.pointer (some ⟨b, 0, none⟩), .pointer (some ⟨S, 0, none⟩)] w (SvEnd w0 w b L S (callT L s pos)) := by
  have P := psr_qname w0 w b L s hr
  have H0 := Lib.hid (SvAt.first hr hz rfl rfl hb)
  have hok := hr.ok
  obtain ⟨R, hR⟩ : ∃ R, callT L s pos = R := ⟨_, rfl⟩
  rw [hR]
  unfold callT at hR
  simp only at hR
  obtain ⟨⟨⟨q1, q2⟩, s1⟩, hq⟩ : ∃ q, qnameT L s = q := ⟨_, rfl⟩
  rw [hq] at P hR
  simp only at P hR
  have HR := Lib.hid hR
  have HK := Lib.hid hok
  clear hr hz hR hq hok
  go_enter Tryd.func67, Tryd.ntmps67
  go_wp2_with fail
  refine P.mono ?_
  rintro e1 w1 hr
  have hL := fun s => list_goes HK.out (exprN_goes HK.out) s [41]
  rcases H0.out.out hr with ⟨h0, hv, X⟩ | ⟨h0, rfl, X⟩
  case inr =>
    have hR := HR.out
    rw [isT_err h0] at hR
    simp only [Bool.false_eq_true, if_false] at hR
    rw [want_err h0, (hL s1).err h0] at hR
    have hR := Lib.hid hR
    clear hr P hL
    go_wp2_with fail
    rw [← hR.out]
    exact ⟨rfl, .inr ⟨h0, rfl, X.out⟩⟩
  obtain rfl : e1 = _ := hv
  have H1 := Lib.hid X.out.1
  have HLG := Lib.hid hL
  clear hr P X H0 hL
  go_wp2_with fail
  refine (psr_accept w0 w1 b L s1 [61] H1.out.r (by decide)).mono ?_
  rintro e2 w2 hr
  obtain ⟨rfl, X2⟩ := hr.out1
  clear hr
  cases hB : isT L s1 [61] with
  | true =>
    rw [takeT, if_pos hB] at X2
    have hR := HR.out
    rw [hB] at hR
    simp only [if_true] at hR
    have H2 := Lib.hid (H1.out.keep X2.out.1 X2.out.2)
    have HR2 := Lib.hid hR
    clear hB X2 H1 HR hR
    have k5 := H2.out.cell 5 _ rfl
    have k2 := H2.out.cell 2 _ rfl
    have k3 := H2.out.cell 3 _ rfl
    have f5 := H2.out.free 5
    have f2 := H2.out.free 2
    have f3 := H2.out.free 3
    have H3 : Hid (SvAt w0 w (((w2.setCell ⟨S, 5, none⟩ (.bool true)).setCell ⟨S, 2, none⟩ (.string (tx q1))).setCell ⟨S, 3, none⟩ (.string (tx q2))) b L S { shCall pos with has := true, mod := q1, name := q2 } (.slice none 0 0) (.slice none 0 0) s1.go) := Lib.hid
      (((H2.out.field (h' := { shCall pos with has := true }) 5 (.bool true) rfl rfl rfl).field (h' := { shCall pos with has := true, mod := q1 }) 2 (.string (tx q1)) rfl rfl rfl).field (h' := { shCall pos with has := true, mod := q1, name := q2 }) 3 (.string (tx q2)) rfl rfl rfl)
    clear H2
    go_wp2_with fail
    refine (psr_qname w0 _ b L s1.go H3.out.r).mono ?_
    obtain ⟨⟨⟨a1, a2⟩, s4⟩, hq4⟩ : ∃ q, qnameT L s1.go = q := ⟨_, rfl⟩
    have hR := HR2.out
    rw [hq4] at hR ⊢
    have HR4 := Lib.hid hR
    clear hR hq4 HR2
    rintro e4 w4 hr
    rcases H3.out.out hr with ⟨h4, hv, X4⟩ | ⟨h4, rfl, X4⟩
    case inr =>
      have hR := HR4.out
      simp only at hR
      rw [want_err h4, (HLG.out s4).err h4] at hR
      have hR := Lib.hid hR
      clear hr
      go_wp2_with fail
      rw [← hR.out]
      exact ⟨rfl, .inr ⟨h4, rfl, X4.out⟩⟩
    obtain rfl : e4 = _ := hv
    have H4 := Lib.hid X4.out.1
    clear hr X4 H3 k5 k2 k3 f5 f2 f3
    have k6 := H4.out.cell 6 _ rfl
    have k7 := H4.out.cell 7 _ rfl
    have f6 := H4.out.free 6
    have f7 := H4.out.free 7
    have H6 : Hid (SvAt w0 w ((w4.setCell ⟨S, 6, none⟩ (.string (tx a1))).setCell ⟨S, 7, none⟩ (.string (tx a2))) b L S { shCall pos with has := true, mod := q1, name := q2, toMod := a1, «to» := a2 } (.slice none 0 0) (.slice none 0 0) s4) := Lib.hid
      ((H4.out.field (h' := { shCall pos with has := true, mod := q1, name := q2, toMod := a1 }) 6 (.string (tx a1)) rfl rfl rfl).field (h' := { shCall pos with has := true, mod := q1, name := q2, toMod := a1, «to» := a2 }) 7 (.string (tx a2)) rfl rfl rfl)
    clear H4
    go_wp2_with fail
    refine (psr_expect w0 _ b L s4 [40] H6.out.r (by decide)).mono ?_
    rintro e7 w7 hr
    rcases H6.out.out hr with ⟨h7, hv, X7⟩ | ⟨h7, rfl, X7⟩
    case inr =>
      have hR := HR4.out
      rw [(HLG.out (wantT L s4 [40])).err h7] at hR
      have hR := Lib.hid hR
      clear hr
      go_wp2_with fail
      rw [← hR.out]
      exact ⟨rfl, .inr ⟨h7, rfl, X7.out⟩⟩
    obtain rfl : e7 = _ := hv
    have H7 := Lib.hid X7.out.1
    clear hr X7 H6 k6 k7 f6 f7
    go_wp2_with fail
    refine (clist_args w0 _ b L (wantT L s4 [40]) [41] H7.out.r (by decide) (by decide)).mono ?_
    obtain ⟨⟨g1, s8⟩, hq8⟩ : ∃ q, listT L (exprN L) (wantT L s4 [40]) [41] = q := ⟨_, rfl⟩
    have hR := HR4.out
    rw [hq8] at hR ⊢
    have HR8 := Lib.hid hR
    clear hR hq8 HR4
    rintro e8 w8 hr
    rcases H7.out.out hr with ⟨h8, hv, X8⟩ | ⟨h8, rfl, X8⟩
    case inr =>
      clear hr
      go_wp2_with fail
      rw [← HR8.out]
      exact ⟨rfl, .inr ⟨h8, rfl, X8.out⟩⟩
    obtain ⟨ao, m, c, rfl, hn⟩ := hv
    have H8 := X8.out.1
    have k9 := H8.cell 9 _ rfl
    have f9 := H8.free 9
    have H9 : Hid (SvAt w0 w (w8.setCell ⟨S, 9, none⟩ (.slice ao m c)) b L S { shCall pos with has := true, mod := q1, name := q2, toMod := a1, «to» := a2, args := g1 } (.slice none 0 0) (.slice ao m c) s8) := Lib.hid
      (H8.put 9 (.slice ao m c) rfl ⟨0, RowsP.nil _ _ _ _⟩ ⟨m, RowsP.chg hn (Chg.refl [] _) (fun _ _ h => by cases h) (fun k hk => ⟨Nat.le_trans H7.out.c.size hk.1, hk.2⟩) (ArgV.chg (Chg.refl [] _) (fun _ _ h => by cases h) (fun k hk => ⟨Nat.le_trans H7.out.c.size hk.1, hk.2⟩))⟩)
    clear hr hn H8 X8 H7
    go_wp2_with fail
    go_end0
    rw [← HR8.out]
    exact .inl ⟨h8, rfl, _, _, H9.out⟩
  | false =>
    rw [takeT, hB, if_neg (by simp)] at X2
    have hR := HR.out
    rw [hB] at hR
    simp only [Bool.false_eq_true, if_false] at hR
    have H2 := Lib.hid (H1.out.keep X2.out.1 X2.out.2)
    have HR2 := Lib.hid hR
    clear hB X2 H1 HR hR
    have k6 := H2.out.cell 6 _ rfl
    have k7 := H2.out.cell 7 _ rfl
    have f6 := H2.out.free 6
    have f7 := H2.out.free 7
    have H6 : Hid (SvAt w0 w ((w2.setCell ⟨S, 6, none⟩ (.string (tx q1))).setCell ⟨S, 7, none⟩ (.string (tx q2))) b L S { shCall pos with toMod := q1, «to» := q2 } (.slice none 0 0) (.slice none 0 0) s1) := Lib.hid
      ((H2.out.field (h' := { shCall pos with toMod := q1 }) 6 (.string (tx q1)) rfl rfl rfl).field (h' := { shCall pos with toMod := q1, «to» := q2 }) 7 (.string (tx q2)) rfl rfl rfl)
    clear H2
    go_wp2_with fail
    refine (psr_expect w0 _ b L s1 [40] H6.out.r (by decide)).mono ?_
    rintro e7 w7 hr
    rcases H6.out.out hr with ⟨h7, hv, X7⟩ | ⟨h7, rfl, X7⟩
    case inr =>
      have hR := HR2.out
      rw [(HLG.out (wantT L s1 [40])).err h7] at hR
      have hR := Lib.hid hR
      clear hr
      go_wp2_with fail
      rw [← hR.out]
      exact ⟨rfl, .inr ⟨h7, rfl, X7.out⟩⟩
    obtain rfl : e7 = _ := hv
    have H7 := Lib.hid X7.out.1
    clear hr X7 H6 k6 k7 f6 f7
    go_wp2_with fail
    refine (clist_args w0 _ b L (wantT L s1 [40]) [41] H7.out.r (by decide) (by decide)).mono ?_
    obtain ⟨⟨g1, s8⟩, hq8⟩ : ∃ q, listT L (exprN L) (wantT L s1 [40]) [41] = q := ⟨_, rfl⟩
    have hR := HR2.out
    rw [hq8] at hR ⊢
    have HR8 := Lib.hid hR
    clear hR hq8 HR2
    rintro e8 w8 hr
    rcases H7.out.out hr with ⟨h8, hv, X8⟩ | ⟨h8, rfl, X8⟩
    case inr =>
      clear hr
      go_wp2_with fail
      rw [← HR8.out]
      exact ⟨rfl, .inr ⟨h8, rfl, X8.out⟩⟩
    obtain ⟨ao, m, c, rfl, hn⟩ := hv
    have H8 := X8.out.1
    have k9 := H8.cell 9 _ rfl
    have f9 := H8.free 9
    have H9 : Hid (SvAt w0 w (w8.setCell ⟨S, 9, none⟩ (.slice ao m c)) b L S { shCall pos with toMod := q1, «to» := q2, args := g1 } (.slice none 0 0) (.slice ao m c) s8) := Lib.hid
      (H8.put 9 (.slice ao m c) rfl ⟨0, RowsP.nil _ _ _ _⟩ ⟨m, RowsP.chg hn (Chg.refl [] _) (fun _ _ h => by cases h) (fun k hk => ⟨Nat.le_trans H7.out.c.size hk.1, hk.2⟩) (ArgV.chg (Chg.refl [] _) (fun _ _ h => by cases h) (fun k hk => ⟨Nat.le_trans H7.out.c.size hk.1, hk.2⟩))⟩)
    clear hr hn H8 X8 H7
    go_wp2_with fail
    go_end0
    rw [← HR8.out]
    exact .inl ⟨h8, rfl, _, _, H9.out⟩

end Go.Proofs.YtfcfbdemfbkgmaaDoor
