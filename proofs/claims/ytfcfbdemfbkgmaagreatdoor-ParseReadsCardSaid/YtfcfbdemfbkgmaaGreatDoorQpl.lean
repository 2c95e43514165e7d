/- The code's simple: a statement without a block. Made by wip/tools/gensimple.py. Numbers and types by name. -/
import Derived.Test.YtfcfbdemfbkgmaaGreatDoorQpj
import Derived.Test.YtfcfbdemfbkgmaaGreatDoorPbd
/- The code's value and call; a statement's block that is filled in. Numbers and types by name. -/
namespace Go.Proofs.YtfcfbdemfbkgmaaGreatDoor
open Go.RowKit Go.Lib
set_option maxRecDepth 100000

def valueT (L : List Tk) (s : PS) : List Nd × PS := exprN L (wantT L s [61])
theorem value_goes {L : List Tk} (hL : TokL L) (s : PS) : Goes L s (valueT L s).2 := (want_goes hL _ _).trans (exprN_goes hL _)
theorem psr_value (w0 w : World) (b : Nat) (L : List Tk) (s : PS) (h : Psr w0 w b L s) :
    Calls Tryz.prog 150 #[.pointer (some ⟨b, 0, none⟩)] w (Ends w0 w b L (valueT L s).2 (NdsC w (valueT L s).1)) := by
  have P := psr_expect w0 w b L s [61] h (by decide)
  have HS := Lib.hid (StC.of h)
  have hok := h.ok
  unfold valueT
  have E := Lib.hid (fun w1 h1 => psr_expr w0 w1 b L (wantT L s [61]) h1)
  have hgo := exprN_goes hok (wantT L s [61])
  generalize exprN L (wantT L s [61]) = R at *
  generalize wantT L s [61] = s1 at *
  have HG := Lib.hid hgo
  clear h hgo
  go_enter Tryz.func150, Tryz.ntmps150
  go_wp2_with fail
  refine P.mono ?_
  rintro e1 w1 hr
  rcases HS.out.out hr with ⟨h0, hv, X⟩ | ⟨h0, rfl, X⟩
  case inr =>
    clear hr P
    go_wp2_with fail
    rw [HG.out.err h0]
    exact ⟨rfl, X.out, .inr ⟨h0, rfl⟩⟩
  obtain rfl : e1 = _ := hv
  clear hr P HG
  go_wp2_with fail
  refine (E.out w1 X.out.1.r).mono ?_
  rintro e2 w2 hr
  rcases X.out.1.out hr with ⟨h2, hv, X2⟩ | ⟨h2, rfl, X2⟩
  case inr =>
    clear hr E
    go_wp2_with fail
    exact ⟨rfl, X2.out, .inr ⟨h2, rfl⟩⟩
  obtain ⟨ao, m, c, rfl, hm, hn⟩ := hv
  have HF := Lib.hid (show Ends w0 w b L R.2 (NdsC w R.1) (.returned (.slice ao m c)) w2 from ⟨X2.out.1.c, .inl ⟨h2, X2.out.1.r, ao, m, c, rfl, hm, hn.chg (Chg.refl [] _) (fun _ _ h => by cases h) (fun k hk => ⟨Nat.le_trans X.out.1.c.size hk.1, hk.2⟩)⟩⟩)
  clear hr E hn hm X2
  go_wp2_with fail
  go_ret
  exact HF.out

/-- A statement's block that is filled in: the state, the block, its parts. -/
structure SvAt (w0 w wr : World) (b : Nat) (L : List Tk) (S : Nat) (h : SH) (vE vA : Value) (s : PS) : Prop where
  r : Psr w0 wr b L s
  c : Chg [b, S] w wr
  z : SBlk wr S h vE vA (.slice none 0 0) (.slice none 0 0)
  e : ∃ nE, NodesP wr (NewW w wr) vE nE h.e
  a : ∃ nA, ArgsP wr (NewW w wr) vA nA h.args
  nb : b < S
  sw : S < w.heap.size
variable {w0 w wr : World} {b : Nat} {L : List Tk} {S : Nat} {h : SH} {vE vA : Value} {s : PS}
theorem SvAt.keep {w1 : World} {s1 : PS} (H : SvAt w0 w wr b L S h vE vA s) (hr : Psr w0 w1 b L s1) (hc : Chg [b] wr w1) : SvAt w0 w w1 b L S h vE vA s1 := by
  obtain ⟨nE, he⟩ := H.e
  obtain ⟨nA, ha⟩ := H.a
  have hb := H.nb
  have hs := H.sw
  have hP : ∀ k, NewW w wr k → k ∉ [b] := fun k hk hm => by rw [List.mem_singleton] at hm; have := hk.1; omega
  have hQ : ∀ k, NewW w wr k → NewW w w1 k := fun k hk => ⟨hk.1, Nat.lt_of_lt_of_le hk.2 hc.size⟩
  exact ⟨hr, H.c.trans (hc.mono (fun x hx => by rw [List.mem_singleton] at hx; rw [hx]; exact List.mem_cons_self ..)), H.z.chg hc (by rw [List.mem_singleton]; omega), ⟨nE, he.chg hc hP hQ⟩, ⟨nA, ha.chg hc hP hQ⟩, hb, hs⟩
theorem SvAt.alloc (H : SvAt w0 w wr b L S h vE vA s) (o : Obj) : SvAt w0 w (wr.alloc o) b L S h vE vA s := H.keep (H.r.chg ((Chg.refl [] wr).alloc o) (fun x hx => by cases hx)) ((Chg.refl [b] wr).alloc o)
theorem SvAt.drew (H : SvAt w0 w wr b L S h vE vA s) : SvAt w0 w wr.drew b L S h vE vA s := H.keep (H.r.chg ((Chg.refl [] wr).drew) (fun x hx => by cases hx)) ((Chg.refl [b] wr).drew)
theorem SvAt.put {h' : SH} {vE' vA' : Value} (H : SvAt w0 w wr b L S h vE vA s) (j : Nat) (v : Value) (e : (stmHead h vE vA (.slice none 0 0) (.slice none 0 0)).toArray.setIfInBounds j v = (stmHead h' vE' vA' (.slice none 0 0) (.slice none 0 0)).toArray)
    (he : ∃ nE, NodesP wr (NewW w wr) vE' nE h'.e) (ha : ∃ nA, ArgsP wr (NewW w wr) vA' nA h'.args) : SvAt w0 w (wr.setCell ⟨S, j, none⟩ v) b L S h' vE' vA' s := by
  have hc : Chg [S] wr (wr.setCell ⟨S, j, none⟩ v) := (Chg.refl [S] wr).set (.inl (by simp)) j v
  have hb := H.nb
  have hs := H.sw
  have hP : ∀ k, NewW w wr k → k ∉ [S] := fun k hk hm => by rw [List.mem_singleton] at hm; have := hk.1; omega
  have hQ : ∀ k, NewW w wr k → NewW w (wr.setCell ⟨S, j, none⟩ v) k := fun k hk => ⟨hk.1, Nat.lt_of_lt_of_le hk.2 hc.size⟩
  obtain ⟨nE, he⟩ := he
  obtain ⟨nA, ha⟩ := ha
  exact ⟨H.r.chg hc (fun y hy => by rw [List.mem_singleton] at hy; rw [hy]; exact hb), H.c.trans (hc.mono (fun x hx => by rw [List.mem_singleton] at hx; rw [hx]; simp)), H.z.set j v e, ⟨nE, he.chg hc hP hQ⟩, ⟨nA, ha.chg hc hP hQ⟩, hb, hs⟩
/-- A field that is no list. -/
theorem SvAt.field {h' : SH} (H : SvAt w0 w wr b L S h vE vA s) (j : Nat) (v : Value) (e : (stmHead h vE vA (.slice none 0 0) (.slice none 0 0)).toArray.setIfInBounds j v = (stmHead h' vE vA (.slice none 0 0) (.slice none 0 0)).toArray) (h1 : h'.e = h.e) (h2 : h'.args = h.args) : SvAt w0 w (wr.setCell ⟨S, j, none⟩ v) b L S h' vE vA s :=
  H.put j v e (by rw [h1]; exact H.e) (by rw [h2]; exact H.a)
theorem SvAt.cell (H : SvAt w0 w wr b L S h vE vA s) (j : Nat) (v : Value) (hj : (stmHead h vE vA (.slice none 0 0) (.slice none 0 0))[j]? = some v) : wr.cell? ⟨S, j, none⟩ = some v := H.z.cell j v hj
theorem SvAt.free (H : SvAt w0 w wr b L S h vE vA s) (j : Nat) : wr.frozen? ⟨S, j, none⟩ = false := H.z.free j
/-- What filling it in leaves. -/
def SvEnd (w0 w : World) (b : Nat) (L : List Tk) (S : Nat) (r : SH × PS) (e : Ending) (w' : World) : Prop :=
  (r.2.e = 0 ∧ e = .returned (.tuple #[]) ∧ ∃ vE vA, SvAt w0 w w' b L S r.1 vE vA r.2) ∨ (r.2.e ≠ 0 ∧ e = Pnk r.2 ∧ Chg [b, S] w w')
theorem SvAt.out {w1 : World} {s1 : PS} {V : World → Ending → Prop} {e : Ending} (H : SvAt w0 w wr b L S h vE vA s) (k : Ends w0 wr b L s1 V e w1) : (s1.e = 0 ∧ V w1 e ∧ Hid (SvAt w0 w w1 b L S h vE vA s1 ∧ Chg [b] wr w1)) ∨ (s1.e ≠ 0 ∧ e = Pnk s1 ∧ Hid (Chg [b, S] w w1)) := by
  obtain ⟨hc, ⟨h0, h1, h2⟩ | ⟨h0, h1⟩⟩ := k
  · exact .inl ⟨h0, h2, Lib.hid ⟨H.keep h1 hc, hc⟩⟩
  · exact .inr ⟨h0, h1, Lib.hid (H.c.trans (hc.mono (fun x hx => by rw [List.mem_singleton] at hx; rw [hx]; exact List.mem_cons_self ..)))⟩
theorem SvAt.first {h0 : SH} (hr : Psr w0 w b L s) (hz : SBlk w S h0 (.slice none 0 0) (.slice none 0 0) (.slice none 0 0) (.slice none 0 0)) (he : h0.e = []) (ha : h0.args = []) (hb : b < S) : SvAt w0 w w b L S h0 (.slice none 0 0) (.slice none 0 0) s :=
  ⟨hr, Chg.refl _ _, hz, ⟨0, by rw [he]; exact RowsP.nil _ _ _ _⟩, ⟨0, by rw [ha]; exact RowsP.nil _ _ _ _⟩, hb, hz.lt⟩

def shCall (pos : Nat) : SH := { sh0 pos with kind := 4 }
set_option maxHeartbeats 2000000 in
theorem psr_call (w0 w : World) (b : Nat) (L : List Tk) (s : PS) (S pos : Nat) (hr : Psr w0 w b L s) (hz : SBlk w S (shCall pos) (.slice none 0 0) (.slice none 0 0) (.slice none 0 0) (.slice none 0 0)) (hb : b < S) :
    Calls Tryz.prog 151 #[.pointer (some ⟨b, 0, none⟩), .pointer (some ⟨S, 0, none⟩)] w (SvEnd w0 w b L S (callT L s pos)) := by
  have P := psr_qname w0 w b L s hr
  have H0 := Lib.hid (SvAt.first hr hz rfl rfl hb)
  have hok := hr.ok
  obtain ⟨R, hR⟩ : ∃ R, callT L s pos = R := ⟨_, rfl⟩
  rw [hR]
  unfold callT at hR
  simp only at hR
  obtain ⟨⟨⟨q1, q2⟩, s1⟩, hq⟩ : ∃ q, qnameT L s = q := ⟨_, rfl⟩
  rw [hq] at P hR
  simp only at P hR
  have HR := Lib.hid hR
  have HK := Lib.hid hok
  clear hr hz hR hq hok
  go_enter Tryz.func151, Tryz.ntmps151
  go_wp2_with fail
  refine P.mono ?_
  rintro e1 w1 hr
  have hL := fun s => list_goes HK.out (exprN_goes HK.out) s [41]
  rcases H0.out.out hr with ⟨h0, hv, X⟩ | ⟨h0, rfl, X⟩
  case inr =>
    have hR := HR.out
    rw [isT_err h0] at hR
    simp only [Bool.false_eq_true, if_false] at hR
    rw [want_err h0, (hL s1).err h0] at hR
    have hR := Lib.hid hR
    clear hr P hL
    go_wp2_with fail
    rw [← hR.out]
    exact ⟨rfl, .inr ⟨h0, rfl, X.out⟩⟩
  obtain rfl : e1 = _ := hv
  have H1 := Lib.hid X.out.1
  have HLG := Lib.hid hL
  clear hr P X H0 hL
  go_wp2_with fail
  refine (psr_accept w0 w1 b L s1 [61] H1.out.r (by decide)).mono ?_
  rintro e2 w2 hr
  obtain ⟨rfl, X2⟩ := hr.out1
  clear hr
  cases hB : isT L s1 [61] with
  | true =>
    rw [takeT, if_pos hB] at X2
    have hR := HR.out
    rw [hB] at hR
    simp only [if_true] at hR
    have H2 := Lib.hid (H1.out.keep X2.out.1 X2.out.2)
    have HR2 := Lib.hid hR
    clear hB X2 H1 HR hR
    have k5 := H2.out.cell 5 _ rfl
    have k2 := H2.out.cell 2 _ rfl
    have k3 := H2.out.cell 3 _ rfl
    have f5 := H2.out.free 5
    have f2 := H2.out.free 2
    have f3 := H2.out.free 3
    have H3 : Hid (SvAt w0 w (((w2.setCell ⟨S, 5, none⟩ (.bool true)).setCell ⟨S, 2, none⟩ (.string (tx q1))).setCell ⟨S, 3, none⟩ (.string (tx q2))) b L S { shCall pos with has := true, mod := q1, name := q2 } (.slice none 0 0) (.slice none 0 0) s1.go) := Lib.hid
      (((H2.out.field (h' := { shCall pos with has := true }) 5 (.bool true) rfl rfl rfl).field (h' := { shCall pos with has := true, mod := q1 }) 2 (.string (tx q1)) rfl rfl rfl).field (h' := { shCall pos with has := true, mod := q1, name := q2 }) 3 (.string (tx q2)) rfl rfl rfl)
    clear H2
    go_wp2_with fail
    refine (psr_qname w0 _ b L s1.go H3.out.r).mono ?_
    obtain ⟨⟨⟨a1, a2⟩, s4⟩, hq4⟩ : ∃ q, qnameT L s1.go = q := ⟨_, rfl⟩
    have hR := HR2.out
    rw [hq4] at hR ⊢
    have HR4 := Lib.hid hR
    clear hR hq4 HR2
    rintro e4 w4 hr
    rcases H3.out.out hr with ⟨h4, hv, X4⟩ | ⟨h4, rfl, X4⟩
    case inr =>
      have hR := HR4.out
      simp only at hR
      rw [want_err h4, (HLG.out s4).err h4] at hR
      have hR := Lib.hid hR
      clear hr
      go_wp2_with fail
      rw [← hR.out]
      exact ⟨rfl, .inr ⟨h4, rfl, X4.out⟩⟩
    obtain rfl : e4 = _ := hv
    have H4 := Lib.hid X4.out.1
    clear hr X4 H3 k5 k2 k3 f5 f2 f3
    have k6 := H4.out.cell 6 _ rfl
    have k7 := H4.out.cell 7 _ rfl
    have f6 := H4.out.free 6
    have f7 := H4.out.free 7
    have H6 : Hid (SvAt w0 w ((w4.setCell ⟨S, 6, none⟩ (.string (tx a1))).setCell ⟨S, 7, none⟩ (.string (tx a2))) b L S { shCall pos with has := true, mod := q1, name := q2, toMod := a1, «to» := a2 } (.slice none 0 0) (.slice none 0 0) s4) := Lib.hid
      ((H4.out.field (h' := { shCall pos with has := true, mod := q1, name := q2, toMod := a1 }) 6 (.string (tx a1)) rfl rfl rfl).field (h' := { shCall pos with has := true, mod := q1, name := q2, toMod := a1, «to» := a2 }) 7 (.string (tx a2)) rfl rfl rfl)
    clear H4
    go_wp2_with fail
    refine (psr_expect w0 _ b L s4 [40] H6.out.r (by decide)).mono ?_
    rintro e7 w7 hr
    rcases H6.out.out hr with ⟨h7, hv, X7⟩ | ⟨h7, rfl, X7⟩
    case inr =>
      have hR := HR4.out
      rw [(HLG.out (wantT L s4 [40])).err h7] at hR
      have hR := Lib.hid hR
      clear hr
      go_wp2_with fail
      rw [← hR.out]
      exact ⟨rfl, .inr ⟨h7, rfl, X7.out⟩⟩
    obtain rfl : e7 = _ := hv
    have H7 := Lib.hid X7.out.1
    clear hr X7 H6 k6 k7 f6 f7
    go_wp2_with fail
    refine (clist_args w0 _ b L (wantT L s4 [40]) [41] H7.out.r (by decide) (by decide)).mono ?_
    obtain ⟨⟨g1, s8⟩, hq8⟩ : ∃ q, listT L (exprN L) (wantT L s4 [40]) [41] = q := ⟨_, rfl⟩
    have hR := HR4.out
    rw [hq8] at hR ⊢
    have HR8 := Lib.hid hR
    clear hR hq8 HR4
    rintro e8 w8 hr
    rcases H7.out.out hr with ⟨h8, hv, X8⟩ | ⟨h8, rfl, X8⟩
    case inr =>
      clear hr
      go_wp2_with fail
      rw [← HR8.out]
      exact ⟨rfl, .inr ⟨h8, rfl, X8.out⟩⟩
    obtain ⟨ao, m, c, rfl, hn⟩ := hv
    have H8 := X8.out.1
    have k9 := H8.cell 9 _ rfl
    have f9 := H8.free 9
    have H9 : Hid (SvAt w0 w (w8.setCell ⟨S, 9, none⟩ (.slice ao m c)) b L S { shCall pos with has := true, mod := q1, name := q2, toMod := a1, «to» := a2, args := g1 } (.slice none 0 0) (.slice ao m c) s8) := Lib.hid
      (H8.put 9 (.slice ao m c) rfl ⟨0, RowsP.nil _ _ _ _⟩ ⟨m, RowsP.chg hn (Chg.refl [] _) (fun _ _ h => by cases h) (fun k hk => ⟨Nat.le_trans H7.out.c.size hk.1, hk.2⟩) (ArgV.chg (Chg.refl [] _) (fun _ _ h => by cases h) (fun k hk => ⟨Nat.le_trans H7.out.c.size hk.1, hk.2⟩))⟩)
    clear hr hn H8 X8 H7
    go_wp2_with fail
    go_end0
    rw [← HR8.out]
    exact .inl ⟨h8, rfl, _, _, H9.out⟩
  | false =>
    rw [takeT, hB, if_neg (by simp)] at X2
    have hR := HR.out
    rw [hB] at hR
    simp only [Bool.false_eq_true, if_false] at hR
    have H2 := Lib.hid (H1.out.keep X2.out.1 X2.out.2)
    have HR2 := Lib.hid hR
    clear hB X2 H1 HR hR
    have k6 := H2.out.cell 6 _ rfl
    have k7 := H2.out.cell 7 _ rfl
    have f6 := H2.out.free 6
    have f7 := H2.out.free 7
    have H6 : Hid (SvAt w0 w ((w2.setCell ⟨S, 6, none⟩ (.string (tx q1))).setCell ⟨S, 7, none⟩ (.string (tx q2))) b L S { shCall pos with toMod := q1, «to» := q2 } (.slice none 0 0) (.slice none 0 0) s1) := Lib.hid
      ((H2.out.field (h' := { shCall pos with toMod := q1 }) 6 (.string (tx q1)) rfl rfl rfl).field (h' := { shCall pos with toMod := q1, «to» := q2 }) 7 (.string (tx q2)) rfl rfl rfl)
    clear H2
    go_wp2_with fail
    refine (psr_expect w0 _ b L s1 [40] H6.out.r (by decide)).mono ?_
    rintro e7 w7 hr
    rcases H6.out.out hr with ⟨h7, hv, X7⟩ | ⟨h7, rfl, X7⟩
    case inr =>
      have hR := HR2.out
      rw [(HLG.out (wantT L s1 [40])).err h7] at hR
      have hR := Lib.hid hR
      clear hr
      go_wp2_with fail
      rw [← hR.out]
      exact ⟨rfl, .inr ⟨h7, rfl, X7.out⟩⟩
    obtain rfl : e7 = _ := hv
    have H7 := Lib.hid X7.out.1
    clear hr X7 H6 k6 k7 f6 f7
    go_wp2_with fail
    refine (clist_args w0 _ b L (wantT L s1 [40]) [41] H7.out.r (by decide) (by decide)).mono ?_
    obtain ⟨⟨g1, s8⟩, hq8⟩ : ∃ q, listT L (exprN L) (wantT L s1 [40]) [41] = q := ⟨_, rfl⟩
    have hR := HR2.out
    rw [hq8] at hR ⊢
    have HR8 := Lib.hid hR
    clear hR hq8 HR2
    rintro e8 w8 hr
    rcases H7.out.out hr with ⟨h8, hv, X8⟩ | ⟨h8, rfl, X8⟩
    case inr =>
      clear hr
      go_wp2_with fail
      rw [← HR8.out]
      exact ⟨rfl, .inr ⟨h8, rfl, X8.out⟩⟩
    obtain ⟨ao, m, c, rfl, hn⟩ := hv
    have H8 := X8.out.1
    have k9 := H8.cell 9 _ rfl
    have f9 := H8.free 9
    have H9 : Hid (SvAt w0 w (w8.setCell ⟨S, 9, none⟩ (.slice ao m c)) b L S { shCall pos with toMod := q1, «to» := q2, args := g1 } (.slice none 0 0) (.slice ao m c) s8) := Lib.hid
      (H8.put 9 (.slice ao m c) rfl ⟨0, RowsP.nil _ _ _ _⟩ ⟨m, RowsP.chg hn (Chg.refl [] _) (fun _ _ h => by cases h) (fun k hk => ⟨Nat.le_trans H7.out.c.size hk.1, hk.2⟩) (ArgV.chg (Chg.refl [] _) (fun _ _ h => by cases h) (fun k hk => ⟨Nat.le_trans H7.out.c.size hk.1, hk.2⟩))⟩)
    clear hr hn H8 X8 H7
    go_wp2_with fail
    go_end0
    rw [← HR8.out]
    exact .inl ⟨h8, rfl, _, _, H9.out⟩

end Go.Proofs.YtfcfbdemfbkgmaaGreatDoor

namespace Go.Proofs.YtfcfbdemfbkgmaaGreatDoor
open Go.RowKit Go.Lib
set_option maxRecDepth 100000

/-- A statement without a block, in the code's order. -/
def simpleT (L : List Tk) (s : PS) (pos : Nat) : SH × PS :=
  if isT L s kLet = true then letT L s.go pos
  else if isT L s kResult = true then resultT L s.go pos
  else if isT L s kCall = true then callT L s.go pos
  else if isT L s kEmit = true then emitT L s.go pos
  else if isT L s kSkip = true then ({ sh0 pos with kind := 8 }, s.go)
  else setT L s pos
theorem let_is (L : List Tk) (s : PS) (pos : Nat) : letT L s pos = ({ sh0 pos with kind := 1, name := (paramT L s).1.name, label := (paramT L s).1.label, e := (valueT L (paramT L s).2).1 }, (valueT L (paramT L s).2).2) := rfl
theorem result_is (L : List Tk) (s : PS) (pos : Nat) : resultT L s pos = ({ sh0 pos with kind := 3, e := (valueT L s).1 }, (valueT L s).2) := rfl
theorem set_is (L : List Tk) (s : PS) (pos : Nat) : setT L s pos = ({ sh0 pos with kind := 2, mod := (qnameT L s).1.1, name := (qnameT L s).1.2, e := (valueT L (qnameT L s).2).1 }, (valueT L (qnameT L s).2).2) := rfl
theorem SvAt.nodes {w0 w wr w1 : World} {b : Nat} {L : List Tk} {S : Nat} {h h' : SH} {vE vA : Value} {s s1 : PS} {ao : Option Addr} {m c : Nat} {l : List Nd} (H1 : SvAt w0 w wr b L S h vE vA s) (H : SvAt w0 w w1 b L S h vE vA s1) (hn : NodesP w1 (fun k => wr.heap.size ≤ k ∧ k < w1.heap.size) (.slice ao m c) m l)
    (e : (stmHead h vE vA (.slice none 0 0) (.slice none 0 0)).toArray.setIfInBounds 8 (.slice ao m c) = (stmHead h' (.slice ao m c) vA (.slice none 0 0) (.slice none 0 0)).toArray) (he : h'.e = l) (ha : h'.args = h.args) : SvAt w0 w (w1.setCell ⟨S, 8, none⟩ (.slice ao m c)) b L S h' (.slice ao m c) vA s1 :=
  H.put 8 (.slice ao m c) e ⟨m, by rw [he]; exact hn.chg (Chg.refl [] _) (fun _ _ h => by cases h) (fun k hk => ⟨Nat.le_trans H1.c.size hk.1, hk.2⟩)⟩ (by rw [ha]; exact H.a)

theorem SvEnd.comp {w0 w wr w1 : World} {b : Nat} {L : List Tk} {S : Nat} {r : SH × PS} {e : Ending} (h : SvEnd w0 wr b L S r e w1) (hc : Chg [b, S] w wr) (hs : S < w.heap.size) : SvEnd w0 w b L S r e w1 := by
  rcases h with ⟨h1, h2, vE, vA, H⟩ | ⟨h1, h2, h3⟩
  · obtain ⟨nE, he⟩ := H.e
    obtain ⟨nA, ha⟩ := H.a
    have hQ : ∀ k, NewW wr w1 k → NewW w w1 k := fun k hk => ⟨Nat.le_trans hc.size hk.1, hk.2⟩
    exact .inl ⟨h1, h2, vE, vA, ⟨H.r, hc.trans H.c, H.z, ⟨nE, he.chg (Chg.refl [] _) (fun _ _ h => by cases h) hQ⟩, ⟨nA, ha.chg (Chg.refl [] _) (fun _ _ h => by cases h) hQ⟩, H.nb, hs⟩⟩
  · exact .inr ⟨h1, h2, hc.trans h3⟩
set_option maxHeartbeats 4000000 in
theorem psr_simple (w0 w : World) (b : Nat) (L : List Tk) (s : PS) (S pos : Nat) (hr : Psr w0 w b L s) (hz : SBlk w S (sh0 pos) (.slice none 0 0) (.slice none 0 0) (.slice none 0 0) (.slice none 0 0)) (hb : b < S) :
    Calls Tryz.prog 131 #[.pointer (some ⟨b, 0, none⟩), .pointer (some ⟨S, 0, none⟩)] w (SvEnd w0 w b L S (simpleT L s pos)) := by
  have H0 := Lib.hid (SvAt.first hr hz rfl rfl hb)
  have hok := hr.ok
  have he := hr.e
  obtain ⟨R, hR⟩ : ∃ R, simpleT L s pos = R := ⟨_, rfl⟩
  rw [hR]
  unfold simpleT at hR
  have HR0 := Lib.hid hR
  have HK := Lib.hid (And.intro hok he)
  clear hr hz hR hok he
  go_enter Tryz.func131, Tryz.ntmps131
  go_wp2_with fail
  refine (psr_accept w0 _ b L s kLet H0.out.r (by decide)).mono ?_
  rintro eq0 w1 hr
  obtain ⟨rfl, X1⟩ := hr.out1
  clear hr
  cases hB0 : isT L s kLet with
  | true =>
    rw [takeT, if_pos hB0] at X1
    have hR := HR0.out
    rw [if_pos hB0] at hR
    have HT := Lib.hid (H0.out.keep X1.out.1 X1.out.2)
    clear hB0 X1 H0 HR0
    rw [let_is] at hR
    have HRT := Lib.hid hR
    clear hR
    go_wp2_with fail
    refine (psr_param w0 _ b L s.go HT.out.r).mono ?_
    obtain ⟨⟨⟨nm, lb, pp⟩, s21⟩, hq⟩ : ∃ q, paramT L s.go = q := ⟨_, rfl⟩
    have hR := HRT.out
    rw [hq] at hR ⊢
    have HR21 := Lib.hid hR
    clear hR hq HRT
    rintro e21 w21 hr
    change Ends _ _ _ _ _ (Ret (.agg #[.string (tx nm), .string (tx lb), .int .i64 (pp : Int)])) _ _ at hr
    rcases HT.out.out hr with ⟨h21, hv, X21⟩ | ⟨h21, rfl, X21⟩
    case inr =>
      have hR := HR21.out
      simp only at hR; rw [(value_goes HK.out.1 s21).err h21] at hR
      have hR := Lib.hid hR
      clear hr
      go_wp2_with fail
      rw [← hR.out]
      exact ⟨rfl, .inr ⟨h21, rfl, X21.out⟩⟩
    obtain rfl : e21 = _ := hv
    have hT := heap_alloc_new w21 (.cells #[.string (tx nm), .string (tx lb), .int .i64 (pp : Int)] 56)
    have H22 := X21.out.1.alloc (.cells #[.string (tx nm), .string (tx lb), .int .i64 (pp : Int)] 56)
    obtain ⟨W, hW⟩ : ∃ W, w21.alloc (.cells #[.string (tx nm), .string (tx lb), .int .i64 (pp : Int)] 56) = W := ⟨_, rfl⟩
    rw [hW] at hT H22
    have HD := Lib.hid H22
    have hTS : w21.heap.size ≠ S := by have := X21.out.1.z.lt; omega
    clear hr X21 HT
    go_upto_region 5 with fail
    generalize w21.heap.size = T at *
    have d0 : W.cell? ⟨T, 0, none⟩ = some (.string (tx nm)) := cellsN hT 0 _ rfl
    have d1 : W.cell? ⟨T, 1, none⟩ = some (.string (tx lb)) := cellsN hT 1 _ rfl
    have hST : S ≠ T := fun e => hTS e.symm
    have k0 := HD.out.cell 0 _ rfl
    have k3 := HD.out.cell 3 _ rfl
    have k4 := HD.out.cell 4 _ rfl
    have f0 := HD.out.free 0
    have f3 := HD.out.free 3
    have f4 := HD.out.free 4
    clear hT H22 hW
    have H25 : Hid (SvAt w0 w (((W.setCell ⟨S, 0, none⟩ (.int .i64 1)).setCell ⟨S, 3, none⟩ (.string (tx nm))).setCell ⟨S, 4, none⟩ (.string (tx lb))).drew b L S { sh0 pos with kind := 1, name := nm, label := lb } (.slice none 0 0) (.slice none 0 0) s21) := Lib.hid
      (((HD.out.field (h' := { sh0 pos with kind := 1 }) 0 (.int .i64 1) rfl rfl rfl).field (h' := { sh0 pos with kind := 1, name := nm }) 3 (.string (tx nm)) rfl rfl rfl).field (h' := { sh0 pos with kind := 1, name := nm, label := lb }) 4 (.string (tx lb)) rfl rfl rfl).drew
    go_region
    generalize (((W.setCell ⟨S, 0, none⟩ (.int .i64 1)).setCell ⟨S, 3, none⟩ (.string (tx nm))).setCell ⟨S, 4, none⟩ (.string (tx lb))).drew = W25 at *
    have HR25 := HR21
    clear HD d0 d1 k0 k3 k4 f0 f3 f4 HR21
    go_wp2_with fail
    refine (psr_value w0 _ b L s21 H25.out.r).mono ?_
    obtain ⟨⟨l26, s26⟩, hq26⟩ : ∃ q, valueT L s21 = q := ⟨_, rfl⟩
    have hR := HR25.out
    rw [hq26] at hR ⊢
    have HR26 := Lib.hid hR
    clear hR hq26 HR25
    rintro e26 w26 hr
    rcases H25.out.out hr with ⟨h26, hv, X26⟩ | ⟨h26, rfl, X26⟩
    case inr =>
      have hR := HR26.out
      skip
      have hR := Lib.hid hR
      clear hr
      go_wp2_with fail
      rw [← hR.out]
      exact ⟨rfl, .inr ⟨h26, rfl, X26.out⟩⟩
    obtain ⟨ao, m, c, rfl, hm, hn⟩ := hv
    have k8 := X26.out.1.cell 8 _ rfl
    have f8 := X26.out.1.free 8
    have HZ : Hid (SvAt w0 w (w26.setCell ⟨S, 8, none⟩ (.slice ao m c)) b L S { sh0 pos with kind := 1, name := nm, label := lb, e := l26 } (.slice ao m c) (.slice none 0 0) s26) := Lib.hid (H25.out.nodes X26.out.1 hn rfl rfl rfl)
    clear hr hn hm X26 H25
    go_wp2_with fail
    go_end0
    rw [← HR26.out]
    exact .inl ⟨h26, rfl, _, _, HZ.out⟩
  | false =>
    rw [takeT, hB0, if_neg (by simp)] at X1
    have hR := HR0.out
    rw [hB0, if_neg (by simp)] at hR
    have HR1 := Lib.hid hR
    have H1 := Lib.hid (H0.out.keep X1.out.1 X1.out.2)
    clear hB0 X1 H0 HR0 hR
    go_wp2_with fail
    refine (psr_accept w0 _ b L s kResult H1.out.r (by decide)).mono ?_
    rintro eq1 w2 hr
    obtain ⟨rfl, X2⟩ := hr.out1
    clear hr
    cases hB1 : isT L s kResult with
    | true =>
      rw [takeT, if_pos hB1] at X2
      have hR := HR1.out
      rw [if_pos hB1] at hR
      have HT := Lib.hid (H1.out.keep X2.out.1 X2.out.2)
      clear hB1 X2 H1 HR1
      rw [result_is] at hR
      have HR25 := Lib.hid hR
      have k0 := HT.out.cell 0 _ rfl
      have f0 := HT.out.free 0
      have H25 := Lib.hid (HT.out.field (h' := { sh0 pos with kind := 3 }) 0 (.int .i64 3) rfl rfl rfl)
      clear hR HT
      go_wp2_with fail
      refine (psr_value w0 _ b L s.go H25.out.r).mono ?_
      obtain ⟨⟨l26, s26⟩, hq26⟩ : ∃ q, valueT L s.go = q := ⟨_, rfl⟩
      have hR := HR25.out
      rw [hq26] at hR ⊢
      have HR26 := Lib.hid hR
      clear hR hq26 HR25
      rintro e26 w26 hr
      rcases H25.out.out hr with ⟨h26, hv, X26⟩ | ⟨h26, rfl, X26⟩
      case inr =>
        have hR := HR26.out
        skip
        have hR := Lib.hid hR
        clear hr
        go_wp2_with fail
        rw [← hR.out]
        exact ⟨rfl, .inr ⟨h26, rfl, X26.out⟩⟩
      obtain ⟨ao, m, c, rfl, hm, hn⟩ := hv
      have k8 := X26.out.1.cell 8 _ rfl
      have f8 := X26.out.1.free 8
      have HZ : Hid (SvAt w0 w (w26.setCell ⟨S, 8, none⟩ (.slice ao m c)) b L S { sh0 pos with kind := 3, e := l26 } (.slice ao m c) (.slice none 0 0) s26) := Lib.hid (H25.out.nodes X26.out.1 hn rfl rfl rfl)
      clear hr hn hm X26 H25
      go_wp2_with fail
      go_end0
      rw [← HR26.out]
      exact .inl ⟨h26, rfl, _, _, HZ.out⟩
    | false =>
      rw [takeT, hB1, if_neg (by simp)] at X2
      have hR := HR1.out
      rw [hB1, if_neg (by simp)] at hR
      have HR2 := Lib.hid hR
      have H2 := Lib.hid (H1.out.keep X2.out.1 X2.out.2)
      clear hB1 X2 H1 HR1 hR
      go_wp2_with fail
      refine (psr_accept w0 _ b L s kCall H2.out.r (by decide)).mono ?_
      rintro eq2 w3 hr
      obtain ⟨rfl, X3⟩ := hr.out1
      clear hr
      cases hB2 : isT L s kCall with
      | true =>
        rw [takeT, if_pos hB2] at X3
        have hR := HR2.out
        rw [if_pos hB2] at hR
        have HT := Lib.hid (H2.out.keep X3.out.1 X3.out.2)
        clear hB2 X3 H2 HR2
        have HRC := Lib.hid hR
        have k0 := HT.out.cell 0 _ rfl
        have f0 := HT.out.free 0
        have H25 := Lib.hid (HT.out.field (h' := shCall pos) 0 (.int .i64 4) rfl rfl rfl)
        clear hR HT
        go_wp2_with fail
        refine (psr_call w0 _ b L s.go S pos H25.out.r H25.out.z H25.out.nb).mono ?_
        rintro e26 w26 hr
        have hr2 := hr.comp H25.out.c H25.out.sw
        rw [HRC.out] at hr2
        clear hr
        rcases hr2 with ⟨h26, rfl, vE, vA, X26⟩ | ⟨h26, rfl, X26⟩
        · have HX := Lib.hid X26
          clear X26
          go_wp2_with fail
          go_end0
          exact .inl ⟨h26, rfl, vE, vA, HX.out⟩
        · have HX := Lib.hid X26
          clear X26
          go_wp2_with fail
          exact ⟨rfl, .inr ⟨h26, rfl, HX.out⟩⟩
      | false =>
        rw [takeT, hB2, if_neg (by simp)] at X3
        have hR := HR2.out
        rw [hB2, if_neg (by simp)] at hR
        have HR3 := Lib.hid hR
        have H3 := Lib.hid (H2.out.keep X3.out.1 X3.out.2)
        clear hB2 X3 H2 HR2 hR
        go_wp2_with fail
        refine (psr_accept w0 _ b L s kEmit H3.out.r (by decide)).mono ?_
        rintro eq3 w4 hr
        obtain ⟨rfl, X4⟩ := hr.out1
        clear hr
        cases hB3 : isT L s kEmit with
        | true =>
          rw [takeT, if_pos hB3] at X4
          have hR := HR3.out
          rw [if_pos hB3] at hR
          have HT := Lib.hid (H3.out.keep X4.out.1 X4.out.2)
          clear hB3 X4 H3 HR3
          unfold emitT at hR
          simp only at hR
          have HRC := Lib.hid hR
          have k0 := HT.out.cell 0 _ rfl
          have f0 := HT.out.free 0
          have H25 := Lib.hid (HT.out.field (h' := { sh0 pos with kind := 7 }) 0 (.int .i64 7) rfl rfl rfl)
          clear hR HT
          go_wp2_with fail
          refine (psr_name w0 _ b L s.go H25.out.r).mono ?_
          obtain ⟨⟨nm, s26⟩, hq⟩ : ∃ q, nameT L s.go = q := ⟨_, rfl⟩
          have hR := HRC.out
          rw [hq] at hR ⊢
          have HR26 := Lib.hid hR
          clear hR hq HRC
          rintro e26 w26 hr
          rcases H25.out.out hr with ⟨h26, hv, X26⟩ | ⟨h26, rfl, X26⟩
          case inr =>
            have hR := HR26.out
            skip
            have hR := Lib.hid hR
            clear hr
            go_wp2_with fail
            rw [← hR.out]
            exact ⟨rfl, .inr ⟨h26, rfl, X26.out⟩⟩
          obtain rfl : e26 = _ := hv
          have k3 := X26.out.1.cell 3 _ rfl
          have f3 := X26.out.1.free 3
          have HZ : Hid (SvAt w0 w (w26.setCell ⟨S, 3, none⟩ (.string (tx nm))) b L S { sh0 pos with kind := 7, name := nm } (.slice none 0 0) (.slice none 0 0) s26) := Lib.hid (X26.out.1.field 3 (.string (tx nm)) rfl rfl rfl)
          clear hr X26 H25 k0 f0
          go_wp2_with fail
          go_end0
          rw [← HR26.out]
          exact .inl ⟨h26, rfl, _, _, HZ.out⟩
        | false =>
          rw [takeT, hB3, if_neg (by simp)] at X4
          have hR := HR3.out
          rw [hB3, if_neg (by simp)] at hR
          have HR4 := Lib.hid hR
          have H4 := Lib.hid (H3.out.keep X4.out.1 X4.out.2)
          clear hB3 X4 H3 HR3 hR
          go_wp2_with fail
          refine (psr_accept w0 _ b L s kSkip H4.out.r (by decide)).mono ?_
          rintro eq4 w5 hr
          obtain ⟨rfl, X5⟩ := hr.out1
          clear hr
          cases hB4 : isT L s kSkip with
          | true =>
            rw [takeT, if_pos hB4] at X5
            have hR := HR4.out
            rw [if_pos hB4] at hR
            have HT := Lib.hid (H4.out.keep X5.out.1 X5.out.2)
            clear hB4 X5 H4 HR4
            have k0 := HT.out.cell 0 _ rfl
            have f0 := HT.out.free 0
            have HZ : Hid (SvAt w0 w _ b L S { sh0 pos with kind := 8 } (.slice none 0 0) (.slice none 0 0) s.go) := Lib.hid (HT.out.field (h' := { sh0 pos with kind := 8 }) 0 (.int .i64 8) rfl rfl rfl)
            have HR26 := Lib.hid hR
            clear HT hR
            go_wp2_with fail
            go_end0
            rw [← HR26.out]
            exact .inl ⟨HK.out.2, rfl, _, _, HZ.out⟩
          | false =>
            rw [takeT, hB4, if_neg (by simp)] at X5
            have hR := HR4.out
            rw [hB4, if_neg (by simp)] at hR
            have HR5 := Lib.hid hR
            have H5 := Lib.hid (H4.out.keep X5.out.1 X5.out.2)
            clear hB4 X5 H4 HR4 hR
            have hR := HR5.out
            rw [set_is] at hR
            have HRC := Lib.hid hR
            have k0 := H5.out.cell 0 _ rfl
            have f0 := H5.out.free 0
            have H25 := Lib.hid (H5.out.field (h' := { sh0 pos with kind := 2 }) 0 (.int .i64 2) rfl rfl rfl)
            clear hR H5 HR5
            go_wp2_with fail
            refine (psr_qname w0 _ b L s H25.out.r).mono ?_
            obtain ⟨⟨⟨q1, q2⟩, s26⟩, hq⟩ : ∃ q, qnameT L s = q := ⟨_, rfl⟩
            have hR := HRC.out
            rw [hq] at hR ⊢
            have HR26 := Lib.hid hR
            clear hR hq HRC
            rintro e26 w26 hr
            rcases H25.out.out hr with ⟨h26, hv, X26⟩ | ⟨h26, rfl, X26⟩
            case inr =>
              have hR := HR26.out
              simp only at hR; rw [(value_goes HK.out.1 s26).err h26] at hR
              have hR := Lib.hid hR
              clear hr
              go_wp2_with fail
              rw [← hR.out]
              exact ⟨rfl, .inr ⟨h26, rfl, X26.out⟩⟩
            obtain rfl : e26 = _ := hv
            have k2 := X26.out.1.cell 2 _ rfl
            have f2 := X26.out.1.free 2
            have k3 := X26.out.1.cell 3 _ rfl
            have f3 := X26.out.1.free 3
            have H27 : Hid (SvAt w0 w ((w26.setCell ⟨S, 2, none⟩ (.string (tx q1))).setCell ⟨S, 3, none⟩ (.string (tx q2))) b L S { sh0 pos with kind := 2, mod := q1, name := q2 } (.slice none 0 0) (.slice none 0 0) s26) := Lib.hid
              ((X26.out.1.field (h' := { sh0 pos with kind := 2, mod := q1 }) 2 (.string (tx q1)) rfl rfl rfl).field (h' := { sh0 pos with kind := 2, mod := q1, name := q2 }) 3 (.string (tx q2)) rfl rfl rfl)
            have HR27 := HR26
            clear hr X26 H25 k0 f0 HR26
            go_wp2_with fail
            refine (psr_value w0 _ b L s26 H27.out.r).mono ?_
            obtain ⟨⟨l28, s28⟩, hq28⟩ : ∃ q, valueT L s26 = q := ⟨_, rfl⟩
            have hR := HR27.out
            rw [hq28] at hR ⊢
            have HR28 := Lib.hid hR
            clear hR hq28 HR27
            rintro e28 w28 hr
            rcases H27.out.out hr with ⟨h28, hv, X28⟩ | ⟨h28, rfl, X28⟩
            case inr =>
              have hR := HR28.out
              skip
              have hR := Lib.hid hR
              clear hr
              go_wp2_with fail
              rw [← hR.out]
              exact ⟨rfl, .inr ⟨h28, rfl, X28.out⟩⟩
            obtain ⟨ao, m, c, rfl, hm, hn⟩ := hv
            have k8 := X28.out.1.cell 8 _ rfl
            have f8 := X28.out.1.free 8
            have HZ : Hid (SvAt w0 w (w28.setCell ⟨S, 8, none⟩ (.slice ao m c)) b L S { sh0 pos with kind := 2, mod := q1, name := q2, e := l28 } (.slice ao m c) (.slice none 0 0) s28) := Lib.hid (H27.out.nodes X28.out.1 hn rfl rfl rfl)
            clear hr hn hm X28 H27
            go_wp2_with fail
            go_end0
            rw [← HR28.out]
            exact .inl ⟨h28, rfl, _, _, HZ.out⟩

end Go.Proofs.YtfcfbdemfbkgmaaGreatDoor
