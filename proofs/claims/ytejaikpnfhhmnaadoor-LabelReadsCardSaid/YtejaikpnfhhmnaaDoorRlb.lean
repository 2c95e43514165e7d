/- The reference's Labels. Numbers and types by name. -/
import Derived.Test.YtejaikpnfhhmnaaDoorRpa
import Derived.OwnWalk
import Derived.Deep.Cut
import Derived.Deep.CutBlock
import Derived.Deep.CutRange
namespace Go.Proofs.YtejaikpnfhhmnaaDoor
open Go.RowKit Go.Lib
set_option maxRecDepth 100000

/-- Labels under way. -/
structure LbAt (w0 w3 wr : World) (b n : Nat) (vl : Value) (L : List Tk) (v : Value) (m : Nat) (acc : List Par) (s : PS) : Prop where
  r : Rdr w0 wr b n vl L s
  c : Chg [b] w3 wr
  o : wr.ownsRow w3.heap.size 50 3 v m (parsV acc)
  l : m = acc.length
  bw : b < w3.heap.size
theorem LbAt.apart {w0 w3 wr : World} {b n : Nat} {vl : Value} {L : List Tk} {v : Value} {m : Nat} {acc : List Par} {s : PS} (H : LbAt w0 w3 wr b n vl L v m acc s) {k : Nat} (hk : v.ownBlock = some k) : w3.heap.size ≤ k ∧ k < wr.heap.size := by
  rcases H.o.2 with ⟨rfl, _⟩ | ⟨g, cap, cur, rfl, hb, hg, _⟩
  · cases hk
  · cases hk
    exact ⟨hb, (Array.getElem?_eq_some_iff.1 hg).1⟩
theorem LbAt.keep {w0 w3 wr w1 : World} {b n : Nat} {vl : Value} {L : List Tk} {v : Value} {m : Nat} {acc : List Par} {s s1 : PS} (H : LbAt w0 w3 wr b n vl L v m acc s) (hr : Rdr w0 w1 b n vl L s1) (hc : Chg [b] wr w1) : LbAt w0 w3 w1 b n vl L v m acc s1 :=
  ⟨hr, H.c.trans hc, owns_chg H.o hc (fun k hk hm => by
    have := (H.apart hk).1
    have := H.bw
    simp only [List.mem_singleton] at hm
    omega), H.l, H.bw⟩
theorem LbAt.add {w0 w3 wr w7 : World} {b n : Nat} {vl : Value} {L : List Tk} {v : Value} {m c7 : Nat} {ao7 : Option Addr} {acc : List Par} {s : PS} {o : Obj} (a : Par) (H : LbAt w0 w3 wr b n vl L v m acc s) (h7 : w7.ownsRow w3.heap.size 50 3 (.slice ao7 (m + 1) c7) (m + 1) (parsV acc ++ parV a)) (hg : (wr.alloc o).grownBy w7 v.ownBlock) : LbAt w0 w3 w7 b n vl L (.slice ao7 (m + 1) c7) (m + 1) (acc ++ [a]) s := by
  have hc : Chg (rowF v) wr w7 := ((Chg.refl _ wr).alloc o).trans (Chg.of_grown hg fun k hk => rowF_mem.2 hk)
  have hb := H.bw
  have hnb : b ∉ rowF v := fun h => by
    have := (H.apart (rowF_mem.1 h)).1
    omega
  have hs := H.c.size
  refine ⟨H.r.chg hc (fun x hx => by have := (H.apart (rowF_mem.1 hx)).1; omega) (H.r.r.chg hc hnb) H.r.lt H.r.deep, H.c.trans' hc (fun x hx => .inr (H.apart (rowF_mem.1 hx)).1), by rw [parsV_snoc]; exact h7, by rw [List.length_append, H.l]; rfl, hb⟩

theorem LbAt.told {w w0 w3 wr : World} {b n : Nat} {vl : Value} {L : List Tk} {ao : Option Addr} {m c : Nat} {acc : List Par} {s : PS} (H : LbAt w0 w3 wr b n vl L (.slice ao m c) m acc s) (hm : m ≤ 100000) (hb : Below w.heap.size w wr) (h3 : w.heap.size ≤ w3.heap.size) : LabTold w (acc, 0, 0) (.returned (.tuple #[.slice ao m c, .int .i64 0, .int .i64 0])) wr := by
  refine ⟨ao, m, c, rfl, ⟨H.l, hm, fun a k q e => ?_, _, Cells.own H.o (by decide), pars_parts _⟩, hb⟩
  cases e
  rcases H.o.2 with ⟨e, _⟩ | ⟨g, cap, cur, e, hg, hh, _⟩
  · cases e
  · cases e
    exact ⟨Nat.le_trans h3 hg, (Array.getElem?_eq_some_iff.1 hh).1⟩

theorem less_step {L : List Tk} {q : Nat} {s : PS} {a : List UInt8} {acc : List Par} {G : List Par × PS} (h : lessLoop L (q + 1) s a acc = G) (hi : isT L s [60] = true) : lessLoop L q (nameT L s.go).2 (nameT L s.go).1 (acc ++ [⟨a, (nameT L s.go).1, (curT L s.go).pos⟩]) = G := by
  unfold lessLoop at h
  rw [if_pos hi] at h
  exact h
theorem less_stop {L : List Tk} {q : Nat} {s : PS} {a : List UInt8} {acc : List Par} {G : List Par × PS} (h : lessLoop L q s a acc = G) (hi : isT L s [60] = false) : G = (acc, s) := by
  cases q with
  | zero => exact h.symm
  | succ q =>
    unfold lessLoop at h
    rw [if_neg (by rw [hi]; simp)] at h
    exact h.symm
theorem line_stop {L : List Tk} {q : Nat} {s : PS} {acc : List Par} {G : List Par × PS} (h : lineLoop L q s acc = G) (hi : s.e ≠ 0 ∨ (curT L s).kind = 0) : G = (acc, s) := by
  cases q with
  | zero => exact h.symm
  | succ q =>
    unfold lineLoop at h
    rw [if_pos hi] at h
    exact h.symm
theorem line_step {L : List Tk} {q : Nat} {s : PS} {acc : List Par} {G : List Par × PS} (h : lineLoop L (q + 1) s acc = G) (hi : ¬ (s.e ≠ 0 ∨ (curT L s).kind = 0)) :
    lineLoop L q (wantT L (lessLoop L (L.length + 1) (nameT L s).2 (nameT L s).1 (if isT L (nameT L s).2 [60] = true then acc else acc ++ [⟨(nameT L s).1, [], (curT L s).pos⟩])).2 [59]) (lessLoop L (L.length + 1) (nameT L s).2 (nameT L s).1 (if isT L (nameT L s).2 [60] = true then acc else acc ++ [⟨(nameT L s).1, [], (curT L s).pos⟩])).1 = G := by
  unfold lineLoop at h
  rw [if_neg hi] at h
  exact h

set_option maxHeartbeats 16000000 in
theorem ref_labels (l : List UInt8) (w : World) : Calls Tryd.prog 33 #[.string (tx l)] w (LabTold w (labelsP l)) := by
  have P := ref_lex l w
  have hL := fun he => (lexP_tokL (b := l) he).1
  have hq1 : (lexP l).e ≠ 0 → labelsP l = ([], (lexP l).e, (lexP l).pos) := fun h => by rw [labelsP, if_pos h]
  have hq2 : (lexP l).e = 0 → (labelsT (lexP l).l ps0).2.e ≠ 0 → labelsP l = ([], (labelsT (lexP l).l ps0).2.e, (labelsT (lexP l).l ps0).2.pos) := fun h h2 => by rw [labelsP, if_neg (by rw [h]; simp)]; simp only; rw [if_pos h2]
  have hq3 : (lexP l).e = 0 → (labelsT (lexP l).l ps0).2.e = 0 → labelsP l = ((labelsT (lexP l).l ps0).1, 0, 0) := fun h h2 => by rw [labelsP, if_neg (by rw [h]; simp)]; simp only; rw [if_neg (by rw [h2]; simp)]
  generalize labelsP l = PP at *
  generalize lexP l = R at *
  obtain ⟨L, x, p⟩ := R
  simp only at hL hq1 hq2 hq3
  have HQ := Lib.hid (And.intro hL (And.intro hq1 (And.intro hq2 hq3)))
  clear hL hq1 hq2 hq3
  go_enter Tryd.func33, Tryd.ntmps33
  go_wp2_with fail
  refine P.mono ?_
  rintro e1 w2 ⟨ao, n, c, rfl, hT, hb⟩
  clear P
  by_cases hx : x = 0
  case neg =>
    have HB := Lib.hid hb
    clear hT hb
    go_wp2_with fail
    rw [HQ.out.2.1 hx]
    go_ret3
    exact labTold_none HB.out
  subst hx
  have hTL := HQ.out.1 rfl
  have hRd := rdr_new hT hTL
  obtain ⟨G, hG⟩ : ∃ G, labelsT L ps0 = G := ⟨_, rfl⟩
  have HQ2 : Hid ((G.2.e ≠ 0 → PP = ([], G.2.e, G.2.pos)) ∧ (G.2.e = 0 → PP = (G.1, 0, 0))) := Lib.hid ⟨fun h => by rw [← hG] at h ⊢; exact HQ.out.2.2.1 (by simp) h, fun h => by rw [← hG] at h ⊢; exact HQ.out.2.2.2 (by simp) h⟩
  have HTL := Lib.hid hTL
  have hW3 : Below w2.heap.size w2 (w2.alloc (.cells #[.slice ao n c, .int .i64 0, .int .i64 0, .int .i64 0, .int .i64 0] 93)) := (Below.refl _ w2).alloc (Nat.le_refl _) _
  obtain ⟨w3, hw3⟩ : ∃ w3, w2.alloc (.cells #[.slice ao n c, .int .i64 0, .int .i64 0, .int .i64 0, .int .i64 0] 93) = w3 := ⟨_, rfl⟩
  rw [hw3] at hW3 hRd
  have hb3 := hRd.blt
  have HB3 := Lib.hid (And.intro hb (And.intro hW3 hb3))
  have HLO : Hid (w.heap.size ≤ w2.heap.size) := Lib.hid hb.size
  have HR3 := Lib.hid hRd
  unfold labelsT at hG
  have HG := Lib.hid hG
  clear hT hb hTL hRd hW3 HQ hG
  go_wp2_with fail
  clear hw3
  generalize w2.heap.size = b at *
  refine (rdr_want w2 w3 b n _ L ps0 kLabels HR3.out).mono ?_
  rintro e3 w4 hr
  obtain ⟨rfl, X3⟩ := hr.out1
  clear hr
  have H4 : Hid (LbAt w2 w3 w4 b n (.slice ao n c) L (.slice none 0 0) 0 [] (wantT L ps0 kLabels)) := Lib.hid ⟨X3.out.1, X3.out.2, World.ownsRow_nil _ _ _ _, rfl, hb3⟩
  clear X3 HR3
  generalize wantT L ps0 kLabels = s1 at *
  have HA0 : Hid (LbAt w2 w3 w4 b n (.slice ao n c) L (.slice none 0 0) 0 [] s1 ∧ lineLoop L (L.length + 1) s1 [] = G ∧ remT L s1 < L.length + 1 ∧ 0 + 2 * remT L s1 ≤ 40000) := Lib.hid ⟨H4.out, HG.out, rem_lt H4.out.r.lt, by have := rem_lt (L := L) H4.out.r.lt; have := HTL.out.few; omega⟩
  clear H4 HG
  go_wp2_with fail
  go_loopw [9, 10, 11, 12] (fun v9 _ _ _ wr => ∃ (aq : Option Addr) (m cq q : Nat) (s : PS) (acc : List Par), v9 = .slice aq m cq ∧ Hid (LbAt w2 w3 wr b n (.slice ao n c) L (.slice aq m cq) m acc s ∧ lineLoop L q s acc = G ∧ remT L s < q ∧ m + 2 * remT L s ≤ 40000))
    (fun _ _ _ _ wr => remW L b wr)
  case atStart => exact ⟨none, 0, 0, _, s1, [], rfl, HA0⟩
  case round =>
    obtain ⟨aq, m, cq, q, s, acc, rfl, hH⟩ := hrel
    have HMW := Lib.hid hH.out.1.r.rem
    clear HA0
    have r3 := hH.out.1.r.r.c3
    by_cases he : s.e = 0
    case neg =>
      have he2 : (s.e == 0) = false := by simpa using he
      go_upto_region 7 with fail
      go_quiet (fail)
      have HZ := Lib.hid (hH.out.1.keep (hH.out.1.r.drewN nq) ((Chg.refl [b] wr).drewN nq))
      have hst := line_stop hH.out.2.1 (.inl he)
      have HM := Lib.hid (show m ≤ 100000 by have := hH.out.2.2.2; omega)
      clear hH
      subst hst
      generalize wr.drewN nq = w5 at *
      have HBW : Hid (Below w.heap.size w w5) := Lib.hid (below_of (HB3.out.1.trans (HB3.out.2.1.mono HLO.out)) HZ.out.c (by simp only [List.mem_singleton, forall_eq]; exact HLO.out))
      have c3 := HZ.out.r.r.c3
      have c4 := HZ.out.r.r.c4
      have hq : PP = ([], s.e, s.pos) := HQ2.out.1 he
      subst hq
      have he3 : (s.e != 0) = true := by simpa using he
      go_wp2_with fail
      go_quiet (fail)
      go_wp2
      go_ret3
      exact labTold_none (below_drewN HBW.out _)
    rw [he] at r3
    obtain ⟨ad, c', ee, hin, d0, d1, d2⟩ := hH.out.1.r.cur (Grow.refl _)
    cases ee
    have r0 := hH.out.1.r.r.c0
    have r1 := hH.out.1.r.r.c1
    obtain ⟨kd, hkd⟩ : ∃ k, (curT L s).kind = k := ⟨_, rfl⟩
    rw [hkd] at d0
    by_cases hk : kd = 0
    case pos =>
      subst hk
      go_upto_region 7 with fail
      go_quiet (fail)
      clear r0 r1 r3 d0 d1 d2 hin
      have HZ := Lib.hid (hH.out.1.keep (hH.out.1.r.drewN nq) ((Chg.refl [b] wr).drewN nq))
      have hst := line_stop hH.out.2.1 (.inr hkd)
      have HM := Lib.hid (show m ≤ 100000 by have := hH.out.2.2.2; omega)
      clear hH
      subst hst
      generalize wr.drewN nq = w5 at *
      have HBW : Hid (Below w.heap.size w w5) := Lib.hid (below_of (HB3.out.1.trans (HB3.out.2.1.mono HLO.out)) HZ.out.c (by simp only [List.mem_singleton, forall_eq]; exact HLO.out))
      have c3 := HZ.out.r.r.c3
      have c4 := HZ.out.r.r.c4
      have hq : PP = (acc, 0, 0) := HQ2.out.2 he
      subst hq
      rw [he] at c3
      go_wp2_with fail
      go_ret3
      exact HZ.out.told HM.out HBW.out (Nat.le_trans HB3.out.1.size HB3.out.2.1.size)
    have hk2 : (kd == 0) = false := by simpa using hk
    have hk3 : (kd != 0) = true := by simpa using hk
    go_upto_region 7 with fail
    go_quiet (fail)
    clear r0 r1 r3 d0 d1 d2 hin
    have HZ := Lib.hid (hH.out.1.keep (hH.out.1.r.drewN nq) ((Chg.refl [b] wr).drewN nq))
    obtain ⟨q, rfl⟩ : ∃ q2, q = q2 + 1 := ⟨q - 1, by have := hH.out.2.2.1; omega⟩
    have hst := line_step hH.out.2.1 (by rw [hkd]; exact fun h => h.elim (fun h => h he) hk)
    have HST := Lib.hid hst
    have HEK := Lib.hid (And.intro he hkd)
    clear hst
    generalize wr.drewN nq = w5 at *
    go_wp2_with fail
    refine (rdr_here w2 w5 b n _ L s HZ.out.r).mono ?_
    rintro e6 w6 hr
    obtain ⟨rfl, X6⟩ := hr.out1
    clear hr
    have H6 := Lib.hid (HZ.out.keep X6.out.1 X6.out.2)
    clear X6
    go_wp2_with fail
    refine (rdr_name w2 w6 b n _ L s H6.out.r).mono ?_
    rintro e7 w7 hr
    obtain ⟨rfl, X7⟩ := hr.out1
    clear hr
    have H7 := Lib.hid (H6.out.keep X7.out.1 X7.out.2)
    clear X7 H6
    go_wp2_with fail
    refine (rdr_is w2 w7 b n _ L _ [60] H7.out.r).mono ?_
    rintro e8 w8 hr
    obtain ⟨rfl, X8⟩ := hr.out1
    clear hr
    have H8 := Lib.hid (H7.out.keep X8.out.1 X8.out.2)
    clear X8 H7
    obtain ⟨G1, hG1⟩ : ∃ G1, nameT L s = G1 := ⟨_, rfl⟩
    obtain ⟨n1, s2⟩ := G1
    have hgo := name_goes HTL.out s
    have hrn := rem_name (L := L) he HZ.out.r.lt
    rw [hG1] at HST H8 hgo hrn ⊢
    simp only at HST H8 hgo hrn ⊢
    have HGO := Lib.hid (And.intro hgo hrn)
    clear hgo hrn hG1 HZ
    have HCNT : Hid (m + 2 * remT L s ≤ 40000 ∧ remT L s < q + 1) := Lib.hid ⟨hH.out.2.2.2, hH.out.2.2.1⟩
    clear hH
    obtain ⟨pp, hpp⟩ : ∃ pp, (curT L s).pos = pp := ⟨_, rfl⟩
    rw [hpp] at HST ⊢
    obtain ⟨acc1, ha1⟩ : ∃ a1, (if isT L s2 [60] = true then acc else acc ++ [⟨n1, [], pp⟩]) = a1 := ⟨_, rfl⟩
    rw [ha1] at HST
    have HA1 := Lib.hid ha1
    clear ha1 hpp
    go_upto_if 53 with fail
    go_cut [9] from 28 to 75 (fun s9 wx => ∃ (aq : Option Addr) (m1 cq : Nat), s9 = .slice aq m1 cq ∧ Hid (LbAt w2 w3 wx b n (.slice (some ad) n c) L (.slice aq m1 cq) m1 acc1 s2 ∧ m1 ≤ m + 1))
    case first =>
      cases hB : isT L s2 [60] with
      | true =>
        have h9 := HA1.out
        rw [hB, if_pos rfl] at h9
        go_wp2_with fail
        go_meet
        exact ⟨_, _, _, rfl, Lib.hid ⟨by rw [← h9]; exact H8.out, Nat.le_succ _⟩⟩
      | false =>
        have h9 := HA1.out
        rw [hB, if_neg (by simp)] at h9
        have H99 := Lib.hid h9
        have HCUR := H8
        have FL : Hid (m + 1 ≤ 1000000) := Lib.hid (by have := HCNT.out.1; omega)
        clear h9
        go_wp2_with (first | (at_builtin; refine wpList_append_gen elemPar rfl (.tmp 54) (.tmp 58) rfl w3.heap.size _ _ _ rfl (HCUR.out.o.alloc _) _ 1 (parV ⟨n1, [], pp⟩) rfl (Cells.lit _ (parV ⟨n1, [], pp⟩) 50 (0, 0) 3 1 rfl) (parV_one _) _ rfl FL (by decide) (Nat.le_trans HCUR.out.c.size (by simp)) ?_; intro ao7 c7 w7' hown7 hb7 hg7 ho7; have HN := Lib.hid (HCUR.out.add ⟨n1, [], pp⟩ hown7 hg7); clear hown7 hb7 hg7 ho7))
        go_meet
        exact ⟨_, _, _, rfl, Lib.hid ⟨by rw [← H99.out]; exact HN.out, Nat.le_refl _⟩⟩
    case rest =>
    obtain ⟨aq1, m1, cq1, rfl, hC⟩ := hcut
    obtain ⟨G2, hG2⟩ : ∃ G2, lessLoop L (L.length + 1) s2 n1 acc1 = G2 := ⟨_, rfl⟩
    rw [hG2] at HST
    have HC0 : Hid (LbAt w2 w3 wc b n (.slice (some ad) n c) L (.slice aq1 m1 cq1) m1 acc1 s2 ∧ lessLoop L (L.length + 1) s2 n1 acc1 = G2 ∧ remT L s2 < L.length + 1 ∧ m1 + 2 * remT L s2 ≤ 40000 ∧ remT L s2 ≤ remT L s2) := Lib.hid ⟨hC.out.1, hG2, rem_lt hC.out.1.r.lt, by have := hC.out.2; have := HCNT.out.1; have := HGO.out.2; omega, Nat.le_refl _⟩
    clear hG2 hC H8
    go_wp2_with fail
    go_loopw [9, 10, 11, 12] (fun v9 _ v11 _ wr => ∃ (aq : Option Addr) (m cq q : Nat) (s : PS) (a : List UInt8) (acc : List Par), v9 = .slice aq m cq ∧ v11 = .string (tx a) ∧ Hid (LbAt w2 w3 wr b n (.slice (some ad) n c) L (.slice aq m cq) m acc s ∧ lessLoop L q s a acc = G2 ∧ remT L s < q ∧ m + 2 * remT L s ≤ 40000 ∧ remT L s ≤ remT L s2))
      (fun _ _ _ _ wr => remW L b wr)
    case atStart => exact ⟨aq1, m1, cq1, _, s2, n1, acc1, rfl, rfl, HC0⟩
    case round =>
      obtain ⟨aq, m2, cq, q2, s4, an, acc2, rfl, rfl, hI⟩ := hrel
      clear HC0
      obtain ⟨q2, rfl⟩ : ∃ q3, q2 = q3 + 1 := ⟨q2 - 1, by have := hI.out.2.2.1; omega⟩
      go_wp2_with fail
      refine (rdr_take w2 _ b n _ L s4 [60] hI.out.1.r).mono ?_
      rintro e10 w10 hr
      obtain ⟨rfl, X10⟩ := hr.out1
      clear hr
      cases hB : isT L s4 [60] with
      | false =>
        have hst := less_stop hI.out.2.1 hB
        rw [takeT, hB, if_neg (by simp)] at X10
        have H10 := Lib.hid (hI.out.1.keep X10.out.1 X10.out.2)
        have HBD := Lib.hid (And.intro hI.out.2.2.2.1 hI.out.2.2.2.2)
        clear hI X10
        subst hst
        simp only at HST
        go_wp2_with fail
        refine (rdr_want w2 w10 b n _ L s4 [59] H10.out.r).mono ?_
        rintro e11 w11 hr
        obtain ⟨rfl, X11⟩ := hr.out1
        clear hr
        have H11 := Lib.hid (H10.out.keep X11.out.1 X11.out.2)
        have hrm : remT L (wantT L s4 [59]) < remT L s := by
          have h1 := (want_goes HTL.out s4 [59]).rem
          have h2 := HBD.out.2
          have h3 := HGO.out.2
          omega
        have HRM := Lib.hid hrm
        have HMS : Hid (remW L b w11 < remT L s) := Lib.hid (by
          rw [H11.out.r.rem]
          exact hrm)
        clear hrm
        go_wp2_with fail
        refine ⟨⟨aq, m2, cq, q, _, _, rfl, Lib.hid ⟨H11.out, HST.out, by have := HRM.out; have := HCNT.out.2; omega, by have := HBD.out.1; have := (want_goes HTL.out s4 [59]).rem; omega⟩⟩, ?_⟩
        rw [HMW.out]
        exact HMS.out
      | true =>
        rw [takeT, if_pos hB] at X10
        have H10 := Lib.hid (hI.out.1.keep X10.out.1 X10.out.2)
        have hst := less_step hI.out.2.1 hB
        have hie := isT_e hB
        have hr1 := rem_go (L := L) hie.1 hI.out.1.r.lt
        have HBD := Lib.hid (And.intro hI.out.2.2.1 (And.intro hI.out.2.2.2.1 (And.intro hI.out.2.2.2.2 (And.intro hr1 hI.out.1.r.rem))))
        clear hI X10 hie hr1
        have HST2 := Lib.hid hst
        clear hst
        go_wp2_with fail
        refine (rdr_here w2 w10 b n _ L s4.go H10.out.r).mono ?_
        rintro e11 w11 hr
        obtain ⟨rfl, X11⟩ := hr.out1
        clear hr
        have H11 := Lib.hid (H10.out.keep X11.out.1 X11.out.2)
        clear X11 H10
        go_wp2_with fail
        refine (rdr_name w2 w11 b n _ L s4.go H11.out.r).mono ?_
        rintro e12 w12 hr
        obtain ⟨rfl, X12⟩ := hr.out1
        clear hr
        have hng := (name_goes HTL.out s4.go).rem
        have HCUR := Lib.hid (H11.out.keep X12.out.1 X12.out.2)
        have HNG := Lib.hid hng
        clear X12 H11 hng
        obtain ⟨G3, hG3⟩ : ∃ G3, nameT L s4.go = G3 := ⟨_, rfl⟩
        obtain ⟨bn, s5⟩ := G3
        rw [hG3] at HCUR HST2 HNG ⊢
        simp only at HCUR HST2 HNG ⊢
        clear hG3
        obtain ⟨pq, hpq⟩ : ∃ pq, (curT L s4.go).pos = pq := ⟨_, rfl⟩
        rw [hpq] at HST2 ⊢
        clear hpq
        have FL : Hid (m2 + 1 ≤ 1000000) := Lib.hid (by have := HBD.out.2.1; omega)
        go_wp2_with (first | (at_builtin; refine wpList_append_gen elemPar rfl (.tmp 66) (.tmp 71) rfl w3.heap.size _ _ _ rfl (HCUR.out.o.alloc _) _ 1 (parV ⟨an, bn, pq⟩) rfl (Cells.lit _ (parV ⟨an, bn, pq⟩) 50 (0, 0) 3 1 rfl) (parV_one _) _ rfl FL (by decide) (Nat.le_trans HCUR.out.c.size (by simp)) ?_; intro ao7 c7 w7' hown7 hb7 hg7 ho7; have HN := Lib.hid (HCUR.out.add ⟨an, bn, pq⟩ hown7 hg7); clear hown7 hb7 hg7 ho7))
        refine ⟨⟨ao7, m2 + 1, c7, q2, s5, bn, _, rfl, rfl, Lib.hid ⟨HN.out, HST2.out, by have h1 := HNG.out; have h2 := HBD.out.1; have h3 := HBD.out.2.2.2.1; omega, by have h1 := HNG.out; have h2 := HBD.out.2.1; have h3 := HBD.out.2.2.2.1; omega, by have h1 := HNG.out; have h2 := HBD.out.2.2.1; have h3 := HBD.out.2.2.2.1; omega⟩⟩, ?_⟩
        rw [HN.out.r.rem, HBD.out.2.2.2.2]
        have h1 := HNG.out
        have h3 := HBD.out.2.2.2.1
        omega

end Go.Proofs.YtejaikpnfhhmnaaDoor
