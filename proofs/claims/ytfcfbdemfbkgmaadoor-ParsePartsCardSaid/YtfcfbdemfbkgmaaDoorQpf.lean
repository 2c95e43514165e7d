/- The code's sum and term, over what they are asked of. Numbers and types by name. -/
import Derived.Test.YtfcfbdemfbkgmaaDoorQpc
import Derived.WalkMore
namespace Go.Proofs.YtfcfbdemfbkgmaaDoor
open Go.RowKit Go.Lib
set_option maxRecDepth 100000

theorem opLoop_err {L : List Tk} {ops : List (List UInt8 × Int)} {U : EX} {n : Nat} {s : PS} {l : List Nd} (h : s.e ≠ 0) : opLoop L ops U n s l = (l, s) := by
  cases n with
  | zero => rfl
  | succ n =>
    unfold opLoop
    rw [if_pos h]
/-- What is left, by a parser's cells. -/
def lenW (b : Nat) (w : World) : Nat :=
  match w.cell? ⟨b, 0, none⟩ with
  | some (.slice _ n _) => n
  | _ => 0
theorem Psr.len {w0 w : World} {b : Nat} {L : List Tk} {s : PS} (h : Psr w0 w b L s) : lenW b w = L.length - s.i := by
  obtain ⟨a, n, c, h1, h2, _⟩ := h.r
  unfold lenW
  rw [h1.c0]
  show n = _
  omega

/-- In the midst of a row of operands. -/
structure OcAt (w0 w wr : World) (b : Nat) (L : List Tk) (v v1 : Value) (m : Nat) (s : PS) (l : List Nd) (R : List Nd × PS) (ops : List (List UInt8 × Int)) (U : EX) (q N : Nat) : Prop where
  r : Psr w0 wr b L s
  o : OwnN wr (b + 1) v1 m l
  c : Chg (b :: rowF v) w wr
  f : FromRow w v v1
  g : opLoop L ops U q s l = R
  rq : remT L s < q
  rn : remT L s < N
  pot : l.length + remT L s ≤ 20000
variable {w0 w wr : World} {b : Nat} {L : List Tk} {v v1 : Value} {m : Nat} {s : PS} {l : List Nd} {R : List Nd × PS} {ops : List (List UInt8 × Int)} {U : EX} {q N : Nat}
theorem OcAt.keep {w1 : World} (h : OcAt w0 w wr b L v v1 m s l R ops U q N) (hr : Psr w0 w1 b L s) (hc : Chg [b] wr w1) : OcAt w0 w w1 b L v v1 m s l R ops U q N :=
  ⟨hr, h.o.keep hc, h.c.more h.f hc (fun x hx => .inl (by simpa using hx)), h.f, h.g, h.rq, h.rn, h.pot⟩
theorem OcAt.done {ao : Option Addr} {c : Nat} (h : OcAt w0 w wr b L v (.slice ao m c) m s l R ops U q N) (hd : whichT L s ops = none) : ExEnd w0 w b L v R (.returned (.slice ao m c)) wr := by
  have e : opLoop L ops U q s l = (l, s) := by
    have := h.rq
    cases q with
    | zero => omega
    | succ q =>
      unfold opLoop
      rw [if_neg (by rw [h.r.e]; simp), hd]
  rw [← h.g, e]
  exact ⟨h.c, .inl ⟨h.r.e, ao, m, c, rfl, h.o, h.r, h.f⟩⟩
theorem OcAt.sign {k : Int} (h : OcAt w0 w wr b L v v1 m s l R ops U q N) (hk : whichT L s ops = some k) :
    remT L s.go < N ∧ l.length + remT L s.go + 1 ≤ 20000 ∧ ∃ q', q = q' + 1 ∧ opLoop L ops U q' (U s.go l).2 (twoT (U s.go l).1 ((l.length : Int) - 1) k (curT L s).pos) = R ∧ remT L s.go < q' := by
  have h1 := rem_go (L := L) h.r.e h.r.lt
  have h2 := h.rn
  have h3 := h.pot
  have h4 := h.rq
  refine ⟨by omega, by omega, ?_⟩
  cases q with
  | zero => omega
  | succ q' =>
    refine ⟨q', rfl, ?_, by omega⟩
    have := h.g
    unfold opLoop at this
    rw [if_neg (by rw [h.r.e]; simp), hk] at this
    exact this
theorem OcAt.next {w4 : World} {v4 : Value} {m4 : Nat} {k : Int} (h : OcAt w0 w wr b L v v1 m s l R ops U q N) (hG : ∀ s l, Goes L s (U s l).2) (hP : PotOk L U) (hk : whichT L s ops = some k)
    (o4 : OwnN w4 (b + 1) v4 m4 (twoT (U s.go l).1 ((l.length : Int) - 1) k (curT L s).pos)) (r4 : Psr w0 w4 b L (U s.go l).2) (c4 : Chg (b :: rowF v1) wr w4) (f4 : FromRow wr v1 v4) :
    ∃ q', OcAt w0 w w4 b L v v4 m4 (U s.go l).2 (twoT (U s.go l).1 ((l.length : Int) - 1) k (curT L s).pos) R ops U q' N ∧ lenW b w4 < lenW b wr := by
  obtain ⟨g1, g2, q', rfl, g3, g4⟩ := h.sign hk
  obtain ⟨t, ht⟩ := which_is hk
  have hm := isT_more h.r.ok ht h.r.lt
  have hp := hP s.go l hm
  have hrm := (hG s.go l).rem
  have hi := (hG s.go l).i
  have hlt := r4.lt
  have hi2 : s.go.i = s.i + 1 := rfl
  refine ⟨q', ⟨r4, o4, h.c.more h.f c4 (fun x hx => List.mem_cons.1 hx), h.f.trans f4 h.c.size, g3, by omega, by omega, by rw [two_len]; omega⟩, ?_⟩
  rw [r4.len, h.r.len]
  omega
/-- The operand failed. -/
theorem OcAt.fell {w4 : World} {k : Int} (h : OcAt w0 w wr b L v v1 m s l R ops U q N) (hk : whichT L s ops = some k) (c4 : Chg (b :: rowF v1) wr w4) (he : (U s.go l).2.e ≠ 0) : ExEnd w0 w b L v R (Pnk (U s.go l).2) w4 := by
  obtain ⟨_, _, q', rfl, g3, _⟩ := h.sign hk
  rw [opLoop_err he] at g3
  rw [← g3]
  exact ⟨h.c.more h.f c4 (fun x hx => List.mem_cons.1 hx), .inr ⟨he, rfl⟩⟩

set_option maxHeartbeats 2000000 in
theorem cterm_walk (U : EX) (w0 : World) (b : Nat) (L : List Tk) (N : Nat) (hG : ∀ s l, Goes L s (U s l).2) (hP : PotOk L U) (K : ExC 81 U w0 b L N) :
    ExC 79 (opT L mulOps U N) w0 b L N := by
  intro w s v m l hr ho hn hp
  have P := K w s v m l hr ho hn hp
  obtain ⟨R, hR⟩ : ∃ R, opT L mulOps U N s l = R := ⟨_, rfl⟩
  rw [hR]
  change opLoop L mulOps U N (U s l).2 (U s l).1 = R at hR
  have hx := And.intro ((hG s l).lt hr.lt) (And.intro ((hG s l).rem) (hP s l hr.lt))
  obtain ⟨⟨l1, s1⟩, hq⟩ : ∃ q, U s l = q := ⟨_, rfl⟩
  rw [hq] at P hR hx
  have HX := Lib.hid hx
  have HR := Lib.hid hR
  have HN := Lib.hid (And.intro hn hp)
  have B := Lib.hid (fun w s v m l k h1 h2 h3 h4 h5 => binary_walk 81 U w0 b L N hP K (by intro args w; rfl) w s v m l k h1 h2 h3 h4 h5)
  have GP := Lib.hid (And.intro hG hP)
  obtain ⟨ao0, c0, rfl⟩ := ho.shape
  clear hr ho hn hp hR hG hP K hq hx
  go_enter Tryd.func79, Tryd.ntmps79
  go_wp2_with fail
  go_step3
  go_wp2_with fail
  refine P.mono ?_
  rintro e1 w1 ⟨cc, ⟨h0, ao1, m1, c1, rfl, o1, r1, f1⟩ | ⟨h0, rfl⟩⟩
  case inr =>
    clear P B
    go_wp2_with fail
    have hR := HR.out
    rw [opLoop_err h0] at hR
    rw [← hR]
    exact ⟨rfl, cc, .inr ⟨h0, rfl⟩⟩
  have H0 : Hid (OcAt w0 w w1 b L (.slice ao0 m c0) (.slice ao1 m1 c1) m1 s1 l1 R mulOps U N N) := Lib.hid
    ⟨r1, o1, cc, f1, HR.out, by have := HX.out.2.1; have := HN.out.1; simp only at *; omega, by have := HX.out.2.1; have := HN.out.1; simp only at *; omega, by have := HX.out.2.2; have := HN.out.2; simp only at *; omega⟩
  clear P o1 r1 f1 cc HX HN HR h0
  go_wp2_with fail
  go_step3
  go_wp2_with fail
  go_loopw [1] (fun x wr => ∃ (ao : Option Addr) (m2 c2 q : Nat) (s2 : PS) (l2 : List Nd), x = .slice ao m2 c2 ∧ Hid (OcAt w0 w wr b L (.slice ao0 m c0) (.slice ao m2 c2) m2 s2 l2 R mulOps U q N))
    (fun _ wr => lenW b wr)
  case atStart => exact ⟨ao1, m1, c1, N, s1, l1, rfl, H0⟩
  case round =>
    obtain ⟨ao, m2, c2, q, s2, l2, rfl, hG⟩ := hrel
    clear H0
    have hw := fun t ht => isT_text hG.out.r.x hG.out.r.lt hG.out.r.e (t := t) ht
    have hmore := fun t => isT_more hG.out.r.ok (s := s2) (t := t)
    have P := psr_peek w0 wr b L s2 hG.out.r
    have f1 := tok_text (curT L s2)
    unfold tokV at P
    obtain ⟨T, hT⟩ : ∃ T, curT L s2 = T := ⟨_, rfl⟩
    have HT := Lib.hid hT
    rw [hT] at P hw f1
    obtain ⟨kd, tt, p⟩ := T
    simp only at P hw f1
    have HW := Lib.hid (And.intro hw hmore)
    clear hT hw hmore
    go_wp2_with fail
    refine P.mono ?_
    rintro e3 w3 hr
    obtain ⟨rfl, H3⟩ := hr.out1
    clear hr P
    have hG0 := Lib.hid (hG.out.keep H3.out.1 H3.out.2)
    have hWR0 : Hid (lenW b w3 = lenW b wr) := Lib.hid (by rw [H3.out.1.len, hG.out.r.len])
    clear H3
    by_cases hk0 : tt = [42]
    · subst hk0
      have y1 := tx_list [42]
      have hB0 : isT L s2 [42] = true := by rw [HW.out.1 [42] (by decide)]; simp
      have hk : whichT L s2 mulOps = some 7 := by
        unfold mulOps whichT
        rw [if_pos hB0]
      have hmore := HW.out.2 _ hB0 hG0.out.r.lt
      have HS := Lib.hid (hG0.out.sign hk)
      have HK := Lib.hid hk
      clear hk
      clear hB0
      go_wp2_with fail
      refine (B.out w3 s2 _ m2 l2 7 hG0.out.r hG0.out.o hmore HS.out.1 HS.out.2.1).mono ?_
      rintro e5 w5 ⟨cc5, ⟨h5, ao5, m5, c5, rfl, o5, r5, f5⟩ | ⟨h5, rfl⟩⟩
      · obtain ⟨q', N1, hms⟩ := hG0.out.next GP.out.1 GP.out.2 HK.out o5 r5 cc5 f5
        have HN1 := Lib.hid (And.intro N1 hms)
        clear o5 r5 cc5 f5 N1 hms
        go_wp2_with fail
        exact ⟨⟨ao5, m5, c5, q', _, _, rfl, Lib.hid HN1.out.1⟩, by rw [← hWR0.out]; exact HN1.out.2⟩
      · have FE := Lib.hid (hG0.out.fell HK.out cc5 h5)
        go_wp2_with fail
        exact ⟨rfl, FE.out⟩
    have hn0 : (tt == [42]) = false := by simpa using hk0
    by_cases hk1 : tt = [47]
    · subst hk1
      have y1 := tx_list [47]
      have hB1 : isT L s2 [47] = true := by rw [HW.out.1 [47] (by decide)]; simp
      have hB0 : isT L s2 [42] = false := by rw [HW.out.1 [42] (by decide)]; simp
      have hk : whichT L s2 mulOps = some 8 := by
        unfold mulOps whichT
        rw [hB0, if_neg (by simp)]
        unfold whichT
        rw [if_pos hB1]
      have hmore := HW.out.2 _ hB1 hG0.out.r.lt
      have HS := Lib.hid (hG0.out.sign hk)
      have HK := Lib.hid hk
      clear hk
      clear hB0 hB1
      go_wp2_with fail
      refine (B.out w3 s2 _ m2 l2 8 hG0.out.r hG0.out.o hmore HS.out.1 HS.out.2.1).mono ?_
      rintro e5 w5 ⟨cc5, ⟨h5, ao5, m5, c5, rfl, o5, r5, f5⟩ | ⟨h5, rfl⟩⟩
      · obtain ⟨q', N1, hms⟩ := hG0.out.next GP.out.1 GP.out.2 HK.out o5 r5 cc5 f5
        have HN1 := Lib.hid (And.intro N1 hms)
        clear o5 r5 cc5 f5 N1 hms
        go_wp2_with fail
        exact ⟨⟨ao5, m5, c5, q', _, _, rfl, Lib.hid HN1.out.1⟩, by rw [← hWR0.out]; exact HN1.out.2⟩
      · have FE := Lib.hid (hG0.out.fell HK.out cc5 h5)
        go_wp2_with fail
        exact ⟨rfl, FE.out⟩
    have hn1 : (tt == [47]) = false := by simpa using hk1
    by_cases hk2 : tt = [37]
    · subst hk2
      have y1 := tx_list [37]
      have hB2 : isT L s2 [37] = true := by rw [HW.out.1 [37] (by decide)]; simp
      have hB0 : isT L s2 [42] = false := by rw [HW.out.1 [42] (by decide)]; simp
      have hB1 : isT L s2 [47] = false := by rw [HW.out.1 [47] (by decide)]; simp
      have hk : whichT L s2 mulOps = some 9 := by
        unfold mulOps whichT
        rw [hB0, if_neg (by simp)]
        unfold whichT
        rw [hB1, if_neg (by simp)]
        unfold whichT
        rw [if_pos hB2]
      have hmore := HW.out.2 _ hB2 hG0.out.r.lt
      have HS := Lib.hid (hG0.out.sign hk)
      have HK := Lib.hid hk
      clear hk
      clear hB0 hB1 hB2
      go_wp2_with fail
      refine (B.out w3 s2 _ m2 l2 9 hG0.out.r hG0.out.o hmore HS.out.1 HS.out.2.1).mono ?_
      rintro e5 w5 ⟨cc5, ⟨h5, ao5, m5, c5, rfl, o5, r5, f5⟩ | ⟨h5, rfl⟩⟩
      · obtain ⟨q', N1, hms⟩ := hG0.out.next GP.out.1 GP.out.2 HK.out o5 r5 cc5 f5
        have HN1 := Lib.hid (And.intro N1 hms)
        clear o5 r5 cc5 f5 N1 hms
        go_wp2_with fail
        exact ⟨⟨ao5, m5, c5, q', _, _, rfl, Lib.hid HN1.out.1⟩, by rw [← hWR0.out]; exact HN1.out.2⟩
      · have FE := Lib.hid (hG0.out.fell HK.out cc5 h5)
        go_wp2_with fail
        exact ⟨rfl, FE.out⟩
    have hn2 : (tt == [37]) = false := by simpa using hk2
    have hk : whichT L s2 mulOps = none := by
      unfold mulOps whichT
      rw [HW.out.1 [42] (by decide), decide_eq_false hk0, if_neg (by simp)]
      unfold whichT
      rw [HW.out.1 [47] (by decide), decide_eq_false hk1, if_neg (by simp)]
      unfold whichT
      rw [HW.out.1 [37] (by decide), decide_eq_false hk2, if_neg (by simp)]
      rfl
    have y1 := tx_list tt
    have HD := Lib.hid (hG0.out.done hk)
    clear hk
    go_wp2_with fail
    go_ret
    exact HD.out

set_option maxHeartbeats 2000000 in
theorem csum_walk (U : EX) (w0 : World) (b : Nat) (L : List Tk) (N : Nat) (hG : ∀ s l, Goes L s (U s l).2) (hP : PotOk L U) (K : ExC 79 U w0 b L N) :
    ExC 73 (opT L addOps U N) w0 b L N := by
  intro w s v m l hr ho hn hp
  have P := K w s v m l hr ho hn hp
  obtain ⟨R, hR⟩ : ∃ R, opT L addOps U N s l = R := ⟨_, rfl⟩
  rw [hR]
  change opLoop L addOps U N (U s l).2 (U s l).1 = R at hR
  have hx := And.intro ((hG s l).lt hr.lt) (And.intro ((hG s l).rem) (hP s l hr.lt))
  obtain ⟨⟨l1, s1⟩, hq⟩ : ∃ q, U s l = q := ⟨_, rfl⟩
  rw [hq] at P hR hx
  have HX := Lib.hid hx
  have HR := Lib.hid hR
  have HN := Lib.hid (And.intro hn hp)
  have B := Lib.hid (fun w s v m l k h1 h2 h3 h4 h5 => binary_walk 79 U w0 b L N hP K (by intro args w; rfl) w s v m l k h1 h2 h3 h4 h5)
  have GP := Lib.hid (And.intro hG hP)
  obtain ⟨ao0, c0, rfl⟩ := ho.shape
  clear hr ho hn hp hR hG hP K hq hx
  go_enter Tryd.func73, Tryd.ntmps73
  go_wp2_with fail
  go_step3
  go_wp2_with fail
  refine P.mono ?_
  rintro e1 w1 ⟨cc, ⟨h0, ao1, m1, c1, rfl, o1, r1, f1⟩ | ⟨h0, rfl⟩⟩
  case inr =>
    clear P B
    go_wp2_with fail
    have hR := HR.out
    rw [opLoop_err h0] at hR
    rw [← hR]
    exact ⟨rfl, cc, .inr ⟨h0, rfl⟩⟩
  have H0 : Hid (OcAt w0 w w1 b L (.slice ao0 m c0) (.slice ao1 m1 c1) m1 s1 l1 R addOps U N N) := Lib.hid
    ⟨r1, o1, cc, f1, HR.out, by have := HX.out.2.1; have := HN.out.1; simp only at *; omega, by have := HX.out.2.1; have := HN.out.1; simp only at *; omega, by have := HX.out.2.2; have := HN.out.2; simp only at *; omega⟩
  clear P o1 r1 f1 cc HX HN HR h0
  go_wp2_with fail
  go_step3
  go_wp2_with fail
  go_loopw [1] (fun x wr => ∃ (ao : Option Addr) (m2 c2 q : Nat) (s2 : PS) (l2 : List Nd), x = .slice ao m2 c2 ∧ Hid (OcAt w0 w wr b L (.slice ao0 m c0) (.slice ao m2 c2) m2 s2 l2 R addOps U q N))
    (fun _ wr => lenW b wr)
  case atStart => exact ⟨ao1, m1, c1, N, s1, l1, rfl, H0⟩
  case round =>
    obtain ⟨ao, m2, c2, q, s2, l2, rfl, hG⟩ := hrel
    clear H0
    have hw := fun t ht => isT_text hG.out.r.x hG.out.r.lt hG.out.r.e (t := t) ht
    have hmore := fun t => isT_more hG.out.r.ok (s := s2) (t := t)
    have P := psr_peek w0 wr b L s2 hG.out.r
    have f1 := tok_text (curT L s2)
    unfold tokV at P
    obtain ⟨T, hT⟩ : ∃ T, curT L s2 = T := ⟨_, rfl⟩
    have HT := Lib.hid hT
    rw [hT] at P hw f1
    obtain ⟨kd, tt, p⟩ := T
    simp only at P hw f1
    have HW := Lib.hid (And.intro hw hmore)
    clear hT hw hmore
    go_wp2_with fail
    refine P.mono ?_
    rintro e3 w3 hr
    obtain ⟨rfl, H3⟩ := hr.out1
    clear hr P
    have hG0 := Lib.hid (hG.out.keep H3.out.1 H3.out.2)
    have hWR0 : Hid (lenW b w3 = lenW b wr) := Lib.hid (by rw [H3.out.1.len, hG.out.r.len])
    clear H3
    by_cases hk0 : tt = [43]
    · subst hk0
      have y1 := tx_list [43]
      have hB0 : isT L s2 [43] = true := by rw [HW.out.1 [43] (by decide)]; simp
      have hk : whichT L s2 addOps = some 5 := by
        unfold addOps whichT
        rw [if_pos hB0]
      have hmore := HW.out.2 _ hB0 hG0.out.r.lt
      have HS := Lib.hid (hG0.out.sign hk)
      have HK := Lib.hid hk
      clear hk
      clear hB0
      go_wp2_with fail
      refine (B.out w3 s2 _ m2 l2 5 hG0.out.r hG0.out.o hmore HS.out.1 HS.out.2.1).mono ?_
      rintro e5 w5 ⟨cc5, ⟨h5, ao5, m5, c5, rfl, o5, r5, f5⟩ | ⟨h5, rfl⟩⟩
      · obtain ⟨q', N1, hms⟩ := hG0.out.next GP.out.1 GP.out.2 HK.out o5 r5 cc5 f5
        have HN1 := Lib.hid (And.intro N1 hms)
        clear o5 r5 cc5 f5 N1 hms
        go_wp2_with fail
        exact ⟨⟨ao5, m5, c5, q', _, _, rfl, Lib.hid HN1.out.1⟩, by rw [← hWR0.out]; exact HN1.out.2⟩
      · have FE := Lib.hid (hG0.out.fell HK.out cc5 h5)
        go_wp2_with fail
        exact ⟨rfl, FE.out⟩
    have hn0 : (tt == [43]) = false := by simpa using hk0
    by_cases hk1 : tt = [45]
    · subst hk1
      have y1 := tx_list [45]
      have hB1 : isT L s2 [45] = true := by rw [HW.out.1 [45] (by decide)]; simp
      have hB0 : isT L s2 [43] = false := by rw [HW.out.1 [43] (by decide)]; simp
      have hk : whichT L s2 addOps = some 6 := by
        unfold addOps whichT
        rw [hB0, if_neg (by simp)]
        unfold whichT
        rw [if_pos hB1]
      have hmore := HW.out.2 _ hB1 hG0.out.r.lt
      have HS := Lib.hid (hG0.out.sign hk)
      have HK := Lib.hid hk
      clear hk
      clear hB0 hB1
      go_wp2_with fail
      refine (B.out w3 s2 _ m2 l2 6 hG0.out.r hG0.out.o hmore HS.out.1 HS.out.2.1).mono ?_
      rintro e5 w5 ⟨cc5, ⟨h5, ao5, m5, c5, rfl, o5, r5, f5⟩ | ⟨h5, rfl⟩⟩
      · obtain ⟨q', N1, hms⟩ := hG0.out.next GP.out.1 GP.out.2 HK.out o5 r5 cc5 f5
        have HN1 := Lib.hid (And.intro N1 hms)
        clear o5 r5 cc5 f5 N1 hms
        go_wp2_with fail
        exact ⟨⟨ao5, m5, c5, q', _, _, rfl, Lib.hid HN1.out.1⟩, by rw [← hWR0.out]; exact HN1.out.2⟩
      · have FE := Lib.hid (hG0.out.fell HK.out cc5 h5)
        go_wp2_with fail
        exact ⟨rfl, FE.out⟩
    have hn1 : (tt == [45]) = false := by simpa using hk1
    have hk : whichT L s2 addOps = none := by
      unfold addOps whichT
      rw [HW.out.1 [43] (by decide), decide_eq_false hk0, if_neg (by simp)]
      unfold whichT
      rw [HW.out.1 [45] (by decide), decide_eq_false hk1, if_neg (by simp)]
      rfl
    have y1 := tx_list tt
    have HD := Lib.hid (hG0.out.done hk)
    clear hk
    go_wp2_with fail
    go_ret
    exact HD.out

end Go.Proofs.YtfcfbdemfbkgmaaDoor
