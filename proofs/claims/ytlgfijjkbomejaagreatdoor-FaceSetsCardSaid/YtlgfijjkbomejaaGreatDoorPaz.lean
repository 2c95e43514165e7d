/- What is asked of the reference's pieces that append nodes; sum, over term. Numbers and types by name. -/
import Derived.Test.YtlgfijjkbomejaaGreatDoorQpa
import Derived.Test.YtlgfijjkbomejaaGreatDoorPay
import Derived.Test.YtlgfijjkbomejaaGreatDoorPaw
/- The code's parser: accept, fault, expect, expectKind, open, shut, name, qname. Numbers and types by name. -/
namespace Go.Proofs.YtlgfijjkbomejaaGreatDoor
open Go.RowKit Go.Lib
set_option maxRecDepth 100000

/-- What a parser panics with. -/
def fltV (e : Int) (p : Nat) : Value := .agg #[.int .i64 e, .int .i64 (p : Int)]
def Ret (v : Value) : World → Ending → Prop := fun _ e => e = .returned v

theorem Chg.setRow {F : List Nat} {a w : World} (h : Chg F a w) {c : Nat} (hc : c ∈ F ∨ a.heap.size ≤ c) (cs : Array Value) : Chg F a (w.setRow c cs) :=
  ⟨h.os, h.tape, h.output, by simpa using h.size, fun i hi hn => (setRow_other w c i cs (by rintro rfl; exact hc.elim hn (fun e => by omega))).trans (h.block i hi hn)⟩
theorem Psr.setRow {w0 w : World} {b : Nat} {L : List Tk} {s : PS} (h : Psr w0 w b L s) {c : Nat} (hc : b < c) (cs : Array Value) : Psr w0 (w.setRow c cs) b L s :=
  h.chg (F := [c]) ((Chg.refl [c] w).setRow (.inl (List.mem_singleton.2 rfl)) cs) (fun x hx => by rw [List.mem_singleton] at hx; rw [hx]; exact hc)
/-- A block that was made ahead is as it was. -/
theorem row_kept {w w1 : World} {b : Nat} {o : Obj} (hb : b < w.heap.size) (hc : Chg [b] (w.alloc o) w1) : w1.heap[w.heap.size]? = some o :=
  (hc.block w.heap.size (by simp) (by rw [List.mem_singleton]; omega)).trans (heap_alloc_new w o)
theorem flt_ones (x : Int) (p : Nat) : (#[Value.int .i64 x, .int .i64 (p : Int)]).all (·.oneCell') = true := by simp [Value.oneCell']
theorem tok_info (t : Tk) : (Tryz.prog.info? 117).map (·.size) = some (#[Value.int .i64 t.kind, .string (tx t.text), .int .i64 (t.pos : Int)]).size := by
  show _ = some 3
  kernel_rfl
theorem tok_ones (t : Tk) : (#[Value.int .i64 t.kind, .string (tx t.text), .int .i64 (t.pos : Int)]).all (·.oneCell') = true := by simp [Value.oneCell']
theorem name_is (L : List Tk) (s : PS) (he : s.e = 0) : nameT L s = (if (curT L s).kind = 1 then (curT L s).text else [], if (curT L s).kind = 1 then s.go else { s with e := 11, pos := (curT L s).pos }) := by
  unfold nameT failT
  by_cases h : (curT L s).kind = 1
  · rw [if_neg (by rw [not_or, Decidable.not_not, Decidable.not_not]; exact ⟨he, h⟩), if_pos h, if_pos h]
  · rw [if_pos (.inr h), if_neg h, if_neg h, if_pos he]
end Go.Proofs.YtlgfijjkbomejaaGreatDoor

/- The parser's plain model: how long lists of nodes get; how deep. Plain facts. Numbers and types by name. -/
namespace Go.Proofs.YtlgfijjkbomejaaGreatDoor
open Go.RowKit Go.Lib

variable {L : List Tk}
/-- Each node has a token of its own. -/
def PotOk (L : List Tk) (U : EX) : Prop := ∀ s l, s.i < L.length → (U s l).1.length + remT L (U s l).2 ≤ l.length + remT L s
theorem two_len (l : List Nd) (a k : Int) (pos : Nat) : (twoT l a k pos).length = l.length + 1 := by
  unfold twoT
  rw [List.length_append]
  rfl
theorem opLoop_pot (hL : TokL L) (ops : List (List UInt8 × Int)) {U : EX} (hU : ∀ s l, Goes L s (U s l).2) (hP : PotOk L U) : ∀ n, PotOk L (opLoop L ops U n)
  | 0 => fun s l _ => Nat.le_refl _
  | n + 1 => fun s l hi => by
    unfold opLoop
    split
    · exact Nat.le_refl _
    · cases h : whichT L s ops with
      | none => exact Nat.le_refl _
      | some k =>
        obtain ⟨t, ht⟩ := which_is h
        have h1 := isT_more hL ht hi
        have h2 := hP s.go l h1
        have h3 := opLoop_pot hL ops hU hP n (U s.go l).2 (twoT (U s.go l).1 ((l.length : Int) - 1) k (curT L s).pos) ((hU _ _).lt h1)
        have h4 := rem_go (L := L) (isT_e ht).1 hi
        rw [two_len] at h3
        simp only
        omega
theorem opT_pot (hL : TokL L) (ops : List (List UInt8 × Int)) {U : EX} (hU : ∀ s l, Goes L s (U s l).2) (hP : PotOk L U) (n : Nat) : PotOk L (opT L ops U n) := fun s l hi => by
  have h1 := hP s l hi
  have h2 := opLoop_pot hL ops hU hP n (U s l).2 (U s l).1 ((hU _ _).lt hi)
  unfold opT
  simp only
  omega
theorem expr_pot (hL : TokL L) {U : EX} (hU : ∀ s l, Goes L s (U s l).2) (hP : PotOk L U) (n : Nat) : PotOk L (exprT L U n) := fun s l hi => by
  have hS : ∀ s l, Goes L s (sumT L U n s l).2 := fun s l => opT_goes hL _ (fun s l => opT_goes hL _ hU n s l) n s l
  have hPS : PotOk L (sumT L U n) := opT_pot hL _ (fun s l => opT_goes hL _ hU n s l) (opT_pot hL _ hU hP n) n
  have h1 := hPS s l hi
  unfold exprT
  simp only
  cases h : whichT L (sumT L U n s l).2 relOps with
  | none => exact h1
  | some k =>
    obtain ⟨t, ht⟩ := which_is h
    have hi1 := (hS s l).lt hi
    have h2 := isT_more hL ht hi1
    have h3 := hPS (sumT L U n s l).2.go (sumT L U n s l).1 h2
    have h4 := rem_go (L := L) (isT_e ht).1 hi1
    simp only
    rw [two_len]
    omega
theorem rem_shut (s : PS) : remT L s.shut = remT L s := rfl
theorem open_lt (hL : TokL L) {s : PS} {t : List UInt8} (hi : s.i < L.length) : (openT L s t).i < L.length := by
  have h1 : Goes L s (if isT L s t = true ∧ 40 ≤ s.deep then failT L s 12 else s) := by
    split
    · exact fail_goes _ _
    · exact Goes.refl _ _
  exact (h1.trans (want_goes hL _ t)).lt hi
theorem unary_pot (hL : TokL L) : ∀ n, PotOk L (unaryT L n)
  | 0 => fun s l _ => Nat.le_refl _
  | n + 1 => fun s l hi => by
    unfold unaryT
    simp only
    split
    · exact Nat.le_refl _
    rename_i he
    have he : s.e = 0 := by simpa using he
    split
    · have h1 := unary_pot hL n (openT L s (curT L s).text) l (open_lt hL hi)
      have h2 := rem_open (L := L) (t := (curT L s).text) he hi
      simp only [List.length_append, List.length_singleton, rem_shut]
      omega
    split
    · have h1 := expr_pot hL (unary_goes hL n) (unary_pot hL n) n (openT L s [40]) l (open_lt hL hi)
      have h2 := rem_open (L := L) (t := [40]) he hi
      have h3 := (want_goes hL (exprT L (unaryT L n) n (openT L s [40]) l).2 [41]).rem
      simp only [rem_shut]
      omega
    split
    · have := rem_go (L := L) he hi
      simp only [List.length_append, List.length_singleton]
      omega
    split
    · have := rem_qname hL he hi
      simp only [List.length_append, List.length_singleton]
      omega
    · have := rem_fail (L := L) (x := 11) (by decide) he hi
      simp only
      omega

/-- So deep. -/
def Dok (s : PS) : Prop := s.deep ≤ 100 ∧ (s.e = 0 → s.deep ≤ 40)
theorem Goes.e0 {s s' : PS} (h : Goes L s s') (he : s'.e = 0) : s.e = 0 := by
  by_cases hs : s.e = 0
  · exact hs
  · rw [h.err hs] at he
    exact he
theorem Goes.dok {s s' : PS} (h : Goes L s s') (hd : Dok s) : Dok s' := ⟨by rw [h.deep]; exact hd.1, fun he => by rw [h.deep]; exact hd.2 (h.e0 he)⟩
theorem open_deep (hL : TokL L) (s : PS) (t : List UInt8) : (openT L s t).deep = s.deep + 1 := by
  have h1 : Goes L s (if isT L s t = true ∧ 40 ≤ s.deep then failT L s 12 else s) := by
    split
    · exact fail_goes _ _
    · exact Goes.refl _ _
  unfold openT
  simp only
  rw [(h1.trans (want_goes hL _ t)).deep]
theorem open_e {s : PS} {t : List UInt8} (he : (openT L s t).e = 0) : s.e = 0 ∧ isT L s t = true ∧ s.deep < 40 := by
  unfold openT at he
  simp only at he
  split at he
  · exfalso
    have h1 : (failT L s 12).e ≠ 0 := fail_e (by decide)
    unfold wantT at he
    rw [isT_err h1, if_neg (by simp), fail_err h1] at he
    exact h1 he
  · rename_i h
    unfold wantT at he
    split at he
    · rename_i h2
      refine ⟨(isT_e h2).1, h2, ?_⟩
      rw [not_and] at h
      have := h h2
      omega
    · exact absurd he (fail_e (by decide))
theorem open_dok (hL : TokL L) {s : PS} (t : List UInt8) (hd : s.deep ≤ 41) : Dok (openT L s t) := by
  have h1 := open_deep hL s t
  refine ⟨by omega, fun he => ?_⟩
  have := open_e he
  omega

end Go.Proofs.YtlgfijjkbomejaaGreatDoor

namespace Go.Proofs.YtlgfijjkbomejaaGreatDoor
open Go.RowKit Go.Lib
set_option maxRecDepth 100000

/-- What a piece of the reader that appends nodes leaves. -/
def ExTold (w0 w : World) (b n : Nat) (vl : Value) (L : List Tk) (v : Value) (r : List Nd × PS) (e : Ending) (w' : World) : Prop :=
  ∃ ao m c, e = .returned (.slice ao m c) ∧ OwnN w' (b + 1) (.slice ao m c) m r.1 ∧ Rdr w0 w' b n vl L r.2 ∧ Chg (b :: rowF v) w w' ∧ FromRow w v (.slice ao m c)
/-- What is asked of such a piece. -/
def ExK (f : FuncId) (U : EX) (w0 : World) (b n : Nat) (vl : Value) (L : List Tk) (N : Nat) : Prop :=
  ∀ (w : World) (s : PS) (v : Value) (m : Nat) (l : List Nd), Rdr w0 w b n vl L s → OwnN w (b + 1) v m l → remT L s < N → l.length + remT L s ≤ 20000 → Dok s →
    Calls Tryz.prog f #[.pointer (some ⟨b, 0, none⟩), v] w (ExTold w0 w b n vl L v (U s l))
theorem Chg.more {b : Nat} {v v1 : Value} {w w1 w2 : World} (h : Chg (b :: rowF v) w w1) (hf : FromRow w v v1) {F : List Nat} (h2 : Chg F w1 w2) (hF : ∀ x ∈ F, x = b ∨ x ∈ rowF v1) : Chg (b :: rowF v) w w2 :=
  h.trans' h2 fun x hx => by
    rcases hF x hx with rfl | hx
    · exact .inl (List.mem_cons_self ..)
    · exact hf.mem hx fun y hy => List.mem_cons_of_mem _ hy
theorem OwnN.keep {w w' : World} {b : Nat} {v : Value} {m : Nat} {l : List Nd} (h : OwnN w (b + 1) v m l) (hc : Chg [b] w w') : OwnN w' (b + 1) v m l :=
  h.chg hc fun k hk hm => by
    have := (h.2.lt k hk).1
    simp only [List.mem_singleton] at hm
    omega
/-- What is left, by a reader's cells. -/
def remW (L : List Tk) (b : Nat) (w : World) : Nat :=
  match w.cell? ⟨b, 3, none⟩, w.cell? ⟨b, 1, none⟩ with
  | some (.int _ e), some (.int _ i) => if e ≠ 0 then 0 else L.length - i.toNat
  | _, _ => 0
theorem Rdr.rem {w0 w : World} {b n : Nat} {vl : Value} {L : List Tk} {s : PS} (h : Rdr w0 w b n vl L s) : remW L b w = remT L s := by
  unfold remW remT
  rw [h.r.c3, h.r.c1]
  simp

/-- In the midst of a row of operands. -/
structure OpAt (w0 w wr : World) (b n : Nat) (vl : Value) (L : List Tk) (v v1 : Value) (m : Nat) (s : PS) (l : List Nd) (R : List Nd × PS) (ops : List (List UInt8 × Int)) (U : EX) (q N : Nat) : Prop where
  r : Rdr w0 wr b n vl L s
  o : OwnN wr (b + 1) v1 m l
  c : Chg (b :: rowF v) w wr
  f : FromRow w v v1
  g : opLoop L ops U q s l = R
  rq : remT L s < q
  rn : remT L s < N
  pot : l.length + remT L s ≤ 20000
  dok : Dok s
theorem OpAt.keep {w0 w wr w1 : World} {b n : Nat} {vl : Value} {L : List Tk} {v v1 : Value} {m : Nat} {s : PS} {l : List Nd} {R : List Nd × PS} {ops : List (List UInt8 × Int)} {U : EX} {q N : Nat} (h : OpAt w0 w wr b n vl L v v1 m s l R ops U q N) (hr : Rdr w0 w1 b n vl L s) (hc : Chg [b] wr w1) : OpAt w0 w w1 b n vl L v v1 m s l R ops U q N :=
  ⟨hr, h.o.keep hc, h.c.more h.f hc (fun x hx => .inl (by simpa using hx)), h.f, h.g, h.rq, h.rn, h.pot, h.dok⟩
theorem OpAt.done {w0 w wr : World} {b n : Nat} {vl : Value} {L : List Tk} {v : Value} {ao : Option Addr} {m c : Nat} {s : PS} {l : List Nd} {R : List Nd × PS} {ops : List (List UInt8 × Int)} {U : EX} {q N : Nat} (h : OpAt w0 w wr b n vl L v (.slice ao m c) m s l R ops U q N) (hd : s.e ≠ 0 ∨ whichT L s ops = none) : ExTold w0 w b n vl L v R (.returned (.slice ao m c)) wr := by
  have e : opLoop L ops U q s l = (l, s) := by
    have := h.rq
    cases q with
    | zero => omega
    | succ q =>
      unfold opLoop
      by_cases he : s.e ≠ 0
      · rw [if_pos he]
      · rw [if_neg he]
        rcases hd with hd | hd
        · exact absurd hd he
        · rw [hd]
  rw [← h.g, e]
  exact ⟨ao, m, c, rfl, h.o, h.r, h.c, h.f⟩
/-- The sign is there: what it is asked of the operand behind it, and then of two. -/
theorem OpAt.sign {w0 w wr w1 : World} {b n : Nat} {vl : Value} {L : List Tk} {v v1 : Value} {m : Nat} {s : PS} {l : List Nd} {R : List Nd × PS} {ops : List (List UInt8 × Int)} {U : EX} {q N : Nat} {k : Int} (h : OpAt w0 w wr b n vl L v v1 m s l R ops U q N) (he : s.e = 0) (hk : whichT L s ops = some k) (hr : Rdr w0 w1 b n vl L s.go) (hc : Chg [b] wr w1) :
    OwnN w1 (b + 1) v1 m l ∧ remT L s.go < N ∧ l.length + remT L s.go + 1 ≤ 20000 ∧ Dok s.go ∧ Chg (b :: rowF v) w w1 ∧ ∃ q', q = q' + 1 ∧ opLoop L ops U q' (U s.go l).2 (twoT (U s.go l).1 ((l.length : Int) - 1) k (curT L s).pos) = R ∧ remT L s.go < q' := by
  have h1 := rem_go (L := L) he h.r.lt
  have h2 := h.rn
  have h3 := h.pot
  have h4 := h.rq
  refine ⟨h.o.keep hc, by omega, by omega, h.dok, h.c.more h.f hc (fun x hx => .inl (by simpa using hx)), ?_⟩
  cases q with
  | zero => omega
  | succ q' =>
    refine ⟨q', rfl, ?_, by omega⟩
    have := h.g
    unfold opLoop at this
    rw [if_neg (by simpa using he), hk] at this
    exact this

/-- Behind the operand and two. -/
theorem OpAt.next {w0 w wr w1 w2 w4 : World} {b n : Nat} {vl : Value} {L : List Tk} {v v1 v3 v4 : Value} {m m3 m4 : Nat} {s : PS} {l : List Nd} {R : List Nd × PS} {ops : List (List UInt8 × Int)} {U : EX} {q N : Nat} {k : Int}
    (hG : ∀ s l, Goes L s (U s l).2) (hP : PotOk L U) (h : OpAt w0 w wr b n vl L v v1 m s l R ops U q N) (he : s.e = 0) (hk : whichT L s ops = some k) (hr : Rdr w0 w1 b n vl L s.go) (hc : Chg [b] wr w1)
    (o3 : OwnN w2 (b + 1) v3 m3 (U s.go l).1) (r3 : Rdr w0 w2 b n vl L (U s.go l).2) (c3 : Chg (b :: rowF v1) w1 w2) (f3 : FromRow w1 v1 v3)
    (o4 : OwnN w4 (b + 1) v4 m4 (twoT (U s.go l).1 ((l.length : Int) - 1) k (curT L s).pos)) (c4 : Chg (rowF v3) w2 w4) (f4 : FromRow w2 v3 v4) :
    (∃ q', OpAt w0 w w4 b n vl L v v4 m4 (U s.go l).2 (twoT (U s.go l).1 ((l.length : Int) - 1) k (curT L s).pos) R ops U q' N) ∧ remW L b w4 < remW L b wr := by
  obtain ⟨g1, g2, g3, g4, g5, q', rfl, g6, g7⟩ := h.sign he hk hr hc
  have hs : w.heap.size ≤ w1.heap.size := g5.size
  have fw1 : FromRow w v v3 := h.f.trans f3 hs
  have cw2 : Chg (b :: rowF v) w w2 := g5.more h.f c3 (fun x hx => List.mem_cons.1 hx)
  have fw2 : FromRow w v v4 := fw1.trans f4 cw2.size
  have cw4 : Chg (b :: rowF v) w w4 := cw2.more fw1 c4 (fun x hx => .inr hx)
  have hb3 : ∀ x ∈ rowF v3, b < x := fun x hx => (o3.2.lt x (rowF_mem.1 hx)).1
  have r4 : Rdr w0 w4 b n vl L (U s.go l).2 := r3.chg c4 (fun x hx => Nat.le_of_lt (hb3 x hx)) (r3.r.chg c4 (fun hx => absurd (hb3 b hx) (Nat.lt_irrefl _))) r3.lt r3.deep
  have hp := hP s.go l hr.lt
  have hrm := (hG s.go l).rem
  have hlt := rem_go (L := L) he h.r.lt
  refine ⟨⟨q', r4, o4, cw4, fw2, g6, by omega, by omega, by rw [two_len]; omega, (hG s.go l).dok g4⟩, ?_⟩
  rw [r4.rem, h.r.rem]
  omega

theorem term_walk (U : EX) (w0 : World) (b n : Nat) (vl : Value) (L : List Tk) (N : Nat) (hL : TokL L) (hG : ∀ s l, Goes L s (U s l).2) (hP : PotOk L U) (K : ExK 191 U w0 b n vl L N) :
    ExK 188 (opT L mulOps U N) w0 b n vl L N := by
  intro w s v m l hr ho hn hp hd
  have P := K w s v m l hr ho hn hp hd
  obtain ⟨R, hR⟩ : ∃ R, opT L mulOps U N s l = R := ⟨_, rfl⟩
  rw [hR]
  have HR : Hid (opLoop L mulOps U N (U s l).2 (U s l).1 = R) := Lib.hid hR
  have HX := Lib.hid (And.intro ((hG s l).lt hr.lt) (And.intro ((hG s l).rem) (And.intro (hP s l hr.lt) ((hG s l).dok hd))))
  have HN := Lib.hid (And.intro hn hp)
  have HGP := Lib.hid (And.intro hL (And.intro hG (And.intro hP K)))
  obtain ⟨ao0, c0, rfl⟩ := ho.shape
  clear hr ho hn hp hd hR hG hP K hL
  go_enter Tryz.func188, Tryz.ntmps188
  go_wp2_with fail
  refine P.mono ?_
  rintro e1 w1 ⟨ao1, m1, c1, rfl, ho1, hr1, hc1, hf1⟩
  have H0 : Hid (OpAt w0 w w1 b n vl L (.slice ao0 m c0) (.slice ao1 m1 c1) m1 (U s l).2 (U s l).1 R mulOps U N N) := Lib.hid
    ⟨hr1, ho1, hc1, hf1, HR.out, by have := HX.out.2.1; have := HN.out.1; omega, by have := HX.out.2.1; have := HN.out.1; omega, by have := HX.out.2.2.1; have := HN.out.2; omega, HX.out.2.2.2⟩
  clear P ho1 hr1 hc1 hf1 HX HN HR
  generalize (U s l).2 = s1 at *
  generalize (U s l).1 = l1 at *
  go_wp2_with fail
  go_loopw [1, 5, 6] (fun x y z wr => ∃ (ao : Option Addr) (m2 c2 q : Nat) (s2 : PS) (l2 : List Nd), x = .slice ao m2 c2 ∧ Hid (OpAt w0 w wr b n vl L (.slice ao0 m c0) (.slice ao m2 c2) m2 s2 l2 R mulOps U q N))
    (fun _ _ _ wr => remW L b wr)
  case atStart => exact ⟨ao1, m1, c1, N, s1, l1, rfl, H0⟩
  case round =>
    obtain ⟨ao, m2, c2, q, s2, l2, rfl, hG⟩ := hrel
    have r3 := hG.out.r.r.c3
    clear H0
    by_cases he : s2.e = 0
    · rw [he] at r3
      have hm2 : m2 ≤ 20000 := by have := hG.out.o.1; have := hG.out.pot; omega
      go_wp2_with fail
      refine (rdr_here w0 wr b n vl L s2 hG.out.r).mono ?_
      rintro e3 w3 hr
      obtain ⟨rfl, H3⟩ := hr.out1
      clear hr
      have hG0 := Lib.hid (hG.out.keep H3.out.1 H3.out.2)
      have hWR0 : Hid (remW L b w3 = remW L b wr) := Lib.hid (by rw [H3.out.1.rem, hG.out.r.rem])
      have HE := Lib.hid he
      clear he r3
      go_wp2_with fail
      refine (rdr_take w0 w3 b n vl L s2 [42] hG0.out.r).mono ?_
      rintro e40 w40 hr
      obtain ⟨rfl, H40⟩ := hr.out1
      clear hr
      cases hB0 : isT L s2 [42] with
      | true =>
        rw [takeT, if_pos hB0] at H40
        have hk : whichT L s2 mulOps = some 7 := by
          unfold mulOps whichT
          rw [if_pos hB0]
        have HS := Lib.hid (hG0.out.sign HE.out hk H40.out.1 H40.out.2)
        go_wp2_with fail
        refine (HGP.out.2.2.2 w40 s2.go _ m2 l2 H40.out.1 HS.out.1 HS.out.2.1 (by have := HS.out.2.2.1; omega) HS.out.2.2.2.1).mono ?_
        rintro e5 w5 ⟨ao5, m5, c5, rfl, o5, r5, cc5, f5⟩
        have hm5 : m5 ≤ 20000 := by have := o5.1; have := HGP.out.2.2.1 s2.go l2 H40.out.1.lt; have := HS.out.2.2.1; omega
        have H5 := Lib.hid (And.intro o5 (And.intro r5 (And.intro cc5 f5)))
        clear o5 r5 cc5 f5
        go_wp2_with fail
        refine (ref_two w5 (b + 1) _ m5 _ _ _ _ H5.out.1 (by omega) H5.out.2.1.blt trivial).mono ?_
        rintro e6 w6 ⟨ao6, m6, c6, rfl, o6, cc6, f6⟩
        have hml : ((m2 : Int) - 1) = ((l2.length : Int) - 1) := by rw [hG0.out.o.1]
        rw [hml] at o6
        obtain ⟨⟨q', N1⟩, hms⟩ := hG0.out.next HGP.out.2.1 HGP.out.2.2.1 HE.out hk H40.out.1 H40.out.2 H5.out.1 H5.out.2.1 H5.out.2.2.1 H5.out.2.2.2 o6 cc6 f6
        have HN1 := Lib.hid (And.intro N1 hms)
        clear o6 cc6 f6 N1 hms hml
        go_wp2_with fail
        exact ⟨⟨ao6, m6, c6, q', _, _, rfl, Lib.hid HN1.out.1⟩, by rw [← hWR0.out]; exact HN1.out.2⟩
      | false =>
        rw [takeT, hB0, if_neg (by simp)] at H40
        have hG1 := Lib.hid (hG0.out.keep H40.out.1 H40.out.2)
        have hWR1 : Hid (remW L b w40 = remW L b wr) := Lib.hid (by rw [H40.out.1.rem, hG.out.r.rem])
        go_wp2_with fail
        refine (rdr_take w0 w40 b n vl L s2 [47] hG1.out.r).mono ?_
        rintro e41 w41 hr
        obtain ⟨rfl, H41⟩ := hr.out1
        clear hr
        cases hB1 : isT L s2 [47] with
        | true =>
          rw [takeT, if_pos hB1] at H41
          have hk : whichT L s2 mulOps = some 8 := by
            unfold mulOps whichT
            rw [hB0, if_neg (by simp)]
            unfold whichT
            rw [if_pos hB1]
          have HS := Lib.hid (hG1.out.sign HE.out hk H41.out.1 H41.out.2)
          go_wp2_with fail
          refine (HGP.out.2.2.2 w41 s2.go _ m2 l2 H41.out.1 HS.out.1 HS.out.2.1 (by have := HS.out.2.2.1; omega) HS.out.2.2.2.1).mono ?_
          rintro e5 w5 ⟨ao5, m5, c5, rfl, o5, r5, cc5, f5⟩
          have hm5 : m5 ≤ 20000 := by have := o5.1; have := HGP.out.2.2.1 s2.go l2 H41.out.1.lt; have := HS.out.2.2.1; omega
          have H5 := Lib.hid (And.intro o5 (And.intro r5 (And.intro cc5 f5)))
          clear o5 r5 cc5 f5
          go_wp2_with fail
          refine (ref_two w5 (b + 1) _ m5 _ _ _ _ H5.out.1 (by omega) H5.out.2.1.blt trivial).mono ?_
          rintro e6 w6 ⟨ao6, m6, c6, rfl, o6, cc6, f6⟩
          have hml : ((m2 : Int) - 1) = ((l2.length : Int) - 1) := by rw [hG1.out.o.1]
          rw [hml] at o6
          obtain ⟨⟨q', N1⟩, hms⟩ := hG1.out.next HGP.out.2.1 HGP.out.2.2.1 HE.out hk H41.out.1 H41.out.2 H5.out.1 H5.out.2.1 H5.out.2.2.1 H5.out.2.2.2 o6 cc6 f6
          have HN1 := Lib.hid (And.intro N1 hms)
          clear o6 cc6 f6 N1 hms hml
          go_wp2_with fail
          exact ⟨⟨ao6, m6, c6, q', _, _, rfl, Lib.hid HN1.out.1⟩, by rw [← hWR1.out]; exact HN1.out.2⟩
        | false =>
          rw [takeT, hB1, if_neg (by simp)] at H41
          have hG2 := Lib.hid (hG1.out.keep H41.out.1 H41.out.2)
          have hWR2 : Hid (remW L b w41 = remW L b wr) := Lib.hid (by rw [H41.out.1.rem, hG.out.r.rem])
          go_wp2_with fail
          refine (rdr_take w0 w41 b n vl L s2 [37] hG2.out.r).mono ?_
          rintro e42 w42 hr
          obtain ⟨rfl, H42⟩ := hr.out1
          clear hr
          cases hB2 : isT L s2 [37] with
          | true =>
            rw [takeT, if_pos hB2] at H42
            have hk : whichT L s2 mulOps = some 9 := by
              unfold mulOps whichT
              rw [hB0, if_neg (by simp)]
              unfold whichT
              rw [hB1, if_neg (by simp)]
              unfold whichT
              rw [if_pos hB2]
            have HS := Lib.hid (hG2.out.sign HE.out hk H42.out.1 H42.out.2)
            go_wp2_with fail
            refine (HGP.out.2.2.2 w42 s2.go _ m2 l2 H42.out.1 HS.out.1 HS.out.2.1 (by have := HS.out.2.2.1; omega) HS.out.2.2.2.1).mono ?_
            rintro e5 w5 ⟨ao5, m5, c5, rfl, o5, r5, cc5, f5⟩
            have hm5 : m5 ≤ 20000 := by have := o5.1; have := HGP.out.2.2.1 s2.go l2 H42.out.1.lt; have := HS.out.2.2.1; omega
            have H5 := Lib.hid (And.intro o5 (And.intro r5 (And.intro cc5 f5)))
            clear o5 r5 cc5 f5
            go_wp2_with fail
            refine (ref_two w5 (b + 1) _ m5 _ _ _ _ H5.out.1 (by omega) H5.out.2.1.blt trivial).mono ?_
            rintro e6 w6 ⟨ao6, m6, c6, rfl, o6, cc6, f6⟩
            have hml : ((m2 : Int) - 1) = ((l2.length : Int) - 1) := by rw [hG2.out.o.1]
            rw [hml] at o6
            obtain ⟨⟨q', N1⟩, hms⟩ := hG2.out.next HGP.out.2.1 HGP.out.2.2.1 HE.out hk H42.out.1 H42.out.2 H5.out.1 H5.out.2.1 H5.out.2.2.1 H5.out.2.2.2 o6 cc6 f6
            have HN1 := Lib.hid (And.intro N1 hms)
            clear o6 cc6 f6 N1 hms hml
            go_wp2_with fail
            exact ⟨⟨ao6, m6, c6, q', _, _, rfl, Lib.hid HN1.out.1⟩, by rw [← hWR2.out]; exact HN1.out.2⟩
          | false =>
            rw [takeT, hB2, if_neg (by simp)] at H42
            have hG3 := Lib.hid (hG2.out.keep H42.out.1 H42.out.2)
            have hWR3 : Hid (remW L b w42 = remW L b wr) := Lib.hid (by rw [H42.out.1.rem, hG.out.r.rem])
            go_wp2_with fail
            go_ret
            refine hG3.out.done (.inr ?_)
            unfold mulOps whichT
            rw [hB0, if_neg (by simp)]
            unfold whichT
            rw [hB1, if_neg (by simp)]
            unfold whichT
            rw [hB2, if_neg (by simp)]
            rfl
    · have he2 : (s2.e == 0) = false := by simpa using he
      go_wp2_with fail
      go_ret
      exact hG.out.done (.inl he)

theorem sum_walk (U : EX) (w0 : World) (b n : Nat) (vl : Value) (L : List Tk) (N : Nat) (hL : TokL L) (hG : ∀ s l, Goes L s (U s l).2) (hP : PotOk L U) (K : ExK 188 U w0 b n vl L N) :
    ExK 180 (opT L addOps U N) w0 b n vl L N := by
  intro w s v m l hr ho hn hp hd
  have P := K w s v m l hr ho hn hp hd
  obtain ⟨R, hR⟩ : ∃ R, opT L addOps U N s l = R := ⟨_, rfl⟩
  rw [hR]
  have HR : Hid (opLoop L addOps U N (U s l).2 (U s l).1 = R) := Lib.hid hR
  have HX := Lib.hid (And.intro ((hG s l).lt hr.lt) (And.intro ((hG s l).rem) (And.intro (hP s l hr.lt) ((hG s l).dok hd))))
  have HN := Lib.hid (And.intro hn hp)
  have HGP := Lib.hid (And.intro hL (And.intro hG (And.intro hP K)))
  obtain ⟨ao0, c0, rfl⟩ := ho.shape
  clear hr ho hn hp hd hR hG hP K hL
  go_enter Tryz.func180, Tryz.ntmps180
  go_wp2_with fail
  refine P.mono ?_
  rintro e1 w1 ⟨ao1, m1, c1, rfl, ho1, hr1, hc1, hf1⟩
  have H0 : Hid (OpAt w0 w w1 b n vl L (.slice ao0 m c0) (.slice ao1 m1 c1) m1 (U s l).2 (U s l).1 R addOps U N N) := Lib.hid
    ⟨hr1, ho1, hc1, hf1, HR.out, by have := HX.out.2.1; have := HN.out.1; omega, by have := HX.out.2.1; have := HN.out.1; omega, by have := HX.out.2.2.1; have := HN.out.2; omega, HX.out.2.2.2⟩
  clear P ho1 hr1 hc1 hf1 HX HN HR
  generalize (U s l).2 = s1 at *
  generalize (U s l).1 = l1 at *
  go_wp2_with fail
  go_loopw [1, 5, 6] (fun x y z wr => ∃ (ao : Option Addr) (m2 c2 q : Nat) (s2 : PS) (l2 : List Nd), x = .slice ao m2 c2 ∧ Hid (OpAt w0 w wr b n vl L (.slice ao0 m c0) (.slice ao m2 c2) m2 s2 l2 R addOps U q N))
    (fun _ _ _ wr => remW L b wr)
  case atStart => exact ⟨ao1, m1, c1, N, s1, l1, rfl, H0⟩
  case round =>
    obtain ⟨ao, m2, c2, q, s2, l2, rfl, hG⟩ := hrel
    have r3 := hG.out.r.r.c3
    clear H0
    by_cases he : s2.e = 0
    · rw [he] at r3
      have hm2 : m2 ≤ 20000 := by have := hG.out.o.1; have := hG.out.pot; omega
      go_wp2_with fail
      refine (rdr_here w0 wr b n vl L s2 hG.out.r).mono ?_
      rintro e3 w3 hr
      obtain ⟨rfl, H3⟩ := hr.out1
      clear hr
      have hG0 := Lib.hid (hG.out.keep H3.out.1 H3.out.2)
      have hWR0 : Hid (remW L b w3 = remW L b wr) := Lib.hid (by rw [H3.out.1.rem, hG.out.r.rem])
      have HE := Lib.hid he
      clear he r3
      go_wp2_with fail
      refine (rdr_take w0 w3 b n vl L s2 [43] hG0.out.r).mono ?_
      rintro e40 w40 hr
      obtain ⟨rfl, H40⟩ := hr.out1
      clear hr
      cases hB0 : isT L s2 [43] with
      | true =>
        rw [takeT, if_pos hB0] at H40
        have hk : whichT L s2 addOps = some 5 := by
          unfold addOps whichT
          rw [if_pos hB0]
        have HS := Lib.hid (hG0.out.sign HE.out hk H40.out.1 H40.out.2)
        go_wp2_with fail
        refine (HGP.out.2.2.2 w40 s2.go _ m2 l2 H40.out.1 HS.out.1 HS.out.2.1 (by have := HS.out.2.2.1; omega) HS.out.2.2.2.1).mono ?_
        rintro e5 w5 ⟨ao5, m5, c5, rfl, o5, r5, cc5, f5⟩
        have hm5 : m5 ≤ 20000 := by have := o5.1; have := HGP.out.2.2.1 s2.go l2 H40.out.1.lt; have := HS.out.2.2.1; omega
        have H5 := Lib.hid (And.intro o5 (And.intro r5 (And.intro cc5 f5)))
        clear o5 r5 cc5 f5
        go_wp2_with fail
        refine (ref_two w5 (b + 1) _ m5 _ _ _ _ H5.out.1 (by omega) H5.out.2.1.blt trivial).mono ?_
        rintro e6 w6 ⟨ao6, m6, c6, rfl, o6, cc6, f6⟩
        have hml : ((m2 : Int) - 1) = ((l2.length : Int) - 1) := by rw [hG0.out.o.1]
        rw [hml] at o6
        obtain ⟨⟨q', N1⟩, hms⟩ := hG0.out.next HGP.out.2.1 HGP.out.2.2.1 HE.out hk H40.out.1 H40.out.2 H5.out.1 H5.out.2.1 H5.out.2.2.1 H5.out.2.2.2 o6 cc6 f6
        have HN1 := Lib.hid (And.intro N1 hms)
        clear o6 cc6 f6 N1 hms hml
        go_wp2_with fail
        exact ⟨⟨ao6, m6, c6, q', _, _, rfl, Lib.hid HN1.out.1⟩, by rw [← hWR0.out]; exact HN1.out.2⟩
      | false =>
        rw [takeT, hB0, if_neg (by simp)] at H40
        have hG1 := Lib.hid (hG0.out.keep H40.out.1 H40.out.2)
        have hWR1 : Hid (remW L b w40 = remW L b wr) := Lib.hid (by rw [H40.out.1.rem, hG.out.r.rem])
        go_wp2_with fail
        refine (rdr_take w0 w40 b n vl L s2 [45] hG1.out.r).mono ?_
        rintro e41 w41 hr
        obtain ⟨rfl, H41⟩ := hr.out1
        clear hr
        cases hB1 : isT L s2 [45] with
        | true =>
          rw [takeT, if_pos hB1] at H41
          have hk : whichT L s2 addOps = some 6 := by
            unfold addOps whichT
            rw [hB0, if_neg (by simp)]
            unfold whichT
            rw [if_pos hB1]
          have HS := Lib.hid (hG1.out.sign HE.out hk H41.out.1 H41.out.2)
          go_wp2_with fail
          refine (HGP.out.2.2.2 w41 s2.go _ m2 l2 H41.out.1 HS.out.1 HS.out.2.1 (by have := HS.out.2.2.1; omega) HS.out.2.2.2.1).mono ?_
          rintro e5 w5 ⟨ao5, m5, c5, rfl, o5, r5, cc5, f5⟩
          have hm5 : m5 ≤ 20000 := by have := o5.1; have := HGP.out.2.2.1 s2.go l2 H41.out.1.lt; have := HS.out.2.2.1; omega
          have H5 := Lib.hid (And.intro o5 (And.intro r5 (And.intro cc5 f5)))
          clear o5 r5 cc5 f5
          go_wp2_with fail
          refine (ref_two w5 (b + 1) _ m5 _ _ _ _ H5.out.1 (by omega) H5.out.2.1.blt trivial).mono ?_
          rintro e6 w6 ⟨ao6, m6, c6, rfl, o6, cc6, f6⟩
          have hml : ((m2 : Int) - 1) = ((l2.length : Int) - 1) := by rw [hG1.out.o.1]
          rw [hml] at o6
          obtain ⟨⟨q', N1⟩, hms⟩ := hG1.out.next HGP.out.2.1 HGP.out.2.2.1 HE.out hk H41.out.1 H41.out.2 H5.out.1 H5.out.2.1 H5.out.2.2.1 H5.out.2.2.2 o6 cc6 f6
          have HN1 := Lib.hid (And.intro N1 hms)
          clear o6 cc6 f6 N1 hms hml
          go_wp2_with fail
          exact ⟨⟨ao6, m6, c6, q', _, _, rfl, Lib.hid HN1.out.1⟩, by rw [← hWR1.out]; exact HN1.out.2⟩
        | false =>
          rw [takeT, hB1, if_neg (by simp)] at H41
          have hG2 := Lib.hid (hG1.out.keep H41.out.1 H41.out.2)
          have hWR2 : Hid (remW L b w41 = remW L b wr) := Lib.hid (by rw [H41.out.1.rem, hG.out.r.rem])
          go_wp2_with fail
          go_ret
          refine hG2.out.done (.inr ?_)
          unfold addOps whichT
          rw [hB0, if_neg (by simp)]
          unfold whichT
          rw [hB1, if_neg (by simp)]
          rfl
    · have he2 : (s2.e == 0) = false := by simpa using he
      go_wp2_with fail
      go_ret
      exact hG.out.done (.inl he)


end Go.Proofs.YtlgfijjkbomejaaGreatDoor
