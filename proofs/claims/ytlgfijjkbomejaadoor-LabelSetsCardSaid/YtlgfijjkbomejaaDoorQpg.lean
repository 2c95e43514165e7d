/- The code's comparison, prefix and unary, over what they are asked of; expr. Numbers and types by name. -/
import Derived.Test.YtlgfijjkbomejaaDoorPan
import Derived.Test.YtlgfijjkbomejaaDoorPay
import Derived.Deep.Cut
import Derived.Deep.CutBlock
import Derived.Deep.CutRange
import Derived.Test.YtlgfijjkbomejaaDoorQpb
import Derived.WalkMore
import Derived.Shelf.Strconv.Atoi
import Derived.Test.YtlgfijjkbomejaaDoorProg
/- The parser's plain model: how long lists of nodes get; how deep. Plain facts. Numbers and types by name. -/
namespace Go.Proofs.YtlgfijjkbomejaaDoor
open Go.RowKit Go.Lib

variable {L : List Tk}
/-- Each node has a token of its own. -/
def PotOk (L : List Tk) (U : EX) : Prop := ∀ s l, s.i < L.length → (U s l).1.length + remT L (U s l).2 ≤ l.length + remT L s
theorem two_len (l : List Nd) (a k : Int) (pos : Nat) : (twoT l a k pos).length = l.length + 1 := by
  unfold twoT
  rw [List.length_append]
  rfl
theorem opLoop_pot (hL : TokL L) (ops : List (List UInt8 × Int)) {U : EX} (hU : ∀ s l, Goes L s (U s l).2) (hP : PotOk L U) : ∀ n, PotOk L (opLoop L ops U n)
  | 0 => fun s l _ => Nat.le_refl _
  | n + 1 => fun s l hi => by
    unfold opLoop
    split
    · exact Nat.le_refl _
    · cases h : whichT L s ops with
      | none => exact Nat.le_refl _
      | some k =>
        obtain ⟨t, ht⟩ := which_is h
        have h1 := isT_more hL ht hi
        have h2 := hP s.go l h1
        have h3 := opLoop_pot hL ops hU hP n (U s.go l).2 (twoT (U s.go l).1 ((l.length : Int) - 1) k (curT L s).pos) ((hU _ _).lt h1)
        have h4 := rem_go (L := L) (isT_e ht).1 hi
        rw [two_len] at h3
        simp only
        omega
theorem opT_pot (hL : TokL L) (ops : List (List UInt8 × Int)) {U : EX} (hU : ∀ s l, Goes L s (U s l).2) (hP : PotOk L U) (n : Nat) : PotOk L (opT L ops U n) := fun s l hi => by
  have h1 := hP s l hi
  have h2 := opLoop_pot hL ops hU hP n (U s l).2 (U s l).1 ((hU _ _).lt hi)
  unfold opT
  simp only
  omega
theorem expr_pot (hL : TokL L) {U : EX} (hU : ∀ s l, Goes L s (U s l).2) (hP : PotOk L U) (n : Nat) : PotOk L (exprT L U n) := fun s l hi => by
  have hS : ∀ s l, Goes L s (sumT L U n s l).2 := fun s l => opT_goes hL _ (fun s l => opT_goes hL _ hU n s l) n s l
  have hPS : PotOk L (sumT L U n) := opT_pot hL _ (fun s l => opT_goes hL _ hU n s l) (opT_pot hL _ hU hP n) n
  have h1 := hPS s l hi
  unfold exprT
  simp only
  cases h : whichT L (sumT L U n s l).2 relOps with
  | none => exact h1
  | some k =>
    obtain ⟨t, ht⟩ := which_is h
    have hi1 := (hS s l).lt hi
    have h2 := isT_more hL ht hi1
    have h3 := hPS (sumT L U n s l).2.go (sumT L U n s l).1 h2
    have h4 := rem_go (L := L) (isT_e ht).1 hi1
    simp only
    rw [two_len]
    omega
theorem rem_shut (s : PS) : remT L s.shut = remT L s := rfl
theorem open_lt (hL : TokL L) {s : PS} {t : List UInt8} (hi : s.i < L.length) : (openT L s t).i < L.length := by
  have h1 : Goes L s (if isT L s t = true ∧ 40 ≤ s.deep then failT L s 12 else s) := by
    split
    · exact fail_goes _ _
    · exact Goes.refl _ _
  exact (h1.trans (want_goes hL _ t)).lt hi
theorem unary_pot (hL : TokL L) : ∀ n, PotOk L (unaryT L n)
  | 0 => fun s l _ => Nat.le_refl _
  | n + 1 => fun s l hi => by
    unfold unaryT
    simp only
    split
    · exact Nat.le_refl _
    rename_i he
    have he : s.e = 0 := by simpa using he
    split
    · have h1 := unary_pot hL n (openT L s (curT L s).text) l (open_lt hL hi)
      have h2 := rem_open (L := L) (t := (curT L s).text) he hi
      simp only [List.length_append, List.length_singleton, rem_shut]
      omega
    split
    · have h1 := expr_pot hL (unary_goes hL n) (unary_pot hL n) n (openT L s [40]) l (open_lt hL hi)
      have h2 := rem_open (L := L) (t := [40]) he hi
      have h3 := (want_goes hL (exprT L (unaryT L n) n (openT L s [40]) l).2 [41]).rem
      simp only [rem_shut]
      omega
    split
    · have := rem_go (L := L) he hi
      simp only [List.length_append, List.length_singleton]
      omega
    split
    · have := rem_qname hL he hi
      simp only [List.length_append, List.length_singleton]
      omega
    · have := rem_fail (L := L) (x := 11) (by decide) he hi
      simp only
      omega

/-- So deep. -/
def Dok (s : PS) : Prop := s.deep ≤ 100 ∧ (s.e = 0 → s.deep ≤ 40)
theorem Goes.e0 {s s' : PS} (h : Goes L s s') (he : s'.e = 0) : s.e = 0 := by
  by_cases hs : s.e = 0
  · exact hs
  · rw [h.err hs] at he
    exact he
theorem Goes.dok {s s' : PS} (h : Goes L s s') (hd : Dok s) : Dok s' := ⟨by rw [h.deep]; exact hd.1, fun he => by rw [h.deep]; exact hd.2 (h.e0 he)⟩
theorem open_deep (hL : TokL L) (s : PS) (t : List UInt8) : (openT L s t).deep = s.deep + 1 := by
  have h1 : Goes L s (if isT L s t = true ∧ 40 ≤ s.deep then failT L s 12 else s) := by
    split
    · exact fail_goes _ _
    · exact Goes.refl _ _
  unfold openT
  simp only
  rw [(h1.trans (want_goes hL _ t)).deep]
theorem open_e {s : PS} {t : List UInt8} (he : (openT L s t).e = 0) : s.e = 0 ∧ isT L s t = true ∧ s.deep < 40 := by
  unfold openT at he
  simp only at he
  split at he
  · exfalso
    have h1 : (failT L s 12).e ≠ 0 := fail_e (by decide)
    unfold wantT at he
    rw [isT_err h1, if_neg (by simp), fail_err h1] at he
    exact h1 he
  · rename_i h
    unfold wantT at he
    split at he
    · rename_i h2
      refine ⟨(isT_e h2).1, h2, ?_⟩
      rw [not_and] at h
      have := h h2
      omega
    · exact absurd he (fail_e (by decide))
theorem open_dok (hL : TokL L) {s : PS} (t : List UInt8) (hd : s.deep ≤ 41) : Dok (openT L s t) := by
  have h1 := open_deep hL s t
  refine ⟨by omega, fun he => ?_⟩
  have := open_e he
  omega

end Go.Proofs.YtlgfijjkbomejaaDoor

/- What is asked of the reference's pieces that append nodes; sum, over term. Numbers and types by name. -/
namespace Go.Proofs.YtlgfijjkbomejaaDoor
open Go.RowKit Go.Lib
set_option maxRecDepth 100000

theorem Chg.more {b : Nat} {v v1 : Value} {w w1 w2 : World} (h : Chg (b :: rowF v) w w1) (hf : FromRow w v v1) {F : List Nat} (h2 : Chg F w1 w2) (hF : ∀ x ∈ F, x = b ∨ x ∈ rowF v1) : Chg (b :: rowF v) w w2 :=
  h.trans' h2 fun x hx => by
    rcases hF x hx with rfl | hx
    · exact .inl (List.mem_cons_self ..)
    · exact hf.mem hx fun y hy => List.mem_cons_of_mem _ hy
/-- What is left, by a reader's cells. -/
def remW (L : List Tk) (b : Nat) (w : World) : Nat :=
  match w.cell? ⟨b, 3, none⟩, w.cell? ⟨b, 1, none⟩ with
  | some (.int _ e), some (.int _ i) => if e ≠ 0 then 0 else L.length - i.toNat
  | _, _ => 0
theorem Rdr.rem {w0 w : World} {b n : Nat} {vl : Value} {L : List Tk} {s : PS} (h : Rdr w0 w b n vl L s) : remW L b w = remT L s := by
  unfold remW remT
  rw [h.r.c3, h.r.c1]
  simp

end Go.Proofs.YtlgfijjkbomejaaDoor

/- The reference's expr, over sum. Numbers and types by name. -/
namespace Go.Proofs.YtlgfijjkbomejaaDoor
open Go.RowKit Go.Lib
set_option maxRecDepth 100000

theorem rel_none {L : List Tk} {s : PS} (h : ∀ j t, j < 3 → relOps[j]? = some t → isT L s t.1 = false) : whichT L s relOps = none := by
  have h0 := h 0 _ (by decide) rfl
  have h1 := h 1 _ (by decide) rfl
  have h2 := h 2 _ (by decide) rfl
  unfold relOps whichT
  rw [h0, if_neg (by simp)]
  unfold whichT
  rw [h1, if_neg (by simp)]
  unfold whichT
  rw [h2, if_neg (by simp)]
  rfl
theorem rel_some {L : List Tk} {s : PS} {k : Nat} (hk : k < 3) (h : ∀ j t, j < k → relOps[j]? = some t → isT L s t.1 = false) {t : List UInt8 × Int} (ht : relOps[k]? = some t) (hb : isT L s t.1 = true) : whichT L s relOps = some t.2 := by
  rcases (by omega : k = 0 ∨ k = 1 ∨ k = 2) with rfl | rfl | rfl
  · cases ht
    unfold relOps whichT
    rw [if_pos hb]
  · have h0 := h 0 _ (by decide) rfl
    cases ht
    unfold relOps whichT
    rw [h0, if_neg (by simp)]
    unfold whichT
    rw [if_pos hb]
  · have h0 := h 0 _ (by decide) rfl
    have h1 := h 1 _ (by decide) rfl
    cases ht
    unfold relOps whichT
    rw [h0, if_neg (by simp)]
    unfold whichT
    rw [h1, if_neg (by simp)]
    unfold whichT
    rw [if_pos hb]

end Go.Proofs.YtlgfijjkbomejaaDoor

/- The reference's unary, over itself and expr. Numbers and types by name. -/
namespace Go.Proofs.YtlgfijjkbomejaaDoor
open Go.RowKit Go.Lib
set_option maxRecDepth 100000

theorem cur_mem {L : List Tk} {s : PS} (h : s.i < L.length) : curT L s ∈ L := by
  unfold curT
  rw [List.getD_eq_getElem?_getD, List.getElem?_eq_getElem h]
  exact List.getElem_mem h
/-- A token's own block. -/
structure TokC (w : World) (T : Nat) (t : Tk) : Prop where
  ck : w.cell? ⟨T, 0, none⟩ = some (.int .i64 t.kind)
  ct : w.cell? ⟨T, 1, none⟩ = some (.string (tx t.text))
  cp : w.cell? ⟨T, 2, none⟩ = some (.int .i64 (t.pos : Int))
theorem TokC.chg {w w' : World} {T : Nat} {t : Tk} {F : List Nat} (h : TokC w T t) (hc : Chg F w w') (hT : T ∉ F) : TokC w' T t := ⟨hc.cell h.ck hT, hc.cell h.ct hT, hc.cell h.cp hT⟩

end Go.Proofs.YtlgfijjkbomejaaDoor

/- The code's pieces that append nodes: what is asked of them; binary. Numbers and types by name. -/
namespace Go.Proofs.YtlgfijjkbomejaaDoor
open Go.RowKit Go.Lib
set_option maxRecDepth 100000

/-- A function that is entered when it is called. -/
def Enters (f : FuncId) : Prop := ∀ (args : Array Value) (w : World), (callFunc f args).run Tryd.prog w = .ok (.enter f args) w

def tokO (t : Tk) : Obj := .cells #[.int .i64 t.kind, .string (tx t.text), .int .i64 (t.pos : Int)] 80

end Go.Proofs.YtlgfijjkbomejaaDoor

/- The code's sum and term, over what they are asked of. Numbers and types by name. -/
namespace Go.Proofs.YtlgfijjkbomejaaDoor
open Go.RowKit Go.Lib
set_option maxRecDepth 100000

theorem opLoop_err {L : List Tk} {ops : List (List UInt8 × Int)} {U : EX} {n : Nat} {s : PS} {l : List Nd} (h : s.e ≠ 0) : opLoop L ops U n s l = (l, s) := by
  cases n with
  | zero => rfl
  | succ n =>
    unfold opLoop
    rw [if_pos h]
/-- What is left, by a parser's cells. -/
def lenW (b : Nat) (w : World) : Nat :=
  match w.cell? ⟨b, 0, none⟩ with
  | some (.slice _ n _) => n
  | _ => 0
theorem Psr.len {w0 w : World} {b : Nat} {L : List Tk} {s : PS} (h : Psr w0 w b L s) : lenW b w = L.length - s.i := by
  obtain ⟨a, n, c, h1, h2, _⟩ := h.r
  unfold lenW
  rw [h1.c0]
  show n = _
  omega

variable {w0 w wr : World} {b : Nat} {L : List Tk} {v v1 : Value} {m : Nat} {s : PS} {l : List Nd} {R : List Nd × PS} {ops : List (List UInt8 × Int)} {U : EX} {q N : Nat}
end Go.Proofs.YtlgfijjkbomejaaDoor

/- Laid by hand. -/


/- The code's parser: number, param. Numbers and types by name. -/
namespace Go.Proofs.YtlgfijjkbomejaaDoor
open Go.RowKit Go.Lib
set_option maxRecDepth 100000

theorem decFrom_digs : ∀ (l : List UInt8) (acc : Nat), (∀ c ∈ l, isDig c = true) → Lib.decFrom acc l = some (l.foldl (fun n c => 10 * n + (c.toNat - 48)) acc)
  | [], _, _ => rfl
  | c :: l, acc, h => by
    have hc := h c (List.mem_cons_self ..)
    unfold isDig at hc
    simp only [Bool.and_eq_true, decide_eq_true_eq] at hc
    unfold Lib.decFrom Lib.digitVal
    rw [if_pos hc]
    simp only
    rw [decFrom_digs l _ (fun x hx => h x (List.mem_cons_of_mem _ hx)), List.foldl_cons, Nat.mul_comm]
theorem atoi_digs {l : List UInt8} (h0 : l ≠ []) (h : ∀ c ∈ l, isDig c = true) : Lib.atoi l = some ((numV l : Nat) : Int) := by
  cases l with
  | nil => exact absurd rfl h0
  | cons c r =>
    have hc := h c (List.mem_cons_self ..)
    unfold isDig at hc
    simp only [Bool.and_eq_true, decide_eq_true_eq] at hc
    change (if (c == 45) = true then _ else if (c == 43) = true then _ else _) = _
    rw [if_neg (by intro e; rw [eq_of_beq e] at hc; exact absurd hc.1 (by decide)), if_neg (by intro e; rw [eq_of_beq e] at hc; exact absurd hc.1 (by decide))]
    unfold Lib.decNat
    rw [if_neg (by simp), decFrom_digs _ _ h]
    rfl
theorem cur_memT {L : List Tk} {s : PS} (h : s.i < L.length) : curT L s ∈ L := by
  unfold curT
  rw [List.getD_eq_getElem?_getD, List.getElem?_eq_getElem h]
  exact List.getElem_mem h

/-- Where a number must stand. -/
def numQ (L : List Tk) (s : PS) : PS := if (curT L s).kind = 2 then s.go else { s with e := 11, pos := (curT L s).pos }
end Go.Proofs.YtlgfijjkbomejaaDoor

namespace Go.Proofs.YtlgfijjkbomejaaDoor
open Go.RowKit Go.Lib
set_option maxRecDepth 100000

theorem pnk_shut (s : PS) : Pnk s.shut = Pnk s := rfl
theorem open_words {t : List UInt8} (h : t = [45] ∨ t = [33] ∨ t = [40]) : t ∈ wordsL := by rcases h with rfl | rfl | rfl <;> decide

end Go.Proofs.YtlgfijjkbomejaaDoor
