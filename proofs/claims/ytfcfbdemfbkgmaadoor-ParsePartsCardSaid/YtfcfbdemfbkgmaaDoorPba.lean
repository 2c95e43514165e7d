/- The reference's expr, over sum. Numbers and types by name. -/
import Derived.Test.YtfcfbdemfbkgmaaDoorPax
import Derived.Test.YtfcfbdemfbkgmaaDoorLxj
/- Lists of nodes; the reference's two and num. Numbers and types by name. -/
namespace Go.Proofs.YtfcfbdemfbkgmaaDoor
open Go.RowKit Go.Lib
set_option maxRecDepth 100000

def nv (o : Nd) : List Value := [.int .i64 o.kind, .int .i64 o.num, .string (tx o.mod), .string (tx o.name), .int .i64 o.a, .int .i64 o.b, .int .i64 (o.pos : Int)]
def nvs (L : List Nd) : List Value := L.flatMap nv
theorem nvs_length (L : List Nd) : (nvs L).length = L.length * 7 := by
  induction L with
  | nil => rfl
  | cons o L ih => simp only [nvs, List.flatMap_cons, List.length_append, List.length_cons] at *; rw [ih]; simp [nv]; omega
theorem nvs_snoc (L : List Nd) (o : Nd) : nvs (L ++ [o]) = nvs L ++ nv o := by simp [nvs]
theorem nvs_at {L : List Nd} {k : Nat} {o : Nd} (h : L[k]? = some o) (j : Nat) (hj : j < 7) : (nvs L)[k * 7 + j]? = (nv o)[j]? := by
  induction L generalizing k with
  | nil => cases h
  | cons p L ih =>
    have e : nvs (p :: L) = nv p ++ nvs L := by simp [nvs]
    cases k with
    | zero =>
      simp only [List.getElem?_cons_zero, Option.some.injEq] at h
      subst h
      rw [e, Nat.zero_mul, Nat.zero_add, List.getElem?_append_left (by simp [nv]; omega)]
    | succ k =>
      rw [List.getElem?_cons_succ] at h
      rw [e, List.getElem?_append_right (by simp [nv]; omega), ← ih h]
      congr 1
      simp [nv]; omega
theorem nv_one (o : Nd) : ∀ u ∈ nv o, u.oneCell' = true := by
  intro u hu
  simp only [nv, List.mem_cons, List.not_mem_nil, or_false] at hu
  rcases hu with rfl | rfl | rfl | rfl | rfl | rfl | rfl <;> rfl
theorem elemNode : Elem 85 97 (.agg #[.int .i64 0, .int .i64 0, .string ⟨#[]⟩, .string ⟨#[]⟩, .int .i64 0, .int .i64 0, .int .i64 0]) 7 72 := ⟨Tryd.underlying85, by kernel_rfl, by decide, by decide⟩
/-- A list of nodes can be read. -/
def Ndr (w : World) (v : Value) (n : Nat) (L : List Nd) : Prop := n = L.length ∧ n ≤ 100000 ∧ Cells w v 7 n (nvs L)
theorem Ndr.shape {w : World} {v : Value} {n : Nat} {L : List Nd} (h : Ndr w v n L) : ∃ ao c, v = .slice ao n c := by
  obtain ⟨_, _, ao, c, rfl, _⟩ := h
  exact ⟨ao, c, rfl⟩
theorem Ndr.later {w w' : World} {v : Value} {n : Nat} {L : List Nd} (h : Ndr w v n L) (hg : Grow w w') : Ndr w' v n L := ⟨h.1, h.2.1, h.2.2.later hg⟩
theorem Ndr.nil (w : World) : Ndr w (.slice none 0 0) 0 [] := ⟨rfl, Nat.zero_le _, none, 0, rfl, rfl, Nat.le_refl _, fun _ => ⟨rfl, rfl⟩, fun a h => by cases h⟩
/-- Nodes' own row. -/
def OwnN (w : World) (base : Nat) (v : Value) (n : Nat) (L : List Nd) : Prop := n = L.length ∧ w.ownsRow base 97 7 v n (nvs L)
theorem OwnN.nil (w : World) (base : Nat) : OwnN w base (.slice none 0 0) 0 [] := ⟨rfl, World.ownsRow_nil _ _ _ _⟩
theorem OwnN.read {w : World} {base : Nat} {v : Value} {n : Nat} {L : List Nd} (h : OwnN w base v n L) (hn : n ≤ 100000) : Ndr w v n L := ⟨h.1, hn, Cells.own h.2 (by decide)⟩
theorem OwnN.shape {w : World} {base : Nat} {v : Value} {n : Nat} {L : List Nd} (h : OwnN w base v n L) : ∃ ao c, v = .slice ao n c := by
  rcases h.2.2 with ⟨rfl, rfl⟩ | ⟨g, cap, cur, rfl, _⟩
  · exact ⟨none, 0, rfl⟩
  · exact ⟨_, _, rfl⟩
theorem node_lit (w : World) (o : Nd) : Cells (w.alloc (.cells #[.int .i64 o.kind, .int .i64 o.num, .string (tx o.mod), .string (tx o.name), .int .i64 o.a, .int .i64 o.b, .int .i64 (o.pos : Int)] 97)) (.slice (some ⟨w.heap.size, 0, none⟩) 1 1) 7 1 (nv o) := Cells.lit w (nv o) 97 (0, 0) 7 1 rfl
/-- It stays where its block is left. -/
theorem OwnN.chg {w w' : World} {base : Nat} {v : Value} {n : Nat} {L : List Nd} {F : List Nat} (h : OwnN w base v n L) (hc : Chg F w w') (hF : ∀ k, v.ownBlock = some k → k ∉ F) : OwnN w' base v n L := by
  refine ⟨h.1, ?_⟩
  rcases h.2.2 with ⟨rfl, rfl⟩ | ⟨g, cap, cur, rfl, hb, hg, hr⟩
  · exact ⟨h.2.1, .inl ⟨rfl, rfl⟩⟩
  · exact ⟨h.2.1, .inr ⟨g, cap, cur, rfl, hb, (hc.block g (Array.getElem?_eq_some_iff.1 hg).1 (hF g rfl)).trans hg, hr⟩⟩
/-- The block of a row, if it has one. -/
def rowF (v : Value) : List Nat := v.ownBlock.toList
theorem rowF_mem {v : Value} {k : Nat} : k ∈ rowF v ↔ v.ownBlock = some k := by
  unfold rowF
  cases v.ownBlock <;> simp [eq_comm]
/-- A row that came out of another: in its block, or in a new one. -/
def FromRow (w : World) (v v' : Value) : Prop := v'.ownBlock = v.ownBlock ∨ ∀ k, v'.ownBlock = some k → w.heap.size ≤ k
theorem FromRow.refl (w : World) (v : Value) : FromRow w v v := .inl rfl
theorem FromRow.mem {w : World} {v v' : Value} (h : FromRow w v v') {F : List Nat} {x : Nat} (hx : x ∈ rowF v') (hF : ∀ y ∈ rowF v, y ∈ F) : x ∈ F ∨ w.heap.size ≤ x := by
  rw [rowF_mem] at hx
  rcases h with h | h
  · exact .inl (hF x (rowF_mem.2 (by rw [← h]; exact hx)))
  · exact .inr (h x hx)
theorem FromRow.trans {w w1 : World} {v v1 v2 : Value} (h : FromRow w v v1) (h2 : FromRow w1 v1 v2) (hs : w.heap.size ≤ w1.heap.size) : FromRow w v v2 := by
  rcases h2 with e | e
  · rcases h with h | h
    · exact .inl (e.trans h)
    · exact .inr fun k hk => h k (by rw [← e]; exact hk)
  · exact .inr fun k hk => Nat.le_trans hs (e k hk)

/-- What appends to a row leave. -/
def RetsA (w : World) (base : Nat) (v : Value) (l : List Nd) (e : Ending) (w' : World) : Prop :=
  ∃ ao m c, e = .returned (.slice ao m c) ∧ OwnN w' base (.slice ao m c) m l ∧ Chg (rowF v) w w' ∧ FromRow w v (.slice ao m c)
end Go.Proofs.YtfcfbdemfbkgmaaDoor

/- The parser's plain model: how long lists of nodes get; how deep. Plain facts. Numbers and types by name. -/
namespace Go.Proofs.YtfcfbdemfbkgmaaDoor
open Go.RowKit Go.Lib

variable {L : List Tk}
/-- Each node has a token of its own. -/
def PotOk (L : List Tk) (U : EX) : Prop := ∀ s l, s.i < L.length → (U s l).1.length + remT L (U s l).2 ≤ l.length + remT L s
theorem two_len (l : List Nd) (a k : Int) (pos : Nat) : (twoT l a k pos).length = l.length + 1 := by
  unfold twoT
  rw [List.length_append]
  rfl
theorem opLoop_pot (hL : TokL L) (ops : List (List UInt8 × Int)) {U : EX} (hU : ∀ s l, Goes L s (U s l).2) (hP : PotOk L U) : ∀ n, PotOk L (opLoop L ops U n)
  | 0 => fun s l _ => Nat.le_refl _
  | n + 1 => fun s l hi => by
    unfold opLoop
    split
    · exact Nat.le_refl _
    · cases h : whichT L s ops with
      | none => exact Nat.le_refl _
      | some k =>
        obtain ⟨t, ht⟩ := which_is h
        have h1 := isT_more hL ht hi
        have h2 := hP s.go l h1
        have h3 := opLoop_pot hL ops hU hP n (U s.go l).2 (twoT (U s.go l).1 ((l.length : Int) - 1) k (curT L s).pos) ((hU _ _).lt h1)
        have h4 := rem_go (L := L) (isT_e ht).1 hi
        rw [two_len] at h3
        simp only
        omega
theorem opT_pot (hL : TokL L) (ops : List (List UInt8 × Int)) {U : EX} (hU : ∀ s l, Goes L s (U s l).2) (hP : PotOk L U) (n : Nat) : PotOk L (opT L ops U n) := fun s l hi => by
  have h1 := hP s l hi
  have h2 := opLoop_pot hL ops hU hP n (U s l).2 (U s l).1 ((hU _ _).lt hi)
  unfold opT
  simp only
  omega
theorem expr_pot (hL : TokL L) {U : EX} (hU : ∀ s l, Goes L s (U s l).2) (hP : PotOk L U) (n : Nat) : PotOk L (exprT L U n) := fun s l hi => by
  have hS : ∀ s l, Goes L s (sumT L U n s l).2 := fun s l => opT_goes hL _ (fun s l => opT_goes hL _ hU n s l) n s l
  have hPS : PotOk L (sumT L U n) := opT_pot hL _ (fun s l => opT_goes hL _ hU n s l) (opT_pot hL _ hU hP n) n
  have h1 := hPS s l hi
  unfold exprT
  simp only
  cases h : whichT L (sumT L U n s l).2 relOps with
  | none => exact h1
  | some k =>
    obtain ⟨t, ht⟩ := which_is h
    have hi1 := (hS s l).lt hi
    have h2 := isT_more hL ht hi1
    have h3 := hPS (sumT L U n s l).2.go (sumT L U n s l).1 h2
    have h4 := rem_go (L := L) (isT_e ht).1 hi1
    simp only
    rw [two_len]
    omega
theorem rem_shut (s : PS) : remT L s.shut = remT L s := rfl
theorem open_lt (hL : TokL L) {s : PS} {t : List UInt8} (hi : s.i < L.length) : (openT L s t).i < L.length := by
  have h1 : Goes L s (if isT L s t = true ∧ 40 ≤ s.deep then failT L s 12 else s) := by
    split
    · exact fail_goes _ _
    · exact Goes.refl _ _
  exact (h1.trans (want_goes hL _ t)).lt hi
theorem unary_pot (hL : TokL L) : ∀ n, PotOk L (unaryT L n)
  | 0 => fun s l _ => Nat.le_refl _
  | n + 1 => fun s l hi => by
    unfold unaryT
    simp only
    split
    · exact Nat.le_refl _
    rename_i he
    have he : s.e = 0 := by simpa using he
    split
    · have h1 := unary_pot hL n (openT L s (curT L s).text) l (open_lt hL hi)
      have h2 := rem_open (L := L) (t := (curT L s).text) he hi
      simp only [List.length_append, List.length_singleton, rem_shut]
      omega
    split
    · have h1 := expr_pot hL (unary_goes hL n) (unary_pot hL n) n (openT L s [40]) l (open_lt hL hi)
      have h2 := rem_open (L := L) (t := [40]) he hi
      have h3 := (want_goes hL (exprT L (unaryT L n) n (openT L s [40]) l).2 [41]).rem
      simp only [rem_shut]
      omega
    split
    · have := rem_go (L := L) he hi
      simp only [List.length_append, List.length_singleton]
      omega
    split
    · have := rem_qname hL he hi
      simp only [List.length_append, List.length_singleton]
      omega
    · have := rem_fail (L := L) (x := 11) (by decide) he hi
      simp only
      omega

/-- So deep. -/
def Dok (s : PS) : Prop := s.deep ≤ 100 ∧ (s.e = 0 → s.deep ≤ 40)
theorem Goes.e0 {s s' : PS} (h : Goes L s s') (he : s'.e = 0) : s.e = 0 := by
  by_cases hs : s.e = 0
  · exact hs
  · rw [h.err hs] at he
    exact he
theorem Goes.dok {s s' : PS} (h : Goes L s s') (hd : Dok s) : Dok s' := ⟨by rw [h.deep]; exact hd.1, fun he => by rw [h.deep]; exact hd.2 (h.e0 he)⟩
theorem open_deep (hL : TokL L) (s : PS) (t : List UInt8) : (openT L s t).deep = s.deep + 1 := by
  have h1 : Goes L s (if isT L s t = true ∧ 40 ≤ s.deep then failT L s 12 else s) := by
    split
    · exact fail_goes _ _
    · exact Goes.refl _ _
  unfold openT
  simp only
  rw [(h1.trans (want_goes hL _ t)).deep]
theorem open_e {s : PS} {t : List UInt8} (he : (openT L s t).e = 0) : s.e = 0 ∧ isT L s t = true ∧ s.deep < 40 := by
  unfold openT at he
  simp only at he
  split at he
  · exfalso
    have h1 : (failT L s 12).e ≠ 0 := fail_e (by decide)
    unfold wantT at he
    rw [isT_err h1, if_neg (by simp), fail_err h1] at he
    exact h1 he
  · rename_i h
    unfold wantT at he
    split at he
    · rename_i h2
      refine ⟨(isT_e h2).1, h2, ?_⟩
      rw [not_and] at h
      have := h h2
      omega
    · exact absurd he (fail_e (by decide))
theorem open_dok (hL : TokL L) {s : PS} (t : List UInt8) (hd : s.deep ≤ 41) : Dok (openT L s t) := by
  have h1 := open_deep hL s t
  refine ⟨by omega, fun he => ?_⟩
  have := open_e he
  omega

end Go.Proofs.YtfcfbdemfbkgmaaDoor

/- What is asked of the reference's pieces that append nodes; sum, over term. Numbers and types by name. -/
namespace Go.Proofs.YtfcfbdemfbkgmaaDoor
open Go.RowKit Go.Lib
set_option maxRecDepth 100000

/-- What a piece of the reader that appends nodes leaves. -/
def ExTold (w0 w : World) (b n : Nat) (vl : Value) (L : List Tk) (v : Value) (r : List Nd × PS) (e : Ending) (w' : World) : Prop :=
  ∃ ao m c, e = .returned (.slice ao m c) ∧ OwnN w' (b + 1) (.slice ao m c) m r.1 ∧ Rdr w0 w' b n vl L r.2 ∧ Chg (b :: rowF v) w w' ∧ FromRow w v (.slice ao m c)
/-- What is asked of such a piece. -/
def ExK (f : FuncId) (U : EX) (w0 : World) (b n : Nat) (vl : Value) (L : List Tk) (N : Nat) : Prop :=
  ∀ (w : World) (s : PS) (v : Value) (m : Nat) (l : List Nd), Rdr w0 w b n vl L s → OwnN w (b + 1) v m l → remT L s < N → l.length + remT L s ≤ 20000 → Dok s →
    Calls Tryd.prog f #[.pointer (some ⟨b, 0, none⟩), v] w (ExTold w0 w b n vl L v (U s l))
theorem Chg.more {b : Nat} {v v1 : Value} {w w1 w2 : World} (h : Chg (b :: rowF v) w w1) (hf : FromRow w v v1) {F : List Nat} (h2 : Chg F w1 w2) (hF : ∀ x ∈ F, x = b ∨ x ∈ rowF v1) : Chg (b :: rowF v) w w2 :=
  h.trans' h2 fun x hx => by
    rcases hF x hx with rfl | hx
    · exact .inl (List.mem_cons_self ..)
    · exact hf.mem hx fun y hy => List.mem_cons_of_mem _ hy
theorem OwnN.keep {w w' : World} {b : Nat} {v : Value} {m : Nat} {l : List Nd} (h : OwnN w (b + 1) v m l) (hc : Chg [b] w w') : OwnN w' (b + 1) v m l :=
  h.chg hc fun k hk hm => by
    have := (h.2.lt k hk).1
    simp only [List.mem_singleton] at hm
    omega
/-- What is left, by a reader's cells. -/
def remW (L : List Tk) (b : Nat) (w : World) : Nat :=
  match w.cell? ⟨b, 3, none⟩, w.cell? ⟨b, 1, none⟩ with
  | some (.int _ e), some (.int _ i) => if e ≠ 0 then 0 else L.length - i.toNat
  | _, _ => 0
theorem Rdr.rem {w0 w : World} {b n : Nat} {vl : Value} {L : List Tk} {s : PS} (h : Rdr w0 w b n vl L s) : remW L b w = remT L s := by
  unfold remW remT
  rw [h.r.c3, h.r.c1]
  simp

/-- In the midst of a row of operands. -/
structure OpAt (w0 w wr : World) (b n : Nat) (vl : Value) (L : List Tk) (v v1 : Value) (m : Nat) (s : PS) (l : List Nd) (R : List Nd × PS) (ops : List (List UInt8 × Int)) (U : EX) (q N : Nat) : Prop where
  r : Rdr w0 wr b n vl L s
  o : OwnN wr (b + 1) v1 m l
  c : Chg (b :: rowF v) w wr
  f : FromRow w v v1
  g : opLoop L ops U q s l = R
  rq : remT L s < q
  rn : remT L s < N
  pot : l.length + remT L s ≤ 20000
  dok : Dok s
theorem OpAt.keep {w0 w wr w1 : World} {b n : Nat} {vl : Value} {L : List Tk} {v v1 : Value} {m : Nat} {s : PS} {l : List Nd} {R : List Nd × PS} {ops : List (List UInt8 × Int)} {U : EX} {q N : Nat} (h : OpAt w0 w wr b n vl L v v1 m s l R ops U q N) (hr : Rdr w0 w1 b n vl L s) (hc : Chg [b] wr w1) : OpAt w0 w w1 b n vl L v v1 m s l R ops U q N :=
  ⟨hr, h.o.keep hc, h.c.more h.f hc (fun x hx => .inl (by simpa using hx)), h.f, h.g, h.rq, h.rn, h.pot, h.dok⟩
theorem OpAt.done {w0 w wr : World} {b n : Nat} {vl : Value} {L : List Tk} {v : Value} {ao : Option Addr} {m c : Nat} {s : PS} {l : List Nd} {R : List Nd × PS} {ops : List (List UInt8 × Int)} {U : EX} {q N : Nat} (h : OpAt w0 w wr b n vl L v (.slice ao m c) m s l R ops U q N) (hd : s.e ≠ 0 ∨ whichT L s ops = none) : ExTold w0 w b n vl L v R (.returned (.slice ao m c)) wr := by
  have e : opLoop L ops U q s l = (l, s) := by
    have := h.rq
    cases q with
    | zero => omega
    | succ q =>
      unfold opLoop
      by_cases he : s.e ≠ 0
      · rw [if_pos he]
      · rw [if_neg he]
        rcases hd with hd | hd
        · exact absurd hd he
        · rw [hd]
  rw [← h.g, e]
  exact ⟨ao, m, c, rfl, h.o, h.r, h.c, h.f⟩
/-- The sign is there: what it is asked of the operand behind it, and then of two. -/
theorem OpAt.sign {w0 w wr w1 : World} {b n : Nat} {vl : Value} {L : List Tk} {v v1 : Value} {m : Nat} {s : PS} {l : List Nd} {R : List Nd × PS} {ops : List (List UInt8 × Int)} {U : EX} {q N : Nat} {k : Int} (h : OpAt w0 w wr b n vl L v v1 m s l R ops U q N) (he : s.e = 0) (hk : whichT L s ops = some k) (hr : Rdr w0 w1 b n vl L s.go) (hc : Chg [b] wr w1) :
    OwnN w1 (b + 1) v1 m l ∧ remT L s.go < N ∧ l.length + remT L s.go + 1 ≤ 20000 ∧ Dok s.go ∧ Chg (b :: rowF v) w w1 ∧ ∃ q', q = q' + 1 ∧ opLoop L ops U q' (U s.go l).2 (twoT (U s.go l).1 ((l.length : Int) - 1) k (curT L s).pos) = R ∧ remT L s.go < q' := by
  have h1 := rem_go (L := L) he h.r.lt
  have h2 := h.rn
  have h3 := h.pot
  have h4 := h.rq
  refine ⟨h.o.keep hc, by omega, by omega, h.dok, h.c.more h.f hc (fun x hx => .inl (by simpa using hx)), ?_⟩
  cases q with
  | zero => omega
  | succ q' =>
    refine ⟨q', rfl, ?_, by omega⟩
    have := h.g
    unfold opLoop at this
    rw [if_neg (by simpa using he), hk] at this
    exact this

/-- Behind the operand and two. -/
theorem OpAt.next {w0 w wr w1 w2 w4 : World} {b n : Nat} {vl : Value} {L : List Tk} {v v1 v3 v4 : Value} {m m3 m4 : Nat} {s : PS} {l : List Nd} {R : List Nd × PS} {ops : List (List UInt8 × Int)} {U : EX} {q N : Nat} {k : Int}
    (hG : ∀ s l, Goes L s (U s l).2) (hP : PotOk L U) (h : OpAt w0 w wr b n vl L v v1 m s l R ops U q N) (he : s.e = 0) (hk : whichT L s ops = some k) (hr : Rdr w0 w1 b n vl L s.go) (hc : Chg [b] wr w1)
    (o3 : OwnN w2 (b + 1) v3 m3 (U s.go l).1) (r3 : Rdr w0 w2 b n vl L (U s.go l).2) (c3 : Chg (b :: rowF v1) w1 w2) (f3 : FromRow w1 v1 v3)
    (o4 : OwnN w4 (b + 1) v4 m4 (twoT (U s.go l).1 ((l.length : Int) - 1) k (curT L s).pos)) (c4 : Chg (rowF v3) w2 w4) (f4 : FromRow w2 v3 v4) :
    (∃ q', OpAt w0 w w4 b n vl L v v4 m4 (U s.go l).2 (twoT (U s.go l).1 ((l.length : Int) - 1) k (curT L s).pos) R ops U q' N) ∧ remW L b w4 < remW L b wr := by
  obtain ⟨g1, g2, g3, g4, g5, q', rfl, g6, g7⟩ := h.sign he hk hr hc
  have hs : w.heap.size ≤ w1.heap.size := g5.size
  have fw1 : FromRow w v v3 := h.f.trans f3 hs
  have cw2 : Chg (b :: rowF v) w w2 := g5.more h.f c3 (fun x hx => List.mem_cons.1 hx)
  have fw2 : FromRow w v v4 := fw1.trans f4 cw2.size
  have cw4 : Chg (b :: rowF v) w w4 := cw2.more fw1 c4 (fun x hx => .inr hx)
  have hb3 : ∀ x ∈ rowF v3, b < x := fun x hx => (o3.2.lt x (rowF_mem.1 hx)).1
  have r4 : Rdr w0 w4 b n vl L (U s.go l).2 := r3.chg c4 (fun x hx => Nat.le_of_lt (hb3 x hx)) (r3.r.chg c4 (fun hx => absurd (hb3 b hx) (Nat.lt_irrefl _))) r3.lt r3.deep
  have hp := hP s.go l hr.lt
  have hrm := (hG s.go l).rem
  have hlt := rem_go (L := L) he h.r.lt
  refine ⟨⟨q', r4, o4, cw4, fw2, g6, by omega, by omega, by rw [two_len]; omega, (hG s.go l).dok g4⟩, ?_⟩
  rw [r4.rem, h.r.rem]
  omega

end Go.Proofs.YtfcfbdemfbkgmaaDoor

namespace Go.Proofs.YtfcfbdemfbkgmaaDoor
open Go.RowKit Go.Lib
set_option maxRecDepth 100000

/-- Between two looks for a sign of comparison. -/
structure RelAt (w0 w wr : World) (b n : Nat) (vl : Value) (L : List Tk) (v v1 : Value) (m sg k : Nat) (s : PS) (l : List Nd) : Prop where
  r : Rdr w0 wr b n vl L s
  o : OwnN wr (b + 1) v1 m l
  c : Chg (b :: rowF v) w wr
  f : FromRow w v v1
  d0 : wr.cell? ⟨sg, 0, none⟩ = some (.string (tx [61, 61]))
  d1 : wr.cell? ⟨sg, 1, none⟩ = some (.string (tx [60]))
  d2 : wr.cell? ⟨sg, 2, none⟩ = some (.string (tx [60, 61]))
  g : ∀ j t, j < k → relOps[j]? = some t → isT L s t.1 = false
  ne : sg ≠ b
theorem RelAt.keep {w0 w wr w1 : World} {b n : Nat} {vl : Value} {L : List Tk} {v v1 : Value} {m sg k : Nat} {s : PS} {l : List Nd} (h : RelAt w0 w wr b n vl L v v1 m sg k s l) (hr : Rdr w0 w1 b n vl L s) (hc : Chg [b] wr w1) : RelAt w0 w w1 b n vl L v v1 m sg k s l :=
  ⟨hr, h.o.keep hc, h.c.more h.f hc (fun x hx => .inl (by simpa using hx)), h.f, hc.cell h.d0 (by simpa using h.ne), hc.cell h.d1 (by simpa using h.ne), hc.cell h.d2 (by simpa using h.ne), h.g, h.ne⟩
theorem RelAt.step {w0 w wr : World} {b n : Nat} {vl : Value} {L : List Tk} {v v1 : Value} {m sg k : Nat} {s : PS} {l : List Nd} (h : RelAt w0 w wr b n vl L v v1 m sg k s l) {t : List UInt8 × Int} (ht : relOps[k]? = some t) (hb : isT L s t.1 = false) : RelAt w0 w wr b n vl L v v1 m sg (k + 1) s l :=
  ⟨h.r, h.o, h.c, h.f, h.d0, h.d1, h.d2, fun j u hj hu => by
    rcases Nat.lt_or_ge j k with hlt | hge
    · exact h.g j u hlt hu
    · obtain rfl : j = k := by omega
      rw [ht] at hu
      cases hu
      exact hb, h.ne⟩
theorem rel_none {L : List Tk} {s : PS} (h : ∀ j t, j < 3 → relOps[j]? = some t → isT L s t.1 = false) : whichT L s relOps = none := by
  have h0 := h 0 _ (by decide) rfl
  have h1 := h 1 _ (by decide) rfl
  have h2 := h 2 _ (by decide) rfl
  unfold relOps whichT
  rw [h0, if_neg (by simp)]
  unfold whichT
  rw [h1, if_neg (by simp)]
  unfold whichT
  rw [h2, if_neg (by simp)]
  rfl
theorem rel_some {L : List Tk} {s : PS} {k : Nat} (hk : k < 3) (h : ∀ j t, j < k → relOps[j]? = some t → isT L s t.1 = false) {t : List UInt8 × Int} (ht : relOps[k]? = some t) (hb : isT L s t.1 = true) : whichT L s relOps = some t.2 := by
  rcases (by omega : k = 0 ∨ k = 1 ∨ k = 2) with rfl | rfl | rfl
  · cases ht
    unfold relOps whichT
    rw [if_pos hb]
  · have h0 := h 0 _ (by decide) rfl
    cases ht
    unfold relOps whichT
    rw [h0, if_neg (by simp)]
    unfold whichT
    rw [if_pos hb]
  · have h0 := h 0 _ (by decide) rfl
    have h1 := h 1 _ (by decide) rfl
    cases ht
    unfold relOps whichT
    rw [h0, if_neg (by simp)]
    unfold whichT
    rw [h1, if_neg (by simp)]
    unfold whichT
    rw [if_pos hb]

end Go.Proofs.YtfcfbdemfbkgmaaDoor
