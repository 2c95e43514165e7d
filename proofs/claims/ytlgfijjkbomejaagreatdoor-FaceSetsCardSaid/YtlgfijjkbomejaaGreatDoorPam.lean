/- The parser as the document says, over tokens: a plain model. Plain facts. Numbers and types by name. -/
import Derived.Test.YtlgfijjkbomejaaGreatDoorCel
import Derived.Test.YtlgfijjkbomejaaGreatDoorLxp
/- Lists of tokens that are read, and own ones. Numbers and types by name. -/
namespace Go.Proofs.YtlgfijjkbomejaaGreatDoor
open Go.RowKit Go.Lib
set_option maxRecDepth 100000

def tv (o : Tk) : List Value := [.int .i64 o.kind, .string (tx o.text), .int .i64 (o.pos : Int)]
def tvs (L : List Tk) : List Value := L.flatMap tv
theorem tvs_length (L : List Tk) : (tvs L).length = L.length * 3 := by
  induction L with
  | nil => rfl
  | cons o L ih => simp only [tvs, List.flatMap_cons, List.length_append, List.length_cons] at *; rw [ih]; simp [tv]; omega
theorem tvs_snoc (L : List Tk) (o : Tk) : tvs (L ++ [o]) = tvs L ++ tv o := by simp [tvs]
theorem tvs_at {L : List Tk} {k : Nat} {o : Tk} (h : L[k]? = some o) (j : Nat) (hj : j < 3) : (tvs L)[k * 3 + j]? = (tv o)[j]? := by
  induction L generalizing k with
  | nil => cases h
  | cons p L ih =>
    have e : tvs (p :: L) = tv p ++ tvs L := by simp [tvs]
    cases k with
    | zero =>
      simp only [List.getElem?_cons_zero, Option.some.injEq] at h
      subst h
      rw [e, Nat.zero_mul, Nat.zero_add, List.getElem?_append_left (by simp [tv]; omega)]
    | succ k =>
      rw [List.getElem?_cons_succ] at h
      rw [e, List.getElem?_append_right (by simp [tv]; omega), ← ih h]
      congr 1
      simp [tv]; omega

/-- A list of tokens can be read. -/
def Tkr (w : World) (v : Value) (n : Nat) (L : List Tk) : Prop := n = L.length ∧ n ≤ 100000 ∧ Cells w v 3 n (tvs L)
theorem Tkr.shape {w : World} {v : Value} {n : Nat} {L : List Tk} (h : Tkr w v n L) : ∃ ao c, v = .slice ao n c := by
  obtain ⟨_, _, ao, c, rfl, _⟩ := h
  exact ⟨ao, c, rfl⟩
theorem Tkr.later {w w' : World} {v : Value} {n : Nat} {L : List Tk} (h : Tkr w v n L) (hg : Grow w w') : Tkr w' v n L := ⟨h.1, h.2.1, h.2.2.later hg⟩
theorem Tkr.nil (w : World) : Tkr w (.slice none 0 0) 0 [] := ⟨rfl, Nat.zero_le _, none, 0, rfl, rfl, Nat.le_refl _, fun _ => ⟨rfl, rfl⟩, fun a h => by cases h⟩
theorem Tkr.at {w : World} {ao : Option Addr} {n c : Nat} {L : List Tk} (h : Tkr w (.slice ao n c) n L) {k : Nat} (hk : k < n) :
    ∃ a o, ao = some a ∧ L[k]? = some o ∧ w.cell? (a.add (k * 3)) = some (.int .i64 o.kind) ∧ w.cell? ⟨(a.add (k * 3)).block, (a.add (k * 3)).off + 1, none⟩ = some (.string (tx o.text)) ∧ w.cell? ⟨(a.add (k * 3)).block, (a.add (k * 3)).off + 2, none⟩ = some (.int .i64 (o.pos : Int)) := by
  obtain ⟨h1, h2, ao', c', e, h0, hnc, hn, hc⟩ := h
  simp only [Value.slice.injEq] at e
  obtain ⟨rfl, _, rfl⟩ := e
  have hx : L[k]? = some (L[k]'(by omega)) := List.getElem?_eq_getElem (by omega)
  generalize L[k]'(by omega) = o at hx
  cases ao with
  | none => have := (hn rfl).1; omega
  | some a =>
    refine ⟨a, o, rfl, hx, ?_, ?_, ?_⟩
    · exact hc a rfl (k * 3) _ (by have := tvs_at hx 0 (by omega); rw [Nat.add_zero] at this; rw [this]; rfl)
    · have := hc a rfl _ _ (show (tvs L)[k * 3 + 1]? = some (.string (tx o.text)) by rw [tvs_at hx 1 (by omega)]; rfl)
      rw [← Addr.add_add] at this
      exact this
    · have := hc a rfl _ _ (show (tvs L)[k * 3 + 2]? = some (.int .i64 (o.pos : Int)) by rw [tvs_at hx 2 (by omega)]; rfl)
      rw [← Addr.add_add] at this
      exact this
theorem elemTok : Elem 67 117 (.agg #[.int .i64 0, .string ⟨#[]⟩, .int .i64 0]) 3 32 := ⟨Tryz.underlying67, by kernel_rfl, by decide, by decide⟩
/-- Tokens' own row. -/
def OwnT (w : World) (base : Nat) (v : Value) (n : Nat) (L : List Tk) : Prop := n = L.length ∧ w.ownsRow base 117 3 v n (tvs L)
theorem OwnT.nil (w : World) (base : Nat) : OwnT w base (.slice none 0 0) 0 [] := ⟨rfl, World.ownsRow_nil _ _ _ _⟩
theorem OwnT.read {w : World} {base : Nat} {v : Value} {n : Nat} {L : List Tk} (h : OwnT w base v n L) (hn : n ≤ 100000) : Tkr w v n L := ⟨h.1, hn, Cells.own h.2 (by decide)⟩
theorem tv_one (o : Tk) : ∀ u ∈ tv o, u.oneCell' = true := by
  intro u hu
  simp only [tv, List.mem_cons, List.not_mem_nil, or_false] at hu
  rcases hu with rfl | rfl | rfl <;> rfl
theorem tok_lit (w : World) (o : Tk) : Cells (w.alloc (.cells #[.int .i64 o.kind, .string (tx o.text), .int .i64 (o.pos : Int)] 117)) (.slice (some ⟨w.heap.size, 0, none⟩) 1 1) 3 1 (tv o) := Cells.lit w (tv o) 117 (0, 0) 3 1 rfl

end Go.Proofs.YtlgfijjkbomejaaGreatDoor

/- What is written: some blocks, and new ones. Numbers and types by name. -/
namespace Go.Proofs.YtlgfijjkbomejaaGreatDoor
open Go.RowKit Go.Lib

/-- w' is w with new blocks, and with writes to the blocks of F alone. -/
structure Chg (F : List Nat) (w w' : World) : Prop where
  os : w'.os = w.os
  tape : w'.tape = w.tape
  output : w'.output = w.output
  size : w.heap.size ≤ w'.heap.size
  block : ∀ k, k < w.heap.size → k ∉ F → w'.heap[k]? = w.heap[k]?
theorem Chg.refl (F : List Nat) (w : World) : Chg F w w := ⟨rfl, rfl, rfl, Nat.le_refl _, fun _ _ _ => rfl⟩
theorem Chg.of_grown {w w' : World} {row : Option Nat} {F : List Nat} (h : w.grownBy w' row) (hr : ∀ k, row = some k → k ∈ F) : Chg F w w' :=
  ⟨h.os, h.tape, h.output, h.size, fun k hk hn => h.block k hk (fun e => hn (hr k e.symm))⟩
theorem Chg.of_none {w w' : World} {F : List Nat} (h : w.grownBy w' none) : Chg F w w' := Chg.of_grown h (by intro k e; cases e)
/-- What is written in the second step is of F, or new since a. -/
theorem Chg.trans' {F G : List Nat} {a b c : World} (h : Chg F a b) (k : Chg G b c) (hG : ∀ x, x ∈ G → x ∈ F ∨ a.heap.size ≤ x) : Chg F a c :=
  ⟨k.os.trans h.os, k.tape.trans h.tape, k.output.trans h.output, Nat.le_trans h.size k.size, fun i hi hn =>
    (k.block i (Nat.lt_of_lt_of_le hi h.size) (fun hm => (hG i hm).elim hn (fun e => by omega))).trans (h.block i hi hn)⟩
theorem Chg.trans {F : List Nat} {a b c : World} (h : Chg F a b) (k : Chg F b c) : Chg F a c := h.trans' k fun _ hx => .inl hx
theorem Chg.mono {F G : List Nat} {a b : World} (h : Chg F a b) (hFG : ∀ x, x ∈ F → x ∈ G) : Chg G a b := ⟨h.os, h.tape, h.output, h.size, fun k hk hn => h.block k hk fun e => hn (hFG k e)⟩
theorem Chg.set {F : List Nat} {a w : World} (h : Chg F a w) {c : Nat} (hc : c ∈ F ∨ a.heap.size ≤ c) (j : Nat) (v : Value) : Chg F a (w.setCell ⟨c, j, none⟩ v) :=
  ⟨h.os, h.tape, h.output, by have := h.size; simpa [World.setCell] using this, fun i hi hn => (Below.heap_setCell _ _ _ _ (by show i ≠ c; rintro rfl; exact hc.elim hn (fun e => by omega))).trans (h.block i hi hn)⟩
theorem Chg.alloc {F : List Nat} {a w : World} (h : Chg F a w) (o : Obj) : Chg F a (w.alloc o) := h.trans (Chg.of_none (World.grownBy_alloc w o none))
theorem Chg.drew {F : List Nat} {a w : World} (h : Chg F a w) : Chg F a w.drew := ⟨h.os, h.tape, h.output, h.size, h.block⟩
theorem Chg.drewN {F : List Nat} {a w : World} (h : Chg F a w) (n : Nat) : Chg F a (w.drewN n) := ⟨h.os, h.tape, h.output, h.size, h.block⟩
theorem Chg.below {F : List Nat} {a w : World} (h : Chg F a w) {B : Nat} (hB : B ≤ a.heap.size) (hF : ∀ x, x ∈ F → B ≤ x) : Below B a w :=
  ⟨h.os, h.tape, h.output, h.size, fun k hk => h.block k (by omega) (fun e => by have := hF k e; omega)⟩
theorem Chg.of_below {F : List Nat} {a w : World} (h : Below a.heap.size a w) : Chg F a w := ⟨h.os, h.tape, h.output, h.size, fun k hk _ => h.block k hk⟩
theorem Chg.cell {F : List Nat} {a w : World} (h : Chg F a w) {x : Addr} {v : Value} (hv : a.cell? x = some v) (hn : x.block ∉ F) : w.cell? x = some v :=
  (World.cell?_of_block (h.block _ (World.block_lt_of_cell? a _ hv) hn)).trans hv
theorem Chg.frozen {F : List Nat} {a w : World} (h : Chg F a w) {x : Addr} {v : Value} (hv : a.cell? x = some v) (hn : x.block ∉ F) : w.frozen? x = a.frozen? x :=
  World.frozen?_of_block (h.block _ (World.block_lt_of_cell? a _ hv) hn)
theorem cellsN {w : World} {b : Nat} {cs : Array Value} {t : TypeId} (h : w.heap[b]? = some (.cells cs t (0, 0))) (j : Nat) (v : Value) (hj : cs[j]? = some v) : w.cell? ⟨b, j, none⟩ = some v := by
  simp only [World.cell?, h]
  simpa using hj

end Go.Proofs.YtlgfijjkbomejaaGreatDoor

namespace Go.Proofs.YtlgfijjkbomejaaGreatDoor
open Go.RowKit Go.Lib

/-- A node of an expression. -/
structure Nd where
  kind : Int
  num : Int
  mod : List UInt8
  name : List UInt8
  a : Int
  b : Int
  pos : Nat
  deriving DecidableEq
/-- A statement, but for its blocks. -/
structure SH where
  kind : Int
  pos : Nat
  mod : List UInt8
  name : List UInt8
  label : List UInt8
  has : Bool
  toMod : List UInt8
  to : List UInt8
  e : List Nd
  args : List (List Nd)
  deriving DecidableEq
inductive Stm where
  | mk (h : SH) (body els : List Stm)
structure Par where
  name : List UInt8
  label : List UInt8
  pos : Nat
  deriving DecidableEq
structure Imp where
  name : List UInt8
  pos : Nat
  deriving DecidableEq
structure Vrb where
  name : List UInt8
  label : List UInt8
  init : Int
  pos : Nat
  deriving DecidableEq
structure Prc where
  name : List UInt8
  params : List Par
  has : Bool
  result : List UInt8
  pc : List UInt8
  uses : List (List UInt8)
  body : List Stm
  pos : Nat
structure Mdl where
  name : List UInt8
  pos : Nat
  imports : List Imp
  vars : List Vrb
  procs : List Prc

/-- Where a reader is: its token, how deep, its first error and where. -/
structure PS where
  i : Nat
  deep : Nat
  e : Int
  pos : Nat
  deriving DecidableEq
def PS.go (s : PS) : PS := { s with i := s.i + 1 }
def PS.shut (s : PS) : PS := { s with deep := s.deep - 1 }

section
variable (L : List Tk)

def curT (s : PS) : Tk := L.getD s.i ⟨0, [], 0⟩
def failT (s : PS) (x : Int) : PS := if s.e = 0 then { s with e := x, pos := (curT L s).pos } else s
def isT (s : PS) (t : List UInt8) : Bool := s.e == 0 && ((curT L s).kind == 4 || (curT L s).kind == 3) && (curT L s).text == t
def takeT (s : PS) (t : List UInt8) : PS := if isT L s t = true then s.go else s
def wantT (s : PS) (t : List UInt8) : PS := if isT L s t = true then s.go else failT L s 11
def openT (s : PS) (t : List UInt8) : PS :=
  let s2 := wantT L (if isT L s t = true ∧ 40 ≤ s.deep then failT L s 12 else s) t
  { s2 with deep := s2.deep + 1 }
def nameT (s : PS) : List UInt8 × PS := if s.e ≠ 0 ∨ (curT L s).kind ≠ 1 then ([], failT L s 11) else ((curT L s).text, s.go)
def numV (b : List UInt8) : Nat := b.foldl (fun n c => 10 * n + (c.toNat - 48)) 0
def qnameT (s : PS) : (List UInt8 × List UInt8) × PS :=
  let p := nameT L s
  if isT L p.2 [46] = true then
    let q := nameT L p.2.go
    ((p.1, q.1), q.2)
  else (([], p.1), p.2)
def ndK (kind a b : Int) (pos : Nat) : Nd := ⟨kind, 0, [], [], a, b, pos⟩
def twoT (l : List Nd) (a kind : Int) (pos : Nat) : List Nd := l ++ [ndK kind a ((l.length : Int) - 1) pos]

abbrev EX := PS → List Nd → List Nd × PS

/-- Which of some signs stands there, and what it makes. -/
def whichT (s : PS) : List (List UInt8 × Int) → Option Int
  | [] => none
  | (t, k) :: r => if isT L s t = true then some k else whichT s r
def opLoop (ops : List (List UInt8 × Int)) (U : EX) : Nat → EX
  | 0, s, l => (l, s)
  | n + 1, s, l =>
    if s.e ≠ 0 then (l, s)
    else match whichT L s ops with
      | some k =>
        let r := U s.go l
        opLoop ops U n r.2 (twoT r.1 ((l.length : Int) - 1) k (curT L s).pos)
      | none => (l, s)
def opT (ops : List (List UInt8 × Int)) (U : EX) (n : Nat) : EX := fun s l =>
  let r := U s l
  opLoop L ops U n r.2 r.1
def mulOps : List (List UInt8 × Int) := [([42], 7), ([47], 8), ([37], 9)]
def addOps : List (List UInt8 × Int) := [([43], 5), ([45], 6)]
def relOps : List (List UInt8 × Int) := [([61, 61], 10), ([60], 11), ([60, 61], 12)]
def termT (U : EX) (n : Nat) : EX := opT L mulOps U n
def sumT (U : EX) (n : Nat) : EX := opT L addOps (termT L U n) n
def exprT (U : EX) (n : Nat) : EX := fun s l =>
  let r := sumT L U n s l
  match whichT L r.2 relOps with
  | some k =>
    let q := sumT L U n r.2.go r.1
    (twoT q.1 ((r.1.length : Int) - 1) k (curT L r.2).pos, q.2)
  | none => r
def unaryT : Nat → EX
  | 0 => fun s l => (l, s)
  | n + 1 => fun s l =>
    let t := curT L s
    if s.e ≠ 0 then (l, s)
    else if isT L s [45] = true ∨ isT L s [33] = true then
      let r := unaryT n (openT L s t.text) l
      (r.1 ++ [ndK (if t.text = [33] then 4 else 3) ((r.1.length : Int) - 1) (-1) t.pos], r.2.shut)
    else if isT L s [40] = true then
      let r := exprT L (unaryT n) n (openT L s [40]) l
      (r.1, (wantT L r.2 [41]).shut)
    else if t.kind = 2 then (l ++ [⟨1, numV t.text, [], [], -1, -1, t.pos⟩], s.go)
    else if t.kind = 1 then
      let q := qnameT L s
      (l ++ [⟨2, 0, q.1.1, q.1.2, -1, -1, t.pos⟩], q.2)
    else (l, failT L s 11)
/-- An expression, from its beginning. -/
def exprN (s : PS) : List Nd × PS := exprT L (unaryT L (L.length + 1)) (L.length + 1) s []

/-- Things with commas between, at least one. -/
def listLoop {α : Type} (one : PS → α × PS) : Nat → PS → List α → List α × PS
  | 0, s, acc => (acc, s)
  | n + 1, s, acc =>
    if s.e ≠ 0 then (acc, s)
    else
      let r := one s
      if isT L r.2 [44] = true then listLoop one n r.2.go (acc ++ [r.1]) else (acc ++ [r.1], r.2)
/-- Perhaps none, if what shuts them stands there. -/
def listT {α : Type} (one : PS → α × PS) (s : PS) (shut : List UInt8) : List α × PS :=
  let r := if isT L s shut = true then ([], s) else listLoop L one (L.length + 1) s []
  (r.1, wantT L r.2 shut)
def paramT (s : PS) : Par × PS :=
  let a := nameT L s
  let b := nameT L (wantT L a.2 [58])
  (⟨a.1, b.1, (curT L s).pos⟩, b.2)

def sh0 (pos : Nat) : SH := ⟨0, pos, [], [], [], false, [], [], [], []⟩
def callT (s : PS) (pos : Nat) : SH × PS :=
  let q := qnameT L s
  let b := isT L q.2 [61]
  let p := if b = true then qnameT L q.2.go else q
  let g := listT L (exprN L) (wantT L p.2 [40]) [41]
  (⟨4, pos, if b = true then q.1.1 else [], if b = true then q.1.2 else [], [], b, p.1.1, p.1.2, [], g.1⟩, g.2)
/-- A statement that ends with a semicolon, behind it. -/
def endT (r : SH × PS) : Stm × PS := (.mk r.1 [] [], wantT L r.2 [59])
def stmLoop (S : PS → Stm × PS) : Nat → PS → List Stm → List Stm × PS
  | 0, s, acc => (acc, s)
  | n + 1, s, acc =>
    if s.e ≠ 0 ∨ isT L s [125] = true then (acc, s)
    else
      let r := S s
      stmLoop S n r.2 (acc ++ [r.1])
def blockT (S : PS → Stm × PS) (n : Nat) (s : PS) : List Stm × PS :=
  let r := stmLoop L S n (openT L s [123]) []
  (r.1, (wantT L r.2 [125]).shut)
def kLet : List UInt8 := [108, 101, 116]
def kResult : List UInt8 := [114, 101, 115, 117, 108, 116]
def kCall : List UInt8 := [99, 97, 108, 108]
def kEmit : List UInt8 := [101, 109, 105, 116]
def kSkip : List UInt8 := [115, 107, 105, 112]
def kIf : List UInt8 := [105, 102]
def kElse : List UInt8 := [101, 108, 115, 101]
def kWhile : List UInt8 := [119, 104, 105, 108, 101]
def setT (s : PS) (pos : Nat) : SH × PS :=
  let q := qnameT L s
  let x := exprN L (wantT L q.2 [61])
  ({ sh0 pos with kind := 2, mod := q.1.1, name := q.1.2, e := x.1 }, x.2)
def letT (s : PS) (pos : Nat) : SH × PS :=
  let a := nameT L s
  let b := nameT L (wantT L a.2 [58])
  let x := exprN L (wantT L b.2 [61])
  ({ sh0 pos with kind := 1, name := a.1, label := b.1, e := x.1 }, x.2)
def resultT (s : PS) (pos : Nat) : SH × PS :=
  let x := exprN L (wantT L s [61])
  ({ sh0 pos with kind := 3, e := x.1 }, x.2)
def emitT (s : PS) (pos : Nat) : SH × PS :=
  let a := nameT L s
  ({ sh0 pos with kind := 7, name := a.1 }, a.2)
def stmtT : Nat → PS → Stm × PS
  | 0, s => (.mk (sh0 0) [] [], s)
  | n + 1, s =>
    let pos := (curT L s).pos
    if s.e = 0 ∧ (curT L s).kind = 1 then endT L (setT L s pos)
    else if isT L s kLet = true then endT L (letT L s.go pos)
    else if isT L s kResult = true then endT L (resultT L s.go pos)
    else if isT L s kCall = true then endT L (callT L s.go pos)
    else if isT L s kEmit = true then endT L (emitT L s.go pos)
    else if isT L s kSkip = true then endT L ({ sh0 pos with kind := 8 }, s.go)
    else if isT L s kIf = true then
      let x := exprN L s.go
      let b := blockT L (stmtT n) n x.2
      if isT L b.2 kElse = true then
        let c := blockT L (stmtT n) n b.2.go
        (.mk { sh0 pos with kind := 5, e := x.1 } b.1 c.1, c.2)
      else (.mk { sh0 pos with kind := 5, e := x.1 } b.1 [], b.2)
    else if isT L s kWhile = true then
      let x := exprN L s.go
      let b := blockT L (stmtT n) n x.2
      (.mk { sh0 pos with kind := 6, e := x.1 } b.1 [], b.2)
    else (.mk (sh0 pos) [] [], failT L s 11)
def blockN (s : PS) : List Stm × PS := blockT L (stmtT L (L.length + 1)) (L.length + 1) s

def kPc : List UInt8 := [112, 99]
def kUses : List UInt8 := [117, 115, 101, 115]
def kImport : List UInt8 := [105, 109, 112, 111, 114, 116]
def kModule : List UInt8 := [109, 111, 100, 117, 108, 101]
def kVar : List UInt8 := [118, 97, 114]
def kProc : List UInt8 := [112, 114, 111, 99]
def kLabels : List UInt8 := [108, 97, 98, 101, 108, 115]
def procT (s : PS) : Prc × PS :=
  let a := nameT L s
  let g := listT L (paramT L) (wantT L a.2 [40]) [41]
  let b := isT L g.2 [45, 62]
  let r := if b = true then nameT L g.2.go else ([], g.2)
  let c := nameT L (wantT L r.2 kPc)
  let u := listT L (nameT L) (wantT L (wantT L c.2 kUses) [123]) [125]
  let k := blockN L u.2
  (⟨a.1, g.1, b, r.1, c.1, u.1, k.1, (curT L s).pos⟩, k.2)
def varT (s : PS) : Vrb × PS :=
  let a := nameT L s
  let b := nameT L (wantT L a.2 [58])
  let s3 := wantT L b.2 [61]
  let s4 := takeT L s3 [45]
  if s4.e ≠ 0 ∨ (curT L s4).kind ≠ 2 then (⟨a.1, b.1, 0, (curT L s).pos⟩, failT L s4 11)
  else (⟨a.1, b.1, if isT L s3 [45] = true then - (numV (curT L s4).text : Int) else numV (curT L s4).text, (curT L s).pos⟩, wantT L s4.go [59])
def impLoop : Nat → PS → List Imp → List Imp × PS
  | 0, s, acc => (acc, s)
  | n + 1, s, acc =>
    if isT L s kImport = true then
      let a := nameT L s.go
      impLoop n (wantT L a.2 [59]) (acc ++ [⟨a.1, (curT L s.go).pos⟩])
    else (acc, s)
def declLoop : Nat → PS → List Vrb → List Prc → (List Vrb × List Prc) × PS
  | 0, s, vs, ps => ((vs, ps), s)
  | n + 1, s, vs, ps =>
    if s.e ≠ 0 ∨ (curT L s).kind = 0 then ((vs, ps), s)
    else if isT L s kVar = true then
      let v := varT L s.go
      declLoop n v.2 (vs ++ [v.1]) ps
    else if isT L s kProc = true then
      let p := procT L s.go
      declLoop n p.2 vs (ps ++ [p.1])
    else declLoop n (failT L s 11) vs ps
def moduleT (s : PS) : Mdl × PS :=
  let s1 := wantT L s kModule
  let a := nameT L s1
  let i := impLoop L (L.length + 1) (wantT L a.2 [59]) []
  let d := declLoop L (L.length + 1) i.2 [] []
  (⟨a.1, (curT L s1).pos, i.1, d.1.1, d.1.2⟩, d.2)

def lessLoop : Nat → PS → List UInt8 → List Par → List Par × PS
  | 0, s, _, acc => (acc, s)
  | n + 1, s, a, acc =>
    if isT L s [60] = true then
      let b := nameT L s.go
      lessLoop n b.2 b.1 (acc ++ [⟨a, b.1, (curT L s.go).pos⟩])
    else (acc, s)
def lineLoop : Nat → PS → List Par → List Par × PS
  | 0, s, acc => (acc, s)
  | n + 1, s, acc =>
    if s.e ≠ 0 ∨ (curT L s).kind = 0 then (acc, s)
    else
      let a := nameT L s
      let acc1 := if isT L a.2 [60] = true then acc else acc ++ [⟨a.1, [], (curT L s).pos⟩]
      let r := lessLoop L (L.length + 1) a.2 a.1 acc1
      lineLoop n (wantT L r.2 [59]) r.1
def labelsT (s : PS) : List Par × PS := lineLoop L (L.length + 1) (wantT L s kLabels) []
end

def ps0 : PS := ⟨0, 0, 0, 0⟩
def mdl0 : Mdl := ⟨[], 0, [], [], []⟩
/-- What Module tells of a text. -/
def parseP (b : List UInt8) : Mdl × Int × Nat :=
  if (lexP b).e ≠ 0 then (mdl0, (lexP b).e, (lexP b).pos)
  else
    let r := moduleT (lexP b).l ps0
    if r.2.e ≠ 0 then (mdl0, r.2.e, r.2.pos) else (r.1, 0, 0)
/-- What Labels tells of a text. -/
def labelsP (b : List UInt8) : List Par × Int × Nat :=
  if (lexP b).e ≠ 0 then ([], (lexP b).e, (lexP b).pos)
  else
    let r := labelsT (lexP b).l ps0
    if r.2.e ≠ 0 then ([], r.2.e, r.2.pos) else (r.1, 0, 0)

end Go.Proofs.YtlgfijjkbomejaaGreatDoor
