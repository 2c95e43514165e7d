/- The parser's plain model: it goes on, keeps the first error, and how deep it is; how much is left. Plain facts. Numbers and types by name. -/
import Derived.Test.YtfcfbdemfbkgmaaGreatDoorLxp
/- The parser as the document says, over tokens: a plain model. Plain facts. Numbers and types by name. -/
namespace Go.Proofs.YtfcfbdemfbkgmaaGreatDoor
open Go.RowKit Go.Lib

/-- A node of an expression. -/
structure Nd where
  kind : Int
  num : Int
  mod : List UInt8
  name : List UInt8
  a : Int
  b : Int
  pos : Nat
  deriving DecidableEq
/-- A statement, but for its blocks. -/
structure SH where
  kind : Int
  pos : Nat
  mod : List UInt8
  name : List UInt8
  label : List UInt8
  has : Bool
  toMod : List UInt8
  to : List UInt8
  e : List Nd
  args : List (List Nd)
  deriving DecidableEq
inductive Stm where
  | mk (h : SH) (body els : List Stm)
structure Par where
  name : List UInt8
  label : List UInt8
  pos : Nat
  deriving DecidableEq
structure Imp where
  name : List UInt8
  pos : Nat
  deriving DecidableEq
structure Vrb where
  name : List UInt8
  label : List UInt8
  init : Int
  pos : Nat
  deriving DecidableEq
structure Prc where
  name : List UInt8
  params : List Par
  has : Bool
  result : List UInt8
  pc : List UInt8
  uses : List (List UInt8)
  body : List Stm
  pos : Nat
structure Mdl where
  name : List UInt8
  pos : Nat
  imports : List Imp
  vars : List Vrb
  procs : List Prc

/-- Where a reader is: its token, how deep, its first error and where. -/
structure PS where
  i : Nat
  deep : Nat
  e : Int
  pos : Nat
  deriving DecidableEq
def PS.go (s : PS) : PS := { s with i := s.i + 1 }
def PS.shut (s : PS) : PS := { s with deep := s.deep - 1 }

section
variable (L : List Tk)

def curT (s : PS) : Tk := L.getD s.i ⟨0, [], 0⟩
def failT (s : PS) (x : Int) : PS := if s.e = 0 then { s with e := x, pos := (curT L s).pos } else s
def isT (s : PS) (t : List UInt8) : Bool := s.e == 0 && ((curT L s).kind == 4 || (curT L s).kind == 3) && (curT L s).text == t
def takeT (s : PS) (t : List UInt8) : PS := if isT L s t = true then s.go else s
def wantT (s : PS) (t : List UInt8) : PS := if isT L s t = true then s.go else failT L s 11
def openT (s : PS) (t : List UInt8) : PS :=
  let s2 := wantT L (if isT L s t = true ∧ 40 ≤ s.deep then failT L s 12 else s) t
  { s2 with deep := s2.deep + 1 }
def nameT (s : PS) : List UInt8 × PS := if s.e ≠ 0 ∨ (curT L s).kind ≠ 1 then ([], failT L s 11) else ((curT L s).text, s.go)
def numV (b : List UInt8) : Nat := b.foldl (fun n c => 10 * n + (c.toNat - 48)) 0
def qnameT (s : PS) : (List UInt8 × List UInt8) × PS :=
  let p := nameT L s
  if isT L p.2 [46] = true then
    let q := nameT L p.2.go
    ((p.1, q.1), q.2)
  else (([], p.1), p.2)
def ndK (kind a b : Int) (pos : Nat) : Nd := ⟨kind, 0, [], [], a, b, pos⟩
def twoT (l : List Nd) (a kind : Int) (pos : Nat) : List Nd := l ++ [ndK kind a ((l.length : Int) - 1) pos]

abbrev EX := PS → List Nd → List Nd × PS

/-- Which of some signs stands there, and what it makes. -/
def whichT (s : PS) : List (List UInt8 × Int) → Option Int
  | [] => none
  | (t, k) :: r => if isT L s t = true then some k else whichT s r
def opLoop (ops : List (List UInt8 × Int)) (U : EX) : Nat → EX
  | 0, s, l => (l, s)
  | n + 1, s, l =>
    if s.e ≠ 0 then (l, s)
    else match whichT L s ops with
      | some k =>
        let r := U s.go l
        opLoop ops U n r.2 (twoT r.1 ((l.length : Int) - 1) k (curT L s).pos)
      | none => (l, s)
def opT (ops : List (List UInt8 × Int)) (U : EX) (n : Nat) : EX := fun s l =>
  let r := U s l
  opLoop L ops U n r.2 r.1
def mulOps : List (List UInt8 × Int) := [([42], 7), ([47], 8), ([37], 9)]
def addOps : List (List UInt8 × Int) := [([43], 5), ([45], 6)]
def relOps : List (List UInt8 × Int) := [([61, 61], 10), ([60], 11), ([60, 61], 12)]
def termT (U : EX) (n : Nat) : EX := opT L mulOps U n
def sumT (U : EX) (n : Nat) : EX := opT L addOps (termT L U n) n
def exprT (U : EX) (n : Nat) : EX := fun s l =>
  let r := sumT L U n s l
  match whichT L r.2 relOps with
  | some k =>
    let q := sumT L U n r.2.go r.1
    (twoT q.1 ((r.1.length : Int) - 1) k (curT L r.2).pos, q.2)
  | none => r
def unaryT : Nat → EX
  | 0 => fun s l => (l, s)
  | n + 1 => fun s l =>
    let t := curT L s
    if s.e ≠ 0 then (l, s)
    else if isT L s [45] = true ∨ isT L s [33] = true then
      let r := unaryT n (openT L s t.text) l
      (r.1 ++ [ndK (if t.text = [33] then 4 else 3) ((r.1.length : Int) - 1) (-1) t.pos], r.2.shut)
    else if isT L s [40] = true then
      let r := exprT L (unaryT n) n (openT L s [40]) l
      (r.1, (wantT L r.2 [41]).shut)
    else if t.kind = 2 then (l ++ [⟨1, numV t.text, [], [], -1, -1, t.pos⟩], s.go)
    else if t.kind = 1 then
      let q := qnameT L s
      (l ++ [⟨2, 0, q.1.1, q.1.2, -1, -1, t.pos⟩], q.2)
    else (l, failT L s 11)
/-- An expression, from its beginning. -/
def exprN (s : PS) : List Nd × PS := exprT L (unaryT L (L.length + 1)) (L.length + 1) s []

/-- Things with commas between, at least one. -/
def listLoop {α : Type} (one : PS → α × PS) : Nat → PS → List α → List α × PS
  | 0, s, acc => (acc, s)
  | n + 1, s, acc =>
    if s.e ≠ 0 then (acc, s)
    else
      let r := one s
      if isT L r.2 [44] = true then listLoop one n r.2.go (acc ++ [r.1]) else (acc ++ [r.1], r.2)
/-- Perhaps none, if what shuts them stands there. -/
def listT {α : Type} (one : PS → α × PS) (s : PS) (shut : List UInt8) : List α × PS :=
  let r := if isT L s shut = true then ([], s) else listLoop L one (L.length + 1) s []
  (r.1, wantT L r.2 shut)
def paramT (s : PS) : Par × PS :=
  let a := nameT L s
  let b := nameT L (wantT L a.2 [58])
  (⟨a.1, b.1, (curT L s).pos⟩, b.2)

def sh0 (pos : Nat) : SH := ⟨0, pos, [], [], [], false, [], [], [], []⟩
def callT (s : PS) (pos : Nat) : SH × PS :=
  let q := qnameT L s
  let b := isT L q.2 [61]
  let p := if b = true then qnameT L q.2.go else q
  let g := listT L (exprN L) (wantT L p.2 [40]) [41]
  (⟨4, pos, if b = true then q.1.1 else [], if b = true then q.1.2 else [], [], b, p.1.1, p.1.2, [], g.1⟩, g.2)
/-- A statement that ends with a semicolon, behind it. -/
def endT (r : SH × PS) : Stm × PS := (.mk r.1 [] [], wantT L r.2 [59])
def stmLoop (S : PS → Stm × PS) : Nat → PS → List Stm → List Stm × PS
  | 0, s, acc => (acc, s)
  | n + 1, s, acc =>
    if s.e ≠ 0 ∨ isT L s [125] = true then (acc, s)
    else
      let r := S s
      stmLoop S n r.2 (acc ++ [r.1])
def blockT (S : PS → Stm × PS) (n : Nat) (s : PS) : List Stm × PS :=
  let r := stmLoop L S n (openT L s [123]) []
  (r.1, (wantT L r.2 [125]).shut)
def kLet : List UInt8 := [108, 101, 116]
def kResult : List UInt8 := [114, 101, 115, 117, 108, 116]
def kCall : List UInt8 := [99, 97, 108, 108]
def kEmit : List UInt8 := [101, 109, 105, 116]
def kSkip : List UInt8 := [115, 107, 105, 112]
def kIf : List UInt8 := [105, 102]
def kElse : List UInt8 := [101, 108, 115, 101]
def kWhile : List UInt8 := [119, 104, 105, 108, 101]
def setT (s : PS) (pos : Nat) : SH × PS :=
  let q := qnameT L s
  let x := exprN L (wantT L q.2 [61])
  ({ sh0 pos with kind := 2, mod := q.1.1, name := q.1.2, e := x.1 }, x.2)
def letT (s : PS) (pos : Nat) : SH × PS :=
  let a := nameT L s
  let b := nameT L (wantT L a.2 [58])
  let x := exprN L (wantT L b.2 [61])
  ({ sh0 pos with kind := 1, name := a.1, label := b.1, e := x.1 }, x.2)
def resultT (s : PS) (pos : Nat) : SH × PS :=
  let x := exprN L (wantT L s [61])
  ({ sh0 pos with kind := 3, e := x.1 }, x.2)
def emitT (s : PS) (pos : Nat) : SH × PS :=
  let a := nameT L s
  ({ sh0 pos with kind := 7, name := a.1 }, a.2)
def stmtT : Nat → PS → Stm × PS
  | 0, s => (.mk (sh0 0) [] [], s)
  | n + 1, s =>
    let pos := (curT L s).pos
    if s.e = 0 ∧ (curT L s).kind = 1 then endT L (setT L s pos)
    else if isT L s kLet = true then endT L (letT L s.go pos)
    else if isT L s kResult = true then endT L (resultT L s.go pos)
    else if isT L s kCall = true then endT L (callT L s.go pos)
    else if isT L s kEmit = true then endT L (emitT L s.go pos)
    else if isT L s kSkip = true then endT L ({ sh0 pos with kind := 8 }, s.go)
    else if isT L s kIf = true then
      let x := exprN L s.go
      let b := blockT L (stmtT n) n x.2
      if isT L b.2 kElse = true then
        let c := blockT L (stmtT n) n b.2.go
        (.mk { sh0 pos with kind := 5, e := x.1 } b.1 c.1, c.2)
      else (.mk { sh0 pos with kind := 5, e := x.1 } b.1 [], b.2)
    else if isT L s kWhile = true then
      let x := exprN L s.go
      let b := blockT L (stmtT n) n x.2
      (.mk { sh0 pos with kind := 6, e := x.1 } b.1 [], b.2)
    else (.mk (sh0 pos) [] [], failT L s 11)
def blockN (s : PS) : List Stm × PS := blockT L (stmtT L (L.length + 1)) (L.length + 1) s

def kPc : List UInt8 := [112, 99]
def kUses : List UInt8 := [117, 115, 101, 115]
def kImport : List UInt8 := [105, 109, 112, 111, 114, 116]
def kModule : List UInt8 := [109, 111, 100, 117, 108, 101]
def kVar : List UInt8 := [118, 97, 114]
def kProc : List UInt8 := [112, 114, 111, 99]
def kLabels : List UInt8 := [108, 97, 98, 101, 108, 115]
def procT (s : PS) : Prc × PS :=
  let a := nameT L s
  let g := listT L (paramT L) (wantT L a.2 [40]) [41]
  let b := isT L g.2 [45, 62]
  let r := if b = true then nameT L g.2.go else ([], g.2)
  let c := nameT L (wantT L r.2 kPc)
  let u := listT L (nameT L) (wantT L (wantT L c.2 kUses) [123]) [125]
  let k := blockN L u.2
  (⟨a.1, g.1, b, r.1, c.1, u.1, k.1, (curT L s).pos⟩, k.2)
def varT (s : PS) : Vrb × PS :=
  let a := nameT L s
  let b := nameT L (wantT L a.2 [58])
  let s3 := wantT L b.2 [61]
  let s4 := takeT L s3 [45]
  if s4.e ≠ 0 ∨ (curT L s4).kind ≠ 2 then (⟨a.1, b.1, 0, (curT L s).pos⟩, failT L s4 11)
  else (⟨a.1, b.1, if isT L s3 [45] = true then - (numV (curT L s4).text : Int) else numV (curT L s4).text, (curT L s).pos⟩, wantT L s4.go [59])
def impLoop : Nat → PS → List Imp → List Imp × PS
  | 0, s, acc => (acc, s)
  | n + 1, s, acc =>
    if isT L s kImport = true then
      let a := nameT L s.go
      impLoop n (wantT L a.2 [59]) (acc ++ [⟨a.1, (curT L s.go).pos⟩])
    else (acc, s)
def declLoop : Nat → PS → List Vrb → List Prc → (List Vrb × List Prc) × PS
  | 0, s, vs, ps => ((vs, ps), s)
  | n + 1, s, vs, ps =>
    if s.e ≠ 0 ∨ (curT L s).kind = 0 then ((vs, ps), s)
    else if isT L s kVar = true then
      let v := varT L s.go
      declLoop n v.2 (vs ++ [v.1]) ps
    else if isT L s kProc = true then
      let p := procT L s.go
      declLoop n p.2 vs (ps ++ [p.1])
    else declLoop n (failT L s 11) vs ps
def moduleT (s : PS) : Mdl × PS :=
  let s1 := wantT L s kModule
  let a := nameT L s1
  let i := impLoop L (L.length + 1) (wantT L a.2 [59]) []
  let d := declLoop L (L.length + 1) i.2 [] []
  (⟨a.1, (curT L s1).pos, i.1, d.1.1, d.1.2⟩, d.2)

def lessLoop : Nat → PS → List UInt8 → List Par → List Par × PS
  | 0, s, _, acc => (acc, s)
  | n + 1, s, a, acc =>
    if isT L s [60] = true then
      let b := nameT L s.go
      lessLoop n b.2 b.1 (acc ++ [⟨a, b.1, (curT L s.go).pos⟩])
    else (acc, s)
def lineLoop : Nat → PS → List Par → List Par × PS
  | 0, s, acc => (acc, s)
  | n + 1, s, acc =>
    if s.e ≠ 0 ∨ (curT L s).kind = 0 then (acc, s)
    else
      let a := nameT L s
      let acc1 := if isT L a.2 [60] = true then acc else acc ++ [⟨a.1, [], (curT L s).pos⟩]
      let r := lessLoop L (L.length + 1) a.2 a.1 acc1
      lineLoop n (wantT L r.2 [59]) r.1
def labelsT (s : PS) : List Par × PS := lineLoop L (L.length + 1) (wantT L s kLabels) []
end

def ps0 : PS := ⟨0, 0, 0, 0⟩
def mdl0 : Mdl := ⟨[], 0, [], [], []⟩
/-- What Module tells of a text. -/
def parseP (b : List UInt8) : Mdl × Int × Nat :=
  if (lexP b).e ≠ 0 then (mdl0, (lexP b).e, (lexP b).pos)
  else
    let r := moduleT (lexP b).l ps0
    if r.2.e ≠ 0 then (mdl0, r.2.e, r.2.pos) else (r.1, 0, 0)
/-- What Labels tells of a text. -/
def labelsP (b : List UInt8) : List Par × Int × Nat :=
  if (lexP b).e ≠ 0 then ([], (lexP b).e, (lexP b).pos)
  else
    let r := labelsT (lexP b).l ps0
    if r.2.e ≠ 0 then ([], r.2.e, r.2.pos) else (r.1, 0, 0)

end Go.Proofs.YtfcfbdemfbkgmaaGreatDoor

namespace Go.Proofs.YtfcfbdemfbkgmaaGreatDoor
open Go.RowKit Go.Lib

/-- Tokens as a lexer leaves them: the last one, and no other, is the end. -/
structure TokL (L : List Tk) : Prop where
  pos : 0 < L.length
  more : ∀ j, j < L.length → (L.getD j ⟨0, [], 0⟩).kind ≠ 0 → j + 1 < L.length
  num : ∀ t ∈ L, t.kind = 2 → t.text.length ≤ 9 ∧ ∀ c ∈ t.text, isDig c = true
  few : L.length ≤ 10000

/-- What a piece of the parser does to where it is. -/
structure Goes (L : List Tk) (s s' : PS) : Prop where
  i : s.i ≤ s'.i
  lt : s.i < L.length → s'.i < L.length
  deep : s'.deep = s.deep
  err : s.e ≠ 0 → s' = s
  at_ : (s.e ≠ 0 → s.pos = (curT L s).pos) → s'.e ≠ 0 → s'.pos = (curT L s').pos
theorem Goes.refl (L : List Tk) (s : PS) : Goes L s s := ⟨Nat.le_refl _, id, rfl, fun _ => rfl, id⟩
theorem Goes.trans {L : List Tk} {a b c : PS} (h : Goes L a b) (k : Goes L b c) : Goes L a c :=
  ⟨Nat.le_trans h.i k.i, fun x => k.lt (h.lt x), k.deep.trans h.deep, fun x => by
    have := h.err x
    subst this
    exact k.err x, fun x => k.at_ (h.at_ x)⟩

variable {L : List Tk}
theorem isT_e {s : PS} {t : List UInt8} (h : isT L s t = true) : s.e = 0 ∧ ((curT L s).kind = 4 ∨ (curT L s).kind = 3) ∧ (curT L s).text = t := by
  unfold isT at h
  simp only [Bool.and_eq_true, Bool.or_eq_true, beq_iff_eq] at h
  exact ⟨h.1.1, h.1.2, h.2⟩
theorem isT_err {s : PS} (h : s.e ≠ 0) (t : List UInt8) : isT L s t = false := by
  unfold isT
  rw [beq_eq_false_iff_ne.2 h]
  rfl
theorem isT_more (hL : TokL L) {s : PS} {t : List UInt8} (h : isT L s t = true) (hi : s.i < L.length) : s.i + 1 < L.length := by
  obtain ⟨_, h2, _⟩ := isT_e h
  refine hL.more s.i hi ?_
  change (curT L s).kind ≠ 0
  rcases h2 with h2 | h2 <;> rw [h2] <;> decide
theorem go_goes (hL : TokL L) {s : PS} (he : s.e = 0) (hk : (curT L s).kind ≠ 0) : Goes L s s.go :=
  ⟨Nat.le_succ _, fun hi => hL.more s.i hi hk, rfl, fun h => absurd he h, fun _ h => absurd he h⟩
theorem is_goes (hL : TokL L) {s : PS} {t : List UInt8} (h : isT L s t = true) : Goes L s s.go := by
  obtain ⟨h1, h2, _⟩ := isT_e h
  exact go_goes hL h1 (by rcases h2 with h2 | h2 <;> rw [h2] <;> decide)
theorem fail_goes (s : PS) (x : Int) : Goes L s (failT L s x) := by
  unfold failT
  split
  · rename_i h
    exact ⟨Nat.le_refl _, id, rfl, fun h2 => absurd h h2, fun _ _ => rfl⟩
  · exact Goes.refl _ _
theorem fail_e {s : PS} {x : Int} (hx : x ≠ 0) : (failT L s x).e ≠ 0 := by
  unfold failT
  split
  · exact hx
  · rename_i h
    exact h
theorem fail_err {s : PS} (h : s.e ≠ 0) (x : Int) : failT L s x = s := if_neg h
theorem want_goes (hL : TokL L) (s : PS) (t : List UInt8) : Goes L s (wantT L s t) := by
  unfold wantT
  split
  · rename_i h
    exact is_goes hL h
  · exact fail_goes _ _
theorem take_goes (hL : TokL L) (s : PS) (t : List UInt8) : Goes L s (takeT L s t) := by
  unfold takeT
  split
  · rename_i h
    exact is_goes hL h
  · exact Goes.refl _ _
theorem name_goes (hL : TokL L) (s : PS) : Goes L s (nameT L s).2 := by
  unfold nameT
  split
  · exact fail_goes _ _
  · rename_i h
    rw [not_or, Decidable.not_not, Decidable.not_not] at h
    exact go_goes hL h.1 (by rw [h.2]; decide)
theorem qname_goes (hL : TokL L) (s : PS) : Goes L s (qnameT L s).2 := by
  unfold qnameT
  simp only
  split
  · rename_i h
    exact (name_goes hL s).trans ((is_goes hL h).trans (name_goes hL _))
  · exact name_goes hL s
/-- One deeper, and back. -/
theorem open_goes (hL : TokL L) (s s2 : PS) (t : List UInt8) (h : Goes L (openT L s t) s2) : Goes L s s2.shut := by
  have h1 : Goes L s (if isT L s t = true ∧ 40 ≤ s.deep then failT L s 12 else s) := by
    split
    · exact fail_goes _ _
    · exact Goes.refl _ _
  have h3 := h1.trans (want_goes hL _ t)
  unfold openT at h
  simp only at h
  refine ⟨Nat.le_trans h3.i h.i, fun hi => h.lt (h3.lt hi), ?_, fun he => ?_, fun ha => h.at_ (h3.at_ ha)⟩
  · show s2.deep - 1 = s.deep
    have e1 := h.deep
    have e2 := h3.deep
    simp only at e1
    omega
  · have e1 := h3.err he
    have e2 := h.err (by rw [e1]; exact he)
    rw [e1] at e2
    rw [e2]
    rfl

theorem which_is {s : PS} : ∀ {ops : List (List UInt8 × Int)} {k : Int}, whichT L s ops = some k → ∃ t, isT L s t = true
  | [], _, h => by cases h
  | (t, k') :: r, k, h => by
    unfold whichT at h
    split at h
    · rename_i h1
      exact ⟨t, h1⟩
    · exact which_is h
theorem which_err {s : PS} (h : s.e ≠ 0) : ∀ ops : List (List UInt8 × Int), whichT L s ops = none
  | [] => rfl
  | (t, k) :: r => by
    unfold whichT
    rw [isT_err h, if_neg (by simp)]
    exact which_err h r
theorem opLoop_goes (hL : TokL L) (ops : List (List UInt8 × Int)) {U : EX} (hU : ∀ s l, Goes L s (U s l).2) : ∀ (n : Nat) (s : PS) (l : List Nd), Goes L s (opLoop L ops U n s l).2
  | 0, s, l => Goes.refl _ _
  | n + 1, s, l => by
    unfold opLoop
    split
    · exact Goes.refl _ _
    · cases h : whichT L s ops with
      | none => exact Goes.refl _ _
      | some k =>
        obtain ⟨t, ht⟩ := which_is h
        exact (is_goes hL ht).trans ((hU _ _).trans (opLoop_goes hL ops hU n _ _))
theorem opT_goes (hL : TokL L) (ops : List (List UInt8 × Int)) {U : EX} (hU : ∀ s l, Goes L s (U s l).2) (n : Nat) (s : PS) (l : List Nd) : Goes L s (opT L ops U n s l).2 := (hU _ _).trans (opLoop_goes hL ops hU n _ _)
theorem expr_goes (hL : TokL L) {U : EX} (hU : ∀ s l, Goes L s (U s l).2) (n : Nat) (s : PS) (l : List Nd) : Goes L s (exprT L U n s l).2 := by
  have hS : ∀ s l, Goes L s (sumT L U n s l).2 := fun s l => opT_goes hL _ (fun s l => opT_goes hL _ hU n s l) n s l
  unfold exprT
  simp only
  cases h : whichT L (sumT L U n s l).2 relOps with
  | none => exact hS _ _
  | some k =>
    obtain ⟨t, ht⟩ := which_is h
    exact (hS _ _).trans ((is_goes hL ht).trans (hS _ _))
theorem unary_goes (hL : TokL L) : ∀ (n : Nat) (s : PS) (l : List Nd), Goes L s (unaryT L n s l).2
  | 0, s, l => Goes.refl _ _
  | n + 1, s, l => by
    unfold unaryT
    simp only
    split
    · exact Goes.refl _ _
    rename_i he
    have he : s.e = 0 := by simpa using he
    split
    · exact open_goes hL s _ _ (unary_goes hL n _ _)
    split
    · exact open_goes hL s _ _ ((expr_goes hL (unary_goes hL n) n _ _).trans (want_goes hL _ _))
    split
    · rename_i h
      exact go_goes hL he (by rw [h]; decide)
    split
    · exact qname_goes hL s
    · exact fail_goes _ _
theorem exprN_goes (hL : TokL L) (s : PS) : Goes L s (exprN L s).2 := expr_goes hL (unary_goes hL _) _ _ _
theorem listLoop_goes (hL : TokL L) {α : Type} {one : PS → α × PS} (h1 : ∀ s, Goes L s (one s).2) : ∀ (n : Nat) (s : PS) (acc : List α), Goes L s (listLoop L one n s acc).2
  | 0, s, acc => Goes.refl _ _
  | n + 1, s, acc => by
    unfold listLoop
    simp only
    split
    · exact Goes.refl _ _
    split
    · rename_i h
      exact (h1 s).trans ((is_goes hL h).trans (listLoop_goes hL h1 n _ _))
    · exact h1 s
theorem list_goes (hL : TokL L) {α : Type} {one : PS → α × PS} (h1 : ∀ s, Goes L s (one s).2) (s : PS) (t : List UInt8) : Goes L s (listT L one s t).2 := by
  unfold listT
  simp only
  split
  · exact want_goes hL _ _
  · exact (listLoop_goes hL h1 _ _ _).trans (want_goes hL _ _)
theorem param_goes (hL : TokL L) (s : PS) : Goes L s (paramT L s).2 := (name_goes hL s).trans ((want_goes hL _ _).trans (name_goes hL _))
theorem call_goes (hL : TokL L) (s : PS) (pos : Nat) : Goes L s (callT L s pos).2 := by
  unfold callT
  simp only
  have h1 : Goes L s (if isT L (qnameT L s).2 [61] = true then qnameT L (qnameT L s).2.go else qnameT L s).2 := by
    split
    · rename_i h
      exact (qname_goes hL s).trans ((is_goes hL h).trans (qname_goes hL _))
    · exact qname_goes hL s
  exact h1.trans ((want_goes hL _ _).trans (list_goes hL (exprN_goes hL) _ _))
theorem set_goes (hL : TokL L) (s : PS) (pos : Nat) : Goes L s (setT L s pos).2 := (qname_goes hL s).trans ((want_goes hL _ _).trans (exprN_goes hL _))
theorem let_goes (hL : TokL L) (s : PS) (pos : Nat) : Goes L s (letT L s pos).2 := (name_goes hL s).trans ((want_goes hL _ _).trans ((name_goes hL _).trans ((want_goes hL _ _).trans (exprN_goes hL _))))
theorem result_goes (hL : TokL L) (s : PS) (pos : Nat) : Goes L s (resultT L s pos).2 := (want_goes hL _ _).trans (exprN_goes hL _)
theorem end_goes (hL : TokL L) {s : PS} {r : SH × PS} (h : Goes L s r.2) : Goes L s (endT L r).2 := h.trans (want_goes hL _ _)
theorem stmLoop_goes (hL : TokL L) {S : PS → Stm × PS} (hS : ∀ s, Goes L s (S s).2) : ∀ (n : Nat) (s : PS) (acc : List Stm), Goes L s (stmLoop L S n s acc).2
  | 0, s, acc => Goes.refl _ _
  | n + 1, s, acc => by
    unfold stmLoop
    simp only
    split
    · exact Goes.refl _ _
    · exact (hS s).trans (stmLoop_goes hL hS n _ _)
theorem block_goes (hL : TokL L) {S : PS → Stm × PS} (hS : ∀ s, Goes L s (S s).2) (n : Nat) (s : PS) : Goes L s (blockT L S n s).2 :=
  open_goes hL s _ _ ((stmLoop_goes hL hS n _ _).trans (want_goes hL _ _))
theorem stmt_goes (hL : TokL L) : ∀ (n : Nat) (s : PS), Goes L s (stmtT L n s).2
  | 0, s => Goes.refl _ _
  | n + 1, s => by
    unfold stmtT
    simp only
    split
    · exact end_goes hL (set_goes hL _ _)
    split
    · rename_i h; exact end_goes hL ((is_goes hL h).trans (let_goes hL _ _))
    split
    · rename_i h; exact end_goes hL ((is_goes hL h).trans (result_goes hL _ _))
    split
    · rename_i h; exact end_goes hL ((is_goes hL h).trans (call_goes hL _ _))
    split
    · rename_i h; exact end_goes hL ((is_goes hL h).trans (name_goes hL _))
    split
    · rename_i h; exact end_goes hL (is_goes hL h)
    split
    · rename_i h
      have hb := (is_goes hL h).trans ((exprN_goes hL _).trans (block_goes hL (stmt_goes hL n) n _))
      split
      · rename_i h2
        exact hb.trans ((is_goes hL h2).trans (block_goes hL (stmt_goes hL n) n _))
      · exact hb
    split
    · rename_i h
      exact (is_goes hL h).trans ((exprN_goes hL _).trans (block_goes hL (stmt_goes hL n) n _))
    · exact fail_goes _ _
theorem blockN_goes (hL : TokL L) (s : PS) : Goes L s (blockN L s).2 := block_goes hL (stmt_goes hL _) _ _
theorem proc_goes (hL : TokL L) (s : PS) : Goes L s (procT L s).2 := by
  unfold procT
  simp only
  have h0 : Goes L s (listT L (paramT L) (wantT L (nameT L s).2 [40]) [41]).2 := (name_goes hL s).trans ((want_goes hL _ _).trans (list_goes hL (param_goes hL) _ _))
  refine h0.trans ?_
  generalize (listT L (paramT L) (wantT L (nameT L s).2 [40]) [41]).2 = s1
  have h1 : Goes L s1 (if isT L s1 [45, 62] = true then nameT L s1.go else ([], s1)).2 := by
    split
    · rename_i h
      exact (is_goes hL h).trans (name_goes hL _)
    · exact Goes.refl _ _
  exact h1.trans ((want_goes hL _ _).trans ((name_goes hL _).trans ((want_goes hL _ _).trans ((want_goes hL _ _).trans ((list_goes hL (name_goes hL) _ _).trans (blockN_goes hL _))))))
theorem var_goes (hL : TokL L) (s : PS) : Goes L s (varT L s).2 := by
  unfold varT
  simp only
  have h1 := (name_goes hL s).trans ((want_goes hL _ [58]).trans ((name_goes hL _).trans ((want_goes hL _ [61]).trans (take_goes hL _ [45]))))
  split
  · exact h1.trans (fail_goes _ _)
  · rename_i h
    rw [not_or, Decidable.not_not, Decidable.not_not] at h
    exact h1.trans ((go_goes hL h.1 (by rw [h.2]; decide)).trans (want_goes hL _ _))

/-- How many tokens are left. -/
def remT (L : List Tk) (s : PS) : Nat := if s.e ≠ 0 then 0 else L.length - s.i
theorem remT_e {s : PS} (h : s.e = 0) : remT L s = L.length - s.i := if_neg (by simpa using h)
theorem remT_err {s : PS} (h : s.e ≠ 0) : remT L s = 0 := if_pos h
theorem Goes.rem {s s' : PS} (h : Goes L s s') : remT L s' ≤ remT L s := by
  by_cases he : s'.e = 0
  · by_cases hs : s.e = 0
    · rw [remT_e he, remT_e hs]
      have := h.i
      omega
    · rw [h.err hs]
      exact Nat.le_refl _
  · rw [remT_err he]
    exact Nat.zero_le _
theorem rem_go {s : PS} (he : s.e = 0) (hi : s.i < L.length) : remT L s.go < remT L s := by
  rw [remT_e he, remT_e (show s.go.e = 0 from he)]
  show L.length - (s.i + 1) < _
  omega
theorem rem_fail {s : PS} {x : Int} (hx : x ≠ 0) (he : s.e = 0) (hi : s.i < L.length) : remT L (failT L s x) < remT L s := by
  rw [remT_err (fail_e hx), remT_e he]
  omega
theorem rem_lt {s : PS} (hi : s.i < L.length) : remT L s < L.length + 1 := by
  unfold remT
  split <;> omega
theorem rem_name {s : PS} (he : s.e = 0) (hi : s.i < L.length) : remT L (nameT L s).2 < remT L s := by
  unfold nameT
  split
  · exact rem_fail (by decide) he hi
  · exact rem_go he hi
theorem rem_qname (hL : TokL L) {s : PS} (he : s.e = 0) (hi : s.i < L.length) : remT L (qnameT L s).2 < remT L s := by
  unfold qnameT
  simp only
  split
  · rename_i h
    exact Nat.lt_of_le_of_lt ((is_goes hL h).trans (name_goes hL _)).rem (rem_name he hi)
  · exact rem_name he hi
theorem rem_want {s : PS} {t : List UInt8} (he : s.e = 0) (hi : s.i < L.length) : remT L (wantT L s t) < remT L s := by
  unfold wantT
  split
  · exact rem_go he hi
  · exact rem_fail (by decide) he hi
theorem rem_deep (s : PS) (d : Nat) : remT L { s with deep := d } = remT L s := rfl
theorem rem_open {s : PS} {t : List UInt8} (he : s.e = 0) (hi : s.i < L.length) : remT L (openT L s t) < remT L s := by
  unfold openT
  simp only
  rw [rem_deep]
  split
  · have h1 : (failT L s 12).e ≠ 0 := fail_e (by decide)
    unfold wantT
    rw [isT_err h1, if_neg (by simp), fail_err h1]
    exact rem_fail (by decide) he hi
  · exact rem_want he hi
/-- A statement takes something, or fails. -/
theorem rem_stmt (hL : TokL L) (n : Nat) {s : PS} (he : s.e = 0) (hi : s.i < L.length) : remT L (stmtT L (n + 1) s).2 < remT L s := by
  have g : ∀ {s' : PS}, Goes L s.go s' → remT L s' < remT L s := fun h => Nat.lt_of_le_of_lt h.rem (rem_go he hi)
  unfold stmtT
  simp only
  split
  · exact Nat.lt_of_le_of_lt (end_goes hL (s := (qnameT L s).2) ((want_goes hL _ _).trans (exprN_goes hL _))).rem (rem_qname hL he hi)
  split
  · exact g (end_goes hL (let_goes hL _ _))
  split
  · exact g (end_goes hL (result_goes hL _ _))
  split
  · exact g (end_goes hL (call_goes hL _ _))
  split
  · exact g (end_goes hL (name_goes hL _))
  split
  · exact g (end_goes hL (Goes.refl _ _))
  split
  · have hb := (exprN_goes hL s.go).trans (block_goes hL (stmt_goes hL n) n _)
    split
    · rename_i h2
      exact g (hb.trans ((is_goes hL h2).trans (block_goes hL (stmt_goes hL n) n _)))
    · exact g hb
  split
  · exact g ((exprN_goes hL s.go).trans (block_goes hL (stmt_goes hL n) n _))
  · exact rem_fail (by decide) he hi

end Go.Proofs.YtfcfbdemfbkgmaaGreatDoor
