/- The code's Module and Labels: what starts, what is recovered. Numbers and types by name. -/
import Derived.Test.YtlgfijjkbomejaaGreatDoorSgn
import Derived.ChangeKeysEq
import Derived.Test.YtlgfijjkbomejaaGreatDoorLxb
import Derived.Tactics
import Derived.Tactics2
import Derived.Defers
import Derived.Recover
/- THE CODE's lexer: signs, and what stands first. Numbers and types by name. -/
namespace Go.Proofs.YtlgfijjkbomejaaGreatDoor
open Go.RowKit Go.Lib
set_option maxRecDepth 100000

/-- Does the one text begin the other? -/
def begL (t l : List UInt8) : Bool := l.take t.length == t
/-- The first sign of the list that a text begins with is the one that stands there. -/
theorem sign_first (c : UInt8) (r : List UInt8) : signL (c :: r) = match signs19.find? (fun t => begL t (c :: r)) with | some t => t.length | none => 0 := by
  have e1 : ∀ d : UInt8, begL [d] (c :: r) = (c == d) := fun d => by
    unfold begL
    simp [List.cons_beq_cons]
  cases r with
  | nil =>
    have e2 : ∀ d f : UInt8, begL [d, f] [c] = false := fun d f => by
      unfold begL
      simp [List.cons_beq_cons]
    show (if oneL c = true then 1 else 0) = _
    unfold signs19 oneL
    simp only [List.find?, e1, e2]
    cases c == 40 <;> cases c == 41 <;> cases c == 123 <;> cases c == 125 <;> cases c == 44 <;> cases c == 59 <;> cases c == 58 <;> cases c == 46 <;> try rfl
    all_goals (cases c == 61 <;> cases c == 60 <;> cases c == 43 <;> cases c == 45 <;> cases c == 42 <;> cases c == 47 <;> cases c == 37 <;> cases c == 33 <;> rfl)
  | cons d r =>
    have e2 : ∀ f g : UInt8, begL [f, g] (c :: d :: r) = (c == f && d == g) := fun f g => by
      unfold begL
      simp [List.cons_beq_cons]
    show (if twoL c d = true then 2 else if oneL c = true then 1 else 0) = _
    unfold signs19 twoL oneL
    simp only [List.find?, e1, e2]
    cases (c == 61 && d == 61) <;> cases (c == 60 && d == 61) <;> cases (c == 45 && d == 62) <;> try rfl
    cases c == 40 <;> cases c == 41 <;> cases c == 123 <;> cases c == 125 <;> cases c == 44 <;> cases c == 59 <;> cases c == 58 <;> cases c == 46 <;> try rfl
    all_goals (cases c == 61 <;> cases c == 60 <;> cases c == 43 <;> cases c == 45 <;> cases c == 42 <;> cases c == 47 <;> cases c == 37 <;> cases c == 33 <;> rfl)
theorem find_at {α : Type} {p : α → Bool} : ∀ {l : List α} {k : Nat} {x : α}, l[k]? = some x → p x = true → (∀ (j : Nat) y, j < k → l[j]? = some y → p y = false) → l.find? p = some x
  | [], _, _, h, _, _ => by simp at h
  | y :: l, 0, x, h, hp, _ => by
    simp only [List.getElem?_cons_zero, Option.some.injEq] at h
    subst h
    rw [List.find?_cons, hp]
  | y :: l, k + 1, x, h, hp, hn => by
    rw [List.find?_cons, hn 0 y (by omega) rfl]
    rw [List.getElem?_cons_succ] at h
    exact find_at h hp fun j z hj hz => hn (j + 1) z (by omega) (by rw [List.getElem?_cons_succ]; exact hz)
theorem find_no {α : Type} {p : α → Bool} {l : List α} (h : ∀ (j : Nat) y, l[j]? = some y → p y = false) : l.find? p = none := by
  rw [List.find?_eq_none]
  intro x hx
  obtain ⟨j, hj⟩ := List.getElem?_of_mem hx
  rw [h j x hj]
  simp

def signS (l : List UInt8) : LStep := if signL l = 0 then .bad 10 else .tok 4 (signL l)
end Go.Proofs.YtlgfijjkbomejaaGreatDoor

/- What is asked of the code's lexer; the document's example; lists of tokens compared. Numbers and types by name. -/
namespace Go.Proofs.YtlgfijjkbomejaaGreatDoor
open Go.RowKit Go.Lib
set_option maxRecDepth 100000

theorem lnum_at (k : Int) (w : World) : Calls Tryz.prog 20 #[.int .i64 k] w fun e w' => e = .returned (.int .i64 k) ∧ w = w' := by
  go_enter Tryz.func20, Tryz.ntmps20
  go_wp2_with fail
  go_ret
  exact ⟨rfl, rfl⟩

theorem lex_ex : lexP [120, 61, 49, 59] = ⟨[⟨1, [120], 0⟩, ⟨4, [61], 1⟩, ⟨2, [49], 2⟩, ⟨4, [59], 3⟩, ⟨0, [], 4⟩], 0, 0⟩ := by decide
/-- What same tells. -/
def SameT (ps qs : List Tk) (w : World) (e : Ending) (w' : World) : Prop := ∃ k, e = .returned (.bool (decide (ps = qs))) ∧ w' = w.drewN k
end Go.Proofs.YtlgfijjkbomejaaGreatDoor

/- THE CODE's lexer, whole: an instance of what is asked of it. Numbers and types by name. -/
namespace Go.Proofs.YtlgfijjkbomejaaGreatDoor
open Go.RowKit Go.Lib
set_option maxRecDepth 100000

/-- Blanks in a row are left out in one go. -/
theorem lexA_blanks : ∀ (r : List UInt8) (i : Nat), lexA i r = lexA (i + runL isSpc r) (r.drop (runL isSpc r))
  | [], i => by simp [runL]
  | c :: r, i => by
    by_cases h : isSpc c = true
    · have hs : stepL (c :: r) = .skip 1 := by
        show stepC c r = _
        unfold stepC
        rw [if_pos h]
      rw [runL_cons h, lexA_skip hs, List.drop_succ_cons, List.drop_zero, lexA_blanks r (i + 1), Nat.add_comm 1, List.drop_succ_cons, show i + 1 + runL isSpc r = i + (runL isSpc r + 1) by omega]
    · have h0 : runL isSpc (c :: r) = 0 := by
        unfold runL
        rw [List.takeWhile_cons, if_neg h]
        rfl
      rw [h0]
      rfl
theorem lexA_gap (c : UInt8) (r : List UInt8) (i : Nat) : lexA i (c :: r) = lexA (i + gapL (c :: r)) ((c :: r).drop (gapL (c :: r))) := by
  unfold gapL
  by_cases h : c = 35
  · simp only [if_pos h]
    subst h
    have hs : stepL (35 :: r) = .skip (1 + runL (fun x => x != 10) r) := rfl
    rw [runL_cons (by decide)]
    exact lexA_skip hs
  · simp only [if_neg h]
    exact lexA_blanks _ _
theorem gap_zero {c : UInt8} {r : List UInt8} (h : gapL (c :: r) = 0) : isSpc c = false ∧ c ≠ 35 := by
  change (if c = 35 then runL (fun x => x != 10) (c :: r) else runL isSpc (c :: r)) = 0 at h
  by_cases h1 : c = 35
  · rw [if_pos h1] at h
    subst h1
    rw [runL_cons (by decide)] at h
    omega
  · rw [if_neg h1] at h
    refine ⟨?_, h1⟩
    cases hs : isSpc c with
    | false => rfl
    | true => rw [runL_cons hs] at h; omega
theorem gap_le (l : List UInt8) : gapL l ≤ l.length := by
  cases l with
  | nil => exact Nat.le_refl _
  | cons c r =>
    show (if c = 35 then runL (fun x => x != 10) (c :: r) else runL isSpc (c :: r)) ≤ _
    split
    · exact runL_le _ _
    · exact runL_le _ _

/-- The text and the place, as the closure holds them. -/
structure LcW (w wr : World) (l : List UInt8) (k : Nat) : Prop where
  s : wr.cell? ⟨w.heap.size, 0, none⟩ = some (.string (tx l))
  a : wr.cell? ⟨w.heap.size + 1, 0, none⟩ = some (.int .i64 k)
  fz : wr.frozen? ⟨w.heap.size + 1, 0, none⟩ = false
  b : Below w.heap.size w wr
  sz : w.heap.size + 2 ≤ wr.heap.size
theorem belowset2 {B : Nat} {w wr : World} (h : Below B w wr) {c : Nat} (hc : B ≤ c) (j : Nat) (v : Value) : Below B w (wr.setCell ⟨c, j, none⟩ v) :=
  ⟨h.os, h.tape, h.output, by rw [World.setCell]; simpa using h.size, fun i hi => by rw [← h.block i hi]; simp [World.setCell, Array.getElem?_modify]; intro e; omega⟩
theorem LcW.set {w wr : World} {l : List UInt8} {k : Nat} (h : LcW w wr l k) (k' : Nat) : LcW w (wr.setCell ⟨w.heap.size + 1, 0, none⟩ (.int .i64 (k' : Int))) l k' := by
  have e1 : (⟨w.heap.size + 1, 0, none⟩ : Addr) ≠ ⟨w.heap.size, 0, none⟩ := by intro e; simp at e
  exact ⟨(World.cell?_setCell_other wr _ _ _ e1).trans h.s, World.cell?_setCell_same wr _ _ h.a, by rw [World.frozen?_setCell]; exact h.fz, belowset2 h.b (by omega) _ _, by rw [World.setCell]; simpa using h.sz⟩
theorem LcW.below {w w1 w2 : World} {l : List UInt8} {k : Nat} (h : LcW w w1 l k) (hb : Below (w.heap.size + 2) w1 w2) : LcW w w2 l k :=
  ⟨(World.cell?_of_block (hb.block _ (by show w.heap.size < _; omega))).trans h.s, (World.cell?_of_block (hb.block _ (by show w.heap.size + 1 < _; omega))).trans h.a, (World.frozen?_of_block (hb.block _ (by show w.heap.size + 1 < _; omega))).trans h.fz, h.b.trans (hb.mono (by omega)), Nat.le_trans h.sz hb.size⟩
/-- Between two tokens. -/
def LexC (w wr : World) (l : List UInt8) (R : LexR) (k : Nat) (v : Value) (n : Nat) : Prop :=
  LcW w wr l k ∧ ∃ acc, OwnT wr (w.heap.size + 2) v n acc ∧ appL acc (lexA k (l.drop k)) = R ∧ acc.length ≤ k
def posOf (o : Option Value) : Nat := match o with
  | some (.int _ z) => z.toNat
  | _ => 0
theorem own_tset {w wr : World} {v : Value} {n : Nat} {acc : List Tk} {c : Nat} (h : OwnT wr (w.heap.size + 2) v n acc) (hc : c < w.heap.size + 2) (x : Value) : OwnT (wr.setCell ⟨c, 0, none⟩ x) (w.heap.size + 2) v n acc :=
  ⟨h.1, ownsRow_setCell_below h.2 hc x⟩

end Go.Proofs.YtlgfijjkbomejaaGreatDoor

namespace Go.Proofs.YtlgfijjkbomejaaGreatDoor
open Go.RowKit Go.Lib
set_option maxRecDepth 100000

/-- Blocks of the results. -/
structure RsB (w : World) (M E A : Nat) (cs : Array Value) (t : TypeId) (x : Int) (p : Int) : Prop where
  m : w.heap[M]? = some (.cells cs t)
  e : w.heap[E]? = some (.cells #[.int .i64 x] 47)
  a : w.heap[A]? = some (.cells #[.int .i64 p] 3)
  me : M ≠ E
  ma : M ≠ A
  ea : E ≠ A
def mod0 : Array Value := #[.string ⟨#[]⟩, .int .i64 0, .slice none 0 0, .slice none 0 0, .slice none 0 0]

def lab0 : Array Value := #[.slice none 0 0]
theorem res_three {fn : Func} {t : TypeId} (h : fn.results = #[.cell 2 t, .cell 3 47, .cell 4 3]) (tmps : Array Value) (w : World) (M E A : Nat) (cs : Array Value) (x p : Int) (v : Value) (H : RsB w M E A cs t x p)
    (h2 : tmps.getD 2 undef = .pointer (some ⟨M, 0, none⟩)) (h3 : tmps.getD 3 undef = .pointer (some ⟨E, 0, none⟩)) (h4 : tmps.getD 4 undef = .pointer (some ⟨A, 0, none⟩)) (hv : (loadVar t ⟨M, 0, none⟩).run Tryz.prog w = .ok v w) :
    (results fn tmps).run Tryz.prog w = .ok (.tuple #[v, .int .i64 x, .int .i64 p]) w := by
  have e0 : w.cell? ⟨E, 0, none⟩ = some (.int .i64 x) := cellsN H.e 0 _ rfl
  have a0 : w.cell? ⟨A, 0, none⟩ = some (.int .i64 p) := cellsN H.a 0 _ rfl
  have h2' : tmps[2]?.getD undef = .pointer (some ⟨M, 0, none⟩) := by simpa using h2
  have h3' : tmps[3]?.getD undef = .pointer (some ⟨E, 0, none⟩) := by simpa using h3
  have h4' : tmps[4]?.getD undef = .pointer (some ⟨A, 0, none⟩) := by simpa using h4
  have he : (loadVar 47 ⟨E, 0, none⟩).run Tryz.prog w = .ok (.int .i64 x) w := by simp [go_sem, e0]
  have ha : (loadVar 3 ⟨A, 0, none⟩).run Tryz.prog w = .ok (.int .i64 p) w := by simp [go_sem, a0]
  simp [results, h, h2', h3', h4', asAddr, hv, he, ha]

/-- What Module tells: the tree in new memory, the error, its place. -/
def ModTold (w : World) (R : Mdl × Int × Nat) (e : Ending) (w' : World) : Prop :=
  ∃ vI vV vP, e = .returned (.tuple #[.agg #[.string (tx R.1.name), .int .i64 (R.1.pos : Int), vI, vV, vP], .int .i64 R.2.1, .int .i64 (R.2.2 : Int)]) ∧ ModV w' (NewW w w') R.1 (mdlV R.1 vI vV vP) ∧ Below w.heap.size w w'
def LabTold (w : World) (R : List Par × Int × Nat) (e : Ending) (w' : World) : Prop :=
  ∃ ao m c, e = .returned (.tuple #[.slice ao m c, .int .i64 R.2.1, .int .i64 (R.2.2 : Int)]) ∧ RowsP w' (NewW w w') 3 (fun p c => c = parV p) (.slice ao m c) m R.1 ∧ Below w.heap.size w w'
theorem rs_kept {w w' : World} {M E A : Nat} {cs : Array Value} {t : TypeId} {x p : Int} {F : List Nat} (H : RsB w M E A cs t x p) (hc : Chg F w w') (hM : M ∉ F) (hE : E ∉ F) (hA : A ∉ F) : RsB w' M E A cs t x p :=
  ⟨(hc.block M (Array.getElem?_eq_some_iff.1 H.m).1 hM).trans H.m, (hc.block E (Array.getElem?_eq_some_iff.1 H.e).1 hE).trans H.e, (hc.block A (Array.getElem?_eq_some_iff.1 H.a).1 hA).trans H.a, H.me, H.ma, H.ea⟩

/-- A struct is loaded from its cells. -/
theorem run_load_agg (w : World) (a : Addr) (ty : TypeId) (cs : List Value) (d : TypeDesc) (hc : ∀ j v, cs[j]? = some v → w.cell? (a.add j) = some v)
    (hu : Tryz.prog.underlying ty = some d) (hd : (match d with | .struct _ | .array _ _ => true | _ => false) = true) (hi : (Tryz.prog.info? ty).map (·.size) = some cs.length) :
    (loadVar ty a).run Tryz.prog w = .ok (.agg cs.toArray) w := by
  have hl : (loadCells a cs.length).run Tryz.prog w = .ok cs.toArray w := run_loadCells_list (P := Tryz.prog) w a cs hc
  cases hq : Tryz.prog.info? ty with
  | none => simp [hq] at hi
  | some i =>
    have hs : i.size = cs.length := by simpa [hq] using hi
    have hagg : (isAgg ty).run Tryz.prog w = .ok true w := by
      unfold isAgg
      rw [Sem.run_bind, run_underlying hu w]
      cases d <;> simp_all
    simp [loadVar, Sem.run_bind, hagg, sizeOf, typeInfo, hq, hs, hl]
theorem load_mod {w : World} {M : Nat} {cs : List Value} {t : TypeId} (h : w.heap[M]? = some (.cells cs.toArray t)) (hl : cs.length = 5) : (loadVar 26 ⟨M, 0, none⟩).run Tryz.prog w = .ok (.agg cs.toArray) w :=
  run_load_agg w _ 26 cs _ (fun j v hj => by have := cellsN h j v (by simpa using hj); rcases j with _ | j <;> simpa [Addr.add] using this) Tryz.underlying26 rfl (by rw [hl]; kernel_rfl)
theorem load_pars {w : World} {M : Nat} {v : Value} {t : TypeId} (h : w.heap[M]? = some (.cells #[v] t)) : (loadVar 64 ⟨M, 0, none⟩).run Tryz.prog w = .ok v w := by
  have h0 : w.cell? ⟨M, 0, none⟩ = some v := cellsN h 0 _ rfl
  simp [go_sem, h0]

/-- Deferred: the closure over the results. -/
def dfr (f : FuncId) (M E A : Nat) : Deferred := { target := .fn (.func f) #[.pointer (some ⟨M, 0, none⟩), .pointer (some ⟨E, 0, none⟩), .pointer (some ⟨A, 0, none⟩)], args := #[] }
/-- Where the three results lie, in new memory. -/
structure Thr (w W : World) (M E A : Nat) (cs : Array Value) (t : TypeId) : Prop where
  b : RsB W M E A cs t 0 0
  o : Below w.heap.size w W
  m : w.heap.size ≤ M
  e : w.heap.size ≤ E
  a : w.heap.size ≤ A
theorem thr_new (w : World) (cs : Array Value) (t : TypeId) : Thr w (((w.alloc (.cells cs t)).alloc (.cells #[.int .i64 0] 47)).alloc (.cells #[.int .i64 0] 3)) w.heap.size (w.heap.size + 1) (w.heap.size + 1 + 1) cs t := by
  refine ⟨⟨?_, ?_, ?_, by omega, by omega, by omega⟩, (((Below.refl _ w).alloc (Nat.le_refl _) _).alloc (by simp) _).alloc (by simp; omega) _, by omega, by omega, by omega⟩
  · rw [heap_alloc_old _ _ (by simp; omega), heap_alloc_old _ _ (by simp)]
    exact heap_alloc_new _ _
  · rw [heap_alloc_old _ _ (by simp)]
    have := heap_alloc_new (w.alloc (.cells cs t)) (.cells #[.int .i64 0] 47)
    rw [show (w.alloc (.cells cs t)).heap.size = w.heap.size + 1 by simp] at this
    exact this
  · have := heap_alloc_new ((w.alloc (.cells cs t)).alloc (.cells #[.int .i64 0] 47)) (.cells #[.int .i64 0] 3)
    rw [show ((w.alloc (.cells cs t)).alloc (.cells #[.int .i64 0] 47)).heap.size = w.heap.size + 1 + 1 by simp] at this
    exact this

theorem below_of {w W W' : World} {F : List Nat} (h : Below w.heap.size w W) (hc : Chg F W W') (hF : ∀ x ∈ F, w.heap.size ≤ x) : Below w.heap.size w W' := by
  exact h.trans (hc.below h.size hF)

theorem modV_shapes {w : World} {P : Nat → Prop} {m : Mdl} {vI vV vP : Value} (h : ModV w P m (mdlV m vI vV vP)) : (∃ a n c, vI = .slice a n c) ∧ (∃ a n c, vV = .slice a n c) ∧ ∃ a n c, vP = .slice a n c := by
  obtain ⟨vI', nI, vV', nV, vP', nP, e, h1, h2, h3⟩ := h
  simp only [mdlV, List.cons.injEq, true_and, and_true] at e
  obtain ⟨rfl, rfl, rfl⟩ := e
  obtain ⟨a, c, rfl⟩ := h1.shape
  obtain ⟨a', c', rfl⟩ := h2.shape
  obtain ⟨a'', c'', rfl⟩ := h3.shape
  exact ⟨⟨_, _, _, rfl⟩, ⟨_, _, _, rfl⟩, ⟨_, _, _, rfl⟩⟩
theorem ModV.chg {w w' : World} {P Q : Nat → Prop} {F : List Nat} {m : Mdl} {cs : List Value} (h : ModV w P m cs) (hc : Chg F w w') (hP : ∀ k, P k → k ∉ F) (hQ : ∀ k, P k → Q k) : ModV w' Q m cs := by
  obtain ⟨vI', nI, vV', nV, vP', nP, e, h1, h2, h3⟩ := h
  exact ⟨vI', nI, vV', nV, vP', nP, e, h1.chg hc hP hQ (fun _ _ h => h), h2.chg hc hP hQ (fun _ _ h => h), h3.chg hc hP hQ (ProcV.chg hc hP hQ)⟩

theorem modTold_none {w w' : World} {x : Int} {p : Nat} (hb : Below w.heap.size w w') : ModTold w (mdl0, x, p) (.returned (.tuple #[.agg mod0, .int .i64 x, .int .i64 (p : Int)])) w' :=
  ⟨.slice none 0 0, .slice none 0 0, .slice none 0 0, rfl, ⟨_, 0, _, 0, _, 0, rfl, RowsP.nil _ _ _ _, RowsP.nil _ _ _ _, RowsP.nil _ _ _ _⟩, hb⟩

theorem labTold_none {w w' : World} {x : Int} {p : Nat} (hb : Below w.heap.size w w') : LabTold w ([], x, p) (.returned (.tuple #[.slice none 0 0, .int .i64 x, .int .i64 (p : Int)])) w' :=
  ⟨none, 0, 0, rfl, RowsP.nil _ _ _ _, hb⟩

end Go.Proofs.YtlgfijjkbomejaaGreatDoor
