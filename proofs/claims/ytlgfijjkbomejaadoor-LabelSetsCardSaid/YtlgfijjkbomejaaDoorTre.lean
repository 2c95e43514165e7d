/- Trees of modules in memory: what can be read of them, in blocks of a kind. Numbers and types by name. -/
import Derived.Test.YtlgfijjkbomejaaDoorPay
namespace Go.Proofs.YtlgfijjkbomejaaDoor
open Go.RowKit Go.Lib
set_option maxRecDepth 100000

/-- A slice's block is of a kind. -/
def BlkP (P : Nat → Prop) (v : Value) : Prop := ∀ a n c, v = .slice (some a) n c → P a.block
theorem BlkP.nil (P : Nat → Prop) (n c : Nat) : BlkP P (.slice none n c) := fun a _ _ h => by cases h
theorem BlkP.mono {P Q : Nat → Prop} {v : Value} (h : BlkP P v) (hq : ∀ k, P k → Q k) : BlkP Q v := fun a n c e => hq _ (h a n c e)
theorem Cells.chg {w w' : World} {v : Value} {size n : Nat} {xs : List Value} {F : List Nat} {P : Nat → Prop} (h : Cells w v size n xs) (hb : BlkP P v) (hc : Chg F w w') (hP : ∀ k, P k → k ∉ F) : Cells w' v size n xs := by
  obtain ⟨ao, cap, rfl, h0, h1, h2, h3⟩ := h
  refine ⟨ao, cap, rfl, h0, h1, h2, fun a ha j u hj => ?_⟩
  have e : (a.add j).block = a.block := by unfold Addr.add; split <;> rfl
  exact hc.cell (h3 a ha j u hj) (by rw [e]; exact hP _ (hb a _ _ (by rw [ha])))

/-- Cells in parts of one size, each read as something. -/
def Parts {α : Type} (size : Nat) (R : α → List Value → Prop) : List α → List Value → Prop
  | [], cs => cs = []
  | a :: l, cs => ∃ c d, cs = c ++ d ∧ c.length = size ∧ R a c ∧ Parts size R l d
theorem Parts.length {α : Type} {size : Nat} {R : α → List Value → Prop} : ∀ {l : List α} {cs : List Value}, Parts size R l cs → cs.length = l.length * size
  | [], cs, h => by
    change cs = [] at h
    simp [h]
  | a :: l, cs, ⟨c, d, e, h1, _, h2⟩ => by
    rw [e, List.length_append, h1, Parts.length h2, List.length_cons, Nat.succ_mul, Nat.add_comm]
theorem Parts.snoc {α : Type} {size : Nat} {R : α → List Value → Prop} {a : α} {c : List Value} (hc : c.length = size) (ha : R a c) : ∀ {l : List α} {cs : List Value}, Parts size R l cs → Parts size R (l ++ [a]) (cs ++ c)
  | [], cs, h => by
    change cs = [] at h
    subst h
    exact ⟨c, [], by simp, hc, ha, rfl⟩
  | x :: l, cs, ⟨c1, d, e, h1, h2, h3⟩ => ⟨c1, d ++ c, by rw [e, List.append_assoc], h1, h2, Parts.snoc hc ha h3⟩
theorem Parts.imp {α : Type} {size : Nat} {R S : α → List Value → Prop} (h : ∀ a c, R a c → S a c) : ∀ {l : List α} {cs : List Value}, Parts size R l cs → Parts size S l cs
  | [], _, hp => hp
  | _ :: _, _, ⟨c, d, e, h1, h2, h3⟩ => ⟨c, d, e, h1, h _ _ h2, Parts.imp h h3⟩
theorem Parts.get {α : Type} {size : Nat} {R : α → List Value → Prop} : ∀ {l : List α} {cs : List Value} {k : Nat} {a : α}, Parts size R l cs → l[k]? = some a → R a ((cs.drop (k * size)).take size) ∧ ((cs.drop (k * size)).take size).length = size
  | [], _, _, _, _, h => by simp at h
  | x :: l, cs, 0, a, ⟨c, d, e, h1, h2, h3⟩, h => by
    simp only [List.getElem?_cons_zero, Option.some.injEq] at h
    subst h
    rw [e, Nat.zero_mul, List.drop_zero, List.take_left' h1]
    exact ⟨h2, h1⟩
  | x :: l, cs, k + 1, a, ⟨c, d, e, h1, h2, h3⟩, h => by
    rw [List.getElem?_cons_succ] at h
    have := Parts.get h3 h
    rw [e, Nat.succ_mul, Nat.add_comm, ← List.drop_drop, List.drop_left' h1]
    exact this
/-- A slice of such parts. -/
def RowsP {α : Type} (w : World) (P : Nat → Prop) (size : Nat) (R : α → List Value → Prop) (v : Value) (n : Nat) (l : List α) : Prop := n = l.length ∧ n ≤ 100000 ∧ BlkP P v ∧ ∃ cs, Cells w v size n cs ∧ Parts size R l cs
theorem RowsP.nil {α : Type} (w : World) (P : Nat → Prop) (size : Nat) (R : α → List Value → Prop) : RowsP w P size R (.slice none 0 0) 0 [] :=
  ⟨rfl, Nat.zero_le _, BlkP.nil _ _ _, [], ⟨none, 0, rfl, by simp, Nat.le_refl _, fun _ => ⟨rfl, rfl⟩, fun a h => by cases h⟩, rfl⟩
theorem RowsP.shape {α : Type} {w : World} {P : Nat → Prop} {size : Nat} {R : α → List Value → Prop} {v : Value} {n : Nat} {l : List α} (h : RowsP w P size R v n l) : ∃ ao c, v = .slice ao n c := by
  obtain ⟨_, _, _, _, ⟨ao, c, rfl, _⟩, _⟩ := h
  exact ⟨ao, c, rfl⟩
theorem RowsP.chg {α : Type} {w w' : World} {P Q : Nat → Prop} {size : Nat} {R S : α → List Value → Prop} {v : Value} {n : Nat} {l : List α} {F : List Nat} (h : RowsP w P size R v n l) (hc : Chg F w w') (hP : ∀ k, P k → k ∉ F) (hQ : ∀ k, P k → Q k) (hR : ∀ a c, R a c → S a c) : RowsP w' Q size S v n l := by
  obtain ⟨h1, h2, h3, cs, h4, h5⟩ := h
  exact ⟨h1, h2, h3.mono hQ, cs, h4.chg h3 hc hP, h5.imp hR⟩

/-- Nodes that are read. -/
def NdV (o : Nd) (c : List Value) : Prop := c = nv o
def NodesP (w : World) (P : Nat → Prop) (v : Value) (n : Nat) (l : List Nd) : Prop := RowsP w P 7 NdV v n l
theorem nodes_parts : ∀ l : List Nd, Parts 7 NdV l (nvs l)
  | [] => rfl
  | o :: l => ⟨nv o, nvs l, by simp [nvs], rfl, rfl, nodes_parts l⟩
/-- A list of arguments: one cell, a slice of nodes. -/
def ArgV (w : World) (P : Nat → Prop) (l : List Nd) (c : List Value) : Prop := ∃ v n, c = [v] ∧ NodesP w P v n l
def ArgsP (w : World) (P : Nat → Prop) (v : Value) (n : Nat) (l : List (List Nd)) : Prop := RowsP w P 1 (ArgV w P) v n l
theorem NodesP.chg {w w' : World} {P Q : Nat → Prop} {v : Value} {n : Nat} {l : List Nd} {F : List Nat} (h : NodesP w P v n l) (hc : Chg F w w') (hP : ∀ k, P k → k ∉ F) (hQ : ∀ k, P k → Q k) : NodesP w' Q v n l := RowsP.chg h hc hP hQ fun _ _ h => h
theorem ArgsP.chg {w w' : World} {P Q : Nat → Prop} {v : Value} {n : Nat} {l : List (List Nd)} {F : List Nat} (h : ArgsP w P v n l) (hc : Chg F w w') (hP : ∀ k, P k → k ∉ F) (hQ : ∀ k, P k → Q k) : ArgsP w' Q v n l :=
  RowsP.chg h hc hP hQ fun _ _ ⟨v, n, e, h⟩ => ⟨v, n, e, h.chg hc hP hQ⟩

/-- A statement's cells. -/
def stmHead (h : SH) (vE vA vB vC : Value) : List Value := [.int .i64 h.kind, .int .i64 (h.pos : Int), .string (tx h.mod), .string (tx h.name), .string (tx h.label), .bool h.has, .string (tx h.toMod), .string (tx h.to), vE, vA, vB, vC]
mutual
def StmV (w : World) (P : Nat → Prop) : Stm → List Value → Prop
  | .mk h body els, cs => ∃ vE nE vA nA vB nB vC nC, cs = stmHead h vE vA vB vC ∧ NodesP w P vE nE h.e ∧ ArgsP w P vA nA h.args ∧
    (nB = body.length ∧ nB ≤ 100000 ∧ BlkP P vB ∧ ∃ cb, Cells w vB 12 nB cb ∧ StmsV w P body cb) ∧ (nC = els.length ∧ nC ≤ 100000 ∧ BlkP P vC ∧ ∃ cc, Cells w vC 12 nC cc ∧ StmsV w P els cc)
def StmsV (w : World) (P : Nat → Prop) : List Stm → List Value → Prop
  | [], cs => cs = []
  | s :: r, cs => ∃ c d, cs = c ++ d ∧ c.length = 12 ∧ StmV w P s c ∧ StmsV w P r d
end
theorem stms_parts {w : World} {P : Nat → Prop} : ∀ (l : List Stm) (cs : List Value), StmsV w P l cs ↔ Parts 12 (StmV w P) l cs
  | [], cs => by unfold StmsV; exact Iff.rfl
  | s :: r, cs => by
    unfold StmsV
    constructor
    · rintro ⟨c, d, e, h1, h2, h3⟩
      exact ⟨c, d, e, h1, h2, (stms_parts r d).1 h3⟩
    · rintro ⟨c, d, e, h1, h2, h3⟩
      exact ⟨c, d, e, h1, h2, (stms_parts r d).2 h3⟩
def StmsP (w : World) (P : Nat → Prop) (v : Value) (n : Nat) (l : List Stm) : Prop := RowsP w P 12 (StmV w P) v n l
theorem StmV.iff {w : World} {P : Nat → Prop} {h : SH} {body els : List Stm} {cs : List Value} :
    StmV w P (.mk h body els) cs ↔ ∃ vE nE vA nA vB nB vC nC, cs = stmHead h vE vA vB vC ∧ NodesP w P vE nE h.e ∧ ArgsP w P vA nA h.args ∧ StmsP w P vB nB body ∧ StmsP w P vC nC els := by
  unfold StmV StmsP RowsP
  constructor
  · rintro ⟨vE, nE, vA, nA, vB, nB, vC, nC, e, h1, h2, ⟨b1, b2, b3, cb, b4, b5⟩, ⟨c1, c2, c3, cc, c4, c5⟩⟩
    exact ⟨vE, nE, vA, nA, vB, nB, vC, nC, e, h1, h2, ⟨b1, b2, b3, cb, b4, (stms_parts _ _).1 b5⟩, ⟨c1, c2, c3, cc, c4, (stms_parts _ _).1 c5⟩⟩
  · rintro ⟨vE, nE, vA, nA, vB, nB, vC, nC, e, h1, h2, ⟨b1, b2, b3, cb, b4, b5⟩, ⟨c1, c2, c3, cc, c4, c5⟩⟩
    exact ⟨vE, nE, vA, nA, vB, nB, vC, nC, e, h1, h2, ⟨b1, b2, b3, cb, b4, (stms_parts _ _).2 b5⟩, ⟨c1, c2, c3, cc, c4, (stms_parts _ _).2 c5⟩⟩
mutual
theorem StmV.chg {w w' : World} {P Q : Nat → Prop} {F : List Nat} (hc : Chg F w w') (hP : ∀ k, P k → k ∉ F) (hQ : ∀ k, P k → Q k) : ∀ (s : Stm) (cs : List Value), StmV w P s cs → StmV w' Q s cs
  | .mk h body els, cs, hs => by
    unfold StmV at hs ⊢
    obtain ⟨vE, nE, vA, nA, vB, nB, vC, nC, e, h1, h2, ⟨b1, b2, b3, cb, b4, b5⟩, ⟨c1, c2, c3, cc, c4, c5⟩⟩ := hs
    exact ⟨vE, nE, vA, nA, vB, nB, vC, nC, e, h1.chg hc hP hQ, h2.chg hc hP hQ, ⟨b1, b2, b3.mono hQ, cb, b4.chg b3 hc hP, StmsV.chg hc hP hQ body cb b5⟩, ⟨c1, c2, c3.mono hQ, cc, c4.chg c3 hc hP, StmsV.chg hc hP hQ els cc c5⟩⟩
theorem StmsV.chg {w w' : World} {P Q : Nat → Prop} {F : List Nat} (hc : Chg F w w') (hP : ∀ k, P k → k ∉ F) (hQ : ∀ k, P k → Q k) : ∀ (l : List Stm) (cs : List Value), StmsV w P l cs → StmsV w' Q l cs
  | [], cs, hs => by
    unfold StmsV at hs ⊢
    exact hs
  | s :: r, cs, hs => by
    unfold StmsV at hs ⊢
    obtain ⟨c, d, e, h1, h2, h3⟩ := hs
    exact ⟨c, d, e, h1, StmV.chg hc hP hQ s c h2, StmsV.chg hc hP hQ r d h3⟩
end
theorem StmsP.chg {w w' : World} {P Q : Nat → Prop} {v : Value} {n : Nat} {l : List Stm} {F : List Nat} (h : StmsP w P v n l) (hc : Chg F w w') (hP : ∀ k, P k → k ∉ F) (hQ : ∀ k, P k → Q k) : StmsP w' Q v n l :=
  RowsP.chg h hc hP hQ fun s c hs => StmV.chg hc hP hQ s c hs
theorem StmV.length {w : World} {P : Nat → Prop} {s : Stm} {cs : List Value} (h : StmV w P s cs) : cs.length = 12 := by
  obtain ⟨h0, body, els⟩ := s
  rw [StmV.iff] at h
  obtain ⟨_, _, _, _, _, _, _, _, rfl, _⟩ := h
  rfl

end Go.Proofs.YtlgfijjkbomejaaDoor
