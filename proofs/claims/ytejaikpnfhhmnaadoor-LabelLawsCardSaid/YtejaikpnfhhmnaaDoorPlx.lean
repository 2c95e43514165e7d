/- Tokens as the lexer leaves them: how they are, how many, in what order. Plain facts. Numbers and types by name. -/
import Derived.Test.YtejaikpnfhhmnaaDoorPax
import Derived.Test.YtejaikpnfhhmnaaDoorPan
import Derived.Test.YtejaikpnfhhmnaaDoorLxg
/- Lists of nodes; the reference's two and num. Numbers and types by name. -/
namespace Go.Proofs.YtejaikpnfhhmnaaDoor
open Go.RowKit Go.Lib
set_option maxRecDepth 100000

def nv (o : Nd) : List Value := [.int .i64 o.kind, .int .i64 o.num, .string (tx o.mod), .string (tx o.name), .int .i64 o.a, .int .i64 o.b, .int .i64 (o.pos : Int)]
def nvs (L : List Nd) : List Value := L.flatMap nv
theorem nvs_length (L : List Nd) : (nvs L).length = L.length * 7 := by
  induction L with
  | nil => rfl
  | cons o L ih => simp only [nvs, List.flatMap_cons, List.length_append, List.length_cons] at *; rw [ih]; simp [nv]; omega
theorem nvs_snoc (L : List Nd) (o : Nd) : nvs (L ++ [o]) = nvs L ++ nv o := by simp [nvs]
theorem nvs_at {L : List Nd} {k : Nat} {o : Nd} (h : L[k]? = some o) (j : Nat) (hj : j < 7) : (nvs L)[k * 7 + j]? = (nv o)[j]? := by
  induction L generalizing k with
  | nil => cases h
  | cons p L ih =>
    have e : nvs (p :: L) = nv p ++ nvs L := by simp [nvs]
    cases k with
    | zero =>
      simp only [List.getElem?_cons_zero, Option.some.injEq] at h
      subst h
      rw [e, Nat.zero_mul, Nat.zero_add, List.getElem?_append_left (by simp [nv]; omega)]
    | succ k =>
      rw [List.getElem?_cons_succ] at h
      rw [e, List.getElem?_append_right (by simp [nv]; omega), ← ih h]
      congr 1
      simp [nv]; omega
theorem nv_one (o : Nd) : ∀ u ∈ nv o, u.oneCell' = true := by
  intro u hu
  simp only [nv, List.mem_cons, List.not_mem_nil, or_false] at hu
  rcases hu with rfl | rfl | rfl | rfl | rfl | rfl | rfl <;> rfl
/-- A list of nodes can be read. -/
def Ndr (w : World) (v : Value) (n : Nat) (L : List Nd) : Prop := n = L.length ∧ n ≤ 100000 ∧ Cells w v 7 n (nvs L)
theorem Ndr.shape {w : World} {v : Value} {n : Nat} {L : List Nd} (h : Ndr w v n L) : ∃ ao c, v = .slice ao n c := by
  obtain ⟨_, _, ao, c, rfl, _⟩ := h
  exact ⟨ao, c, rfl⟩
theorem Ndr.later {w w' : World} {v : Value} {n : Nat} {L : List Nd} (h : Ndr w v n L) (hg : Grow w w') : Ndr w' v n L := ⟨h.1, h.2.1, h.2.2.later hg⟩
theorem Ndr.nil (w : World) : Ndr w (.slice none 0 0) 0 [] := ⟨rfl, Nat.zero_le _, none, 0, rfl, rfl, Nat.le_refl _, fun _ => ⟨rfl, rfl⟩, fun a h => by cases h⟩
/-- The block of a row, if it has one. -/
def rowF (v : Value) : List Nat := v.ownBlock.toList
theorem rowF_mem {v : Value} {k : Nat} : k ∈ rowF v ↔ v.ownBlock = some k := by
  unfold rowF
  cases v.ownBlock <;> simp [eq_comm]
/-- A row that came out of another: in its block, or in a new one. -/
def FromRow (w : World) (v v' : Value) : Prop := v'.ownBlock = v.ownBlock ∨ ∀ k, v'.ownBlock = some k → w.heap.size ≤ k
theorem FromRow.refl (w : World) (v : Value) : FromRow w v v := .inl rfl
theorem FromRow.mem {w : World} {v v' : Value} (h : FromRow w v v') {F : List Nat} {x : Nat} (hx : x ∈ rowF v') (hF : ∀ y ∈ rowF v, y ∈ F) : x ∈ F ∨ w.heap.size ≤ x := by
  rw [rowF_mem] at hx
  rcases h with h | h
  · exact .inl (hF x (rowF_mem.2 (by rw [← h]; exact hx)))
  · exact .inr (h x hx)
theorem FromRow.trans {w w1 : World} {v v1 v2 : Value} (h : FromRow w v v1) (h2 : FromRow w1 v1 v2) (hs : w.heap.size ≤ w1.heap.size) : FromRow w v v2 := by
  rcases h2 with e | e
  · rcases h with h | h
    · exact .inl (e.trans h)
    · exact .inr fun k hk => h k (by rw [← e]; exact hk)
  · exact .inr fun k hk => Nat.le_trans hs (e k hk)

end Go.Proofs.YtejaikpnfhhmnaaDoor

/- Trees of modules in memory: what can be read of them, in blocks of a kind. Numbers and types by name. -/
namespace Go.Proofs.YtejaikpnfhhmnaaDoor
open Go.RowKit Go.Lib
set_option maxRecDepth 100000

/-- A slice's block is of a kind. -/
def BlkP (P : Nat → Prop) (v : Value) : Prop := ∀ a n c, v = .slice (some a) n c → P a.block
theorem BlkP.nil (P : Nat → Prop) (n c : Nat) : BlkP P (.slice none n c) := fun a _ _ h => by cases h
theorem BlkP.mono {P Q : Nat → Prop} {v : Value} (h : BlkP P v) (hq : ∀ k, P k → Q k) : BlkP Q v := fun a n c e => hq _ (h a n c e)
theorem Cells.chg {w w' : World} {v : Value} {size n : Nat} {xs : List Value} {F : List Nat} {P : Nat → Prop} (h : Cells w v size n xs) (hb : BlkP P v) (hc : Chg F w w') (hP : ∀ k, P k → k ∉ F) : Cells w' v size n xs := by
  obtain ⟨ao, cap, rfl, h0, h1, h2, h3⟩ := h
  refine ⟨ao, cap, rfl, h0, h1, h2, fun a ha j u hj => ?_⟩
  have e : (a.add j).block = a.block := by unfold Addr.add; split <;> rfl
  exact hc.cell (h3 a ha j u hj) (by rw [e]; exact hP _ (hb a _ _ (by rw [ha])))

/-- Cells in parts of one size, each read as something. -/
def Parts {α : Type} (size : Nat) (R : α → List Value → Prop) : List α → List Value → Prop
  | [], cs => cs = []
  | a :: l, cs => ∃ c d, cs = c ++ d ∧ c.length = size ∧ R a c ∧ Parts size R l d
theorem Parts.length {α : Type} {size : Nat} {R : α → List Value → Prop} : ∀ {l : List α} {cs : List Value}, Parts size R l cs → cs.length = l.length * size
  | [], cs, h => by
    change cs = [] at h
    simp [h]
  | a :: l, cs, ⟨c, d, e, h1, _, h2⟩ => by
    rw [e, List.length_append, h1, Parts.length h2, List.length_cons, Nat.succ_mul, Nat.add_comm]
theorem Parts.snoc {α : Type} {size : Nat} {R : α → List Value → Prop} {a : α} {c : List Value} (hc : c.length = size) (ha : R a c) : ∀ {l : List α} {cs : List Value}, Parts size R l cs → Parts size R (l ++ [a]) (cs ++ c)
  | [], cs, h => by
    change cs = [] at h
    subst h
    exact ⟨c, [], by simp, hc, ha, rfl⟩
  | x :: l, cs, ⟨c1, d, e, h1, h2, h3⟩ => ⟨c1, d ++ c, by rw [e, List.append_assoc], h1, h2, Parts.snoc hc ha h3⟩
theorem Parts.imp {α : Type} {size : Nat} {R S : α → List Value → Prop} (h : ∀ a c, R a c → S a c) : ∀ {l : List α} {cs : List Value}, Parts size R l cs → Parts size S l cs
  | [], _, hp => hp
  | _ :: _, _, ⟨c, d, e, h1, h2, h3⟩ => ⟨c, d, e, h1, h _ _ h2, Parts.imp h h3⟩
theorem Parts.get {α : Type} {size : Nat} {R : α → List Value → Prop} : ∀ {l : List α} {cs : List Value} {k : Nat} {a : α}, Parts size R l cs → l[k]? = some a → R a ((cs.drop (k * size)).take size) ∧ ((cs.drop (k * size)).take size).length = size
  | [], _, _, _, _, h => by simp at h
  | x :: l, cs, 0, a, ⟨c, d, e, h1, h2, h3⟩, h => by
    simp only [List.getElem?_cons_zero, Option.some.injEq] at h
    subst h
    rw [e, Nat.zero_mul, List.drop_zero, List.take_left' h1]
    exact ⟨h2, h1⟩
  | x :: l, cs, k + 1, a, ⟨c, d, e, h1, h2, h3⟩, h => by
    rw [List.getElem?_cons_succ] at h
    have := Parts.get h3 h
    rw [e, Nat.succ_mul, Nat.add_comm, ← List.drop_drop, List.drop_left' h1]
    exact this
/-- A slice of such parts. -/
def RowsP {α : Type} (w : World) (P : Nat → Prop) (size : Nat) (R : α → List Value → Prop) (v : Value) (n : Nat) (l : List α) : Prop := n = l.length ∧ n ≤ 100000 ∧ BlkP P v ∧ ∃ cs, Cells w v size n cs ∧ Parts size R l cs
theorem RowsP.nil {α : Type} (w : World) (P : Nat → Prop) (size : Nat) (R : α → List Value → Prop) : RowsP w P size R (.slice none 0 0) 0 [] :=
  ⟨rfl, Nat.zero_le _, BlkP.nil _ _ _, [], ⟨none, 0, rfl, by simp, Nat.le_refl _, fun _ => ⟨rfl, rfl⟩, fun a h => by cases h⟩, rfl⟩
theorem RowsP.shape {α : Type} {w : World} {P : Nat → Prop} {size : Nat} {R : α → List Value → Prop} {v : Value} {n : Nat} {l : List α} (h : RowsP w P size R v n l) : ∃ ao c, v = .slice ao n c := by
  obtain ⟨_, _, _, _, ⟨ao, c, rfl, _⟩, _⟩ := h
  exact ⟨ao, c, rfl⟩
theorem RowsP.chg {α : Type} {w w' : World} {P Q : Nat → Prop} {size : Nat} {R S : α → List Value → Prop} {v : Value} {n : Nat} {l : List α} {F : List Nat} (h : RowsP w P size R v n l) (hc : Chg F w w') (hP : ∀ k, P k → k ∉ F) (hQ : ∀ k, P k → Q k) (hR : ∀ a c, R a c → S a c) : RowsP w' Q size S v n l := by
  obtain ⟨h1, h2, h3, cs, h4, h5⟩ := h
  exact ⟨h1, h2, h3.mono hQ, cs, h4.chg h3 hc hP, h5.imp hR⟩

/-- Nodes that are read. -/
def NdV (o : Nd) (c : List Value) : Prop := c = nv o
def NodesP (w : World) (P : Nat → Prop) (v : Value) (n : Nat) (l : List Nd) : Prop := RowsP w P 7 NdV v n l
theorem nodes_parts : ∀ l : List Nd, Parts 7 NdV l (nvs l)
  | [] => rfl
  | o :: l => ⟨nv o, nvs l, by simp [nvs], rfl, rfl, nodes_parts l⟩
/-- A list of arguments: one cell, a slice of nodes. -/
def ArgV (w : World) (P : Nat → Prop) (l : List Nd) (c : List Value) : Prop := ∃ v n, c = [v] ∧ NodesP w P v n l
def ArgsP (w : World) (P : Nat → Prop) (v : Value) (n : Nat) (l : List (List Nd)) : Prop := RowsP w P 1 (ArgV w P) v n l
theorem NodesP.chg {w w' : World} {P Q : Nat → Prop} {v : Value} {n : Nat} {l : List Nd} {F : List Nat} (h : NodesP w P v n l) (hc : Chg F w w') (hP : ∀ k, P k → k ∉ F) (hQ : ∀ k, P k → Q k) : NodesP w' Q v n l := RowsP.chg h hc hP hQ fun _ _ h => h
theorem ArgsP.chg {w w' : World} {P Q : Nat → Prop} {v : Value} {n : Nat} {l : List (List Nd)} {F : List Nat} (h : ArgsP w P v n l) (hc : Chg F w w') (hP : ∀ k, P k → k ∉ F) (hQ : ∀ k, P k → Q k) : ArgsP w' Q v n l :=
  RowsP.chg h hc hP hQ fun _ _ ⟨v, n, e, h⟩ => ⟨v, n, e, h.chg hc hP hQ⟩

/-- A statement's cells. -/
def stmHead (h : SH) (vE vA vB vC : Value) : List Value := [.int .i64 h.kind, .int .i64 (h.pos : Int), .string (tx h.mod), .string (tx h.name), .string (tx h.label), .bool h.has, .string (tx h.toMod), .string (tx h.to), vE, vA, vB, vC]
mutual
def StmV (w : World) (P : Nat → Prop) : Stm → List Value → Prop
  | .mk h body els, cs => ∃ vE nE vA nA vB nB vC nC, cs = stmHead h vE vA vB vC ∧ NodesP w P vE nE h.e ∧ ArgsP w P vA nA h.args ∧
    (nB = body.length ∧ nB ≤ 100000 ∧ BlkP P vB ∧ ∃ cb, Cells w vB 12 nB cb ∧ StmsV w P body cb) ∧ (nC = els.length ∧ nC ≤ 100000 ∧ BlkP P vC ∧ ∃ cc, Cells w vC 12 nC cc ∧ StmsV w P els cc)
def StmsV (w : World) (P : Nat → Prop) : List Stm → List Value → Prop
  | [], cs => cs = []
  | s :: r, cs => ∃ c d, cs = c ++ d ∧ c.length = 12 ∧ StmV w P s c ∧ StmsV w P r d
end
theorem stms_parts {w : World} {P : Nat → Prop} : ∀ (l : List Stm) (cs : List Value), StmsV w P l cs ↔ Parts 12 (StmV w P) l cs
  | [], cs => by unfold StmsV; exact Iff.rfl
  | s :: r, cs => by
    unfold StmsV
    constructor
    · rintro ⟨c, d, e, h1, h2, h3⟩
      exact ⟨c, d, e, h1, h2, (stms_parts r d).1 h3⟩
    · rintro ⟨c, d, e, h1, h2, h3⟩
      exact ⟨c, d, e, h1, h2, (stms_parts r d).2 h3⟩
def StmsP (w : World) (P : Nat → Prop) (v : Value) (n : Nat) (l : List Stm) : Prop := RowsP w P 12 (StmV w P) v n l
theorem StmV.iff {w : World} {P : Nat → Prop} {h : SH} {body els : List Stm} {cs : List Value} :
    StmV w P (.mk h body els) cs ↔ ∃ vE nE vA nA vB nB vC nC, cs = stmHead h vE vA vB vC ∧ NodesP w P vE nE h.e ∧ ArgsP w P vA nA h.args ∧ StmsP w P vB nB body ∧ StmsP w P vC nC els := by
  unfold StmV StmsP RowsP
  constructor
  · rintro ⟨vE, nE, vA, nA, vB, nB, vC, nC, e, h1, h2, ⟨b1, b2, b3, cb, b4, b5⟩, ⟨c1, c2, c3, cc, c4, c5⟩⟩
    exact ⟨vE, nE, vA, nA, vB, nB, vC, nC, e, h1, h2, ⟨b1, b2, b3, cb, b4, (stms_parts _ _).1 b5⟩, ⟨c1, c2, c3, cc, c4, (stms_parts _ _).1 c5⟩⟩
  · rintro ⟨vE, nE, vA, nA, vB, nB, vC, nC, e, h1, h2, ⟨b1, b2, b3, cb, b4, b5⟩, ⟨c1, c2, c3, cc, c4, c5⟩⟩
    exact ⟨vE, nE, vA, nA, vB, nB, vC, nC, e, h1, h2, ⟨b1, b2, b3, cb, b4, (stms_parts _ _).2 b5⟩, ⟨c1, c2, c3, cc, c4, (stms_parts _ _).2 c5⟩⟩
mutual
theorem StmV.chg {w w' : World} {P Q : Nat → Prop} {F : List Nat} (hc : Chg F w w') (hP : ∀ k, P k → k ∉ F) (hQ : ∀ k, P k → Q k) : ∀ (s : Stm) (cs : List Value), StmV w P s cs → StmV w' Q s cs
  | .mk h body els, cs, hs => by
    unfold StmV at hs ⊢
    obtain ⟨vE, nE, vA, nA, vB, nB, vC, nC, e, h1, h2, ⟨b1, b2, b3, cb, b4, b5⟩, ⟨c1, c2, c3, cc, c4, c5⟩⟩ := hs
    exact ⟨vE, nE, vA, nA, vB, nB, vC, nC, e, h1.chg hc hP hQ, h2.chg hc hP hQ, ⟨b1, b2, b3.mono hQ, cb, b4.chg b3 hc hP, StmsV.chg hc hP hQ body cb b5⟩, ⟨c1, c2, c3.mono hQ, cc, c4.chg c3 hc hP, StmsV.chg hc hP hQ els cc c5⟩⟩
theorem StmsV.chg {w w' : World} {P Q : Nat → Prop} {F : List Nat} (hc : Chg F w w') (hP : ∀ k, P k → k ∉ F) (hQ : ∀ k, P k → Q k) : ∀ (l : List Stm) (cs : List Value), StmsV w P l cs → StmsV w' Q l cs
  | [], cs, hs => by
    unfold StmsV at hs ⊢
    exact hs
  | s :: r, cs, hs => by
    unfold StmsV at hs ⊢
    obtain ⟨c, d, e, h1, h2, h3⟩ := hs
    exact ⟨c, d, e, h1, StmV.chg hc hP hQ s c h2, StmsV.chg hc hP hQ r d h3⟩
end
theorem StmsP.chg {w w' : World} {P Q : Nat → Prop} {v : Value} {n : Nat} {l : List Stm} {F : List Nat} (h : StmsP w P v n l) (hc : Chg F w w') (hP : ∀ k, P k → k ∉ F) (hQ : ∀ k, P k → Q k) : StmsP w' Q v n l :=
  RowsP.chg h hc hP hQ fun s c hs => StmV.chg hc hP hQ s c hs
theorem StmV.length {w : World} {P : Nat → Prop} {s : Stm} {cs : List Value} (h : StmV w P s cs) : cs.length = 12 := by
  obtain ⟨h0, body, els⟩ := s
  rw [StmV.iff] at h
  obtain ⟨_, _, _, _, _, _, _, _, rfl, _⟩ := h
  rfl

end Go.Proofs.YtejaikpnfhhmnaaDoor

namespace Go.Proofs.YtejaikpnfhhmnaaDoor
open Go.RowKit Go.Lib

def signsL : List (List UInt8) := [[40], [41], [123], [125], [44], [59], [58], [46], [61], [60], [43], [45], [42], [47], [37], [33], [61, 61], [60, 61], [45, 62]]
def wordsL : List (List UInt8) := keysL ++ signsL
/-- A token that is no end, as the lexer leaves it. -/
structure TokOk (t : Tk) : Prop where
  k : t.kind = 1 ∨ t.kind = 2 ∨ t.kind = 3 ∨ t.kind = 4
  num : t.kind = 2 → t.text ≠ [] ∧ t.text.length ≤ 9 ∧ ∀ c ∈ t.text, isDig c = true
  word : t.text ∈ wordsL → t.kind = 3 ∨ t.kind = 4
  some : t.text ≠ []
theorem words_let : ∀ x ∈ signsL, ∃ d t, x = d :: t ∧ isLet d = false ∧ isDig d = false := by
  intro x hx
  simp only [signsL, List.mem_cons, List.not_mem_nil, or_false] at hx
  rcases hx with rfl | rfl | rfl | rfl | rfl | rfl | rfl | rfl | rfl | rfl | rfl | rfl | rfl | rfl | rfl | rfl | rfl | rfl | rfl <;> exact ⟨_, _, rfl, by decide, by decide⟩
theorem words_dig : ∀ x ∈ wordsL, ∃ d t, x = d :: t ∧ isDig d = false := by
  intro x hx
  rcases List.mem_append.1 hx with h | h
  · simp only [keysL, List.mem_cons, List.not_mem_nil, or_false] at h
    rcases h with rfl | rfl | rfl | rfl | rfl | rfl | rfl | rfl | rfl | rfl | rfl | rfl | rfl | rfl | rfl <;> exact ⟨_, _, rfl, by decide⟩
  · obtain ⟨d, t, e, _, h⟩ := words_let x h
    exact ⟨d, t, e, h⟩
theorem stepL_tok {c : UInt8} {r : List UInt8} {k : Int} {n : Nat} (h : stepL (c :: r) = .tok k n) (i : Nat) : TokOk ⟨k, (c :: r).take n, i⟩ := by
  have hn := (stepL_n (c := c) (r := r)).2 k n h
  have hne : (c :: r).take n ≠ [] := by
    obtain ⟨m, rfl⟩ : ∃ m, n = m + 1 := ⟨n - 1, by omega⟩
    simp
  change stepC c r = .tok k n at h
  unfold stepC at h
  split at h
  · cases h
  split at h
  · cases h
  split at h
  · rename_i hl
    split at h
    · cases h
    · simp only [LStep.tok.injEq] at h
      obtain ⟨hk, rfl⟩ := h
      split at hk
      · subst hk
        exact ⟨.inr (.inr (.inl rfl)), fun h => absurd h (show ¬ (3 : Int) = 2 by decide), fun _ => .inl rfl, hne⟩
      · rename_i hc
        subst hk
        refine ⟨.inl rfl, fun h => absurd h (show ¬ (1 : Int) = 2 by decide), fun hw => ?_, hne⟩
        exfalso
        rcases List.mem_append.1 hw with hw | hw
        · exact hc (by rw [List.contains_iff_mem]; exact hw)
        · obtain ⟨d, t, e, h1, _⟩ := words_let _ hw
          rw [Nat.add_comm, List.take_succ_cons] at e
          cases e
          rw [hl] at h1
          cases h1
  split at h
  · rename_i hd
    split at h
    · cases h
    split at h
    · cases h
    · rename_i h9 _
      simp only [LStep.tok.injEq] at h
      obtain ⟨rfl, rfl⟩ := h
      refine ⟨.inr (.inl rfl), fun _ => ⟨hne, ?_, ?_⟩, fun hw => ?_, hne⟩
      · rw [List.length_take]
        omega
      · intro x hx
        rw [Nat.add_comm, List.take_succ_cons] at hx
        rcases List.mem_cons.1 hx with rfl | hx
        · exact hd
        · exact (runL_take isDig r).1 x hx
      · exfalso
        obtain ⟨d, t, e, h1⟩ := words_dig _ hw
        rw [Nat.add_comm, List.take_succ_cons] at e
        cases e
        rw [hd] at h1
        cases h1
  split at h
  · cases h
  · simp only [LStep.tok.injEq] at h
    obtain ⟨rfl, rfl⟩ := h
    exact ⟨.inr (.inr (.inr rfl)), fun h => absurd h (show ¬ (4 : Int) = 2 by decide), fun _ => .inr rfl, hne⟩

/-- What the tokens of a text are. -/
structure LexL (i n : Nat) (L : List Tk) : Prop where
  shape : ∃ M j, L = M ++ [⟨0, [], j⟩] ∧ M.length ≤ n ∧ j = i + n ∧ ∀ t ∈ M, TokOk t ∧ i ≤ t.pos ∧ t.pos < i + n
theorem LexL.skip {i n k : Nat} {L : List Tk} (h : LexL (i + k) (n - k) L) (hk : k ≤ n) : LexL i n L := by
  obtain ⟨M, j, e, h1, h2, h3⟩ := h.shape
  exact ⟨M, j, e, by omega, by omega, fun t ht => ⟨(h3 t ht).1, by have := (h3 t ht).2; omega, by have := (h3 t ht).2; omega⟩⟩
theorem lexA_LexL : ∀ (k i : Nat) (r : List UInt8), r.length ≤ k → (lexA i r).e = 0 → LexL i r.length (lexA i r).l
  | _, i, [], _, _ => by
    rw [lexA_nil]
    exact ⟨⟨[], i, rfl, Nat.zero_le _, by simp, fun t ht => by cases ht⟩⟩
  | 0, _, c :: r, h, _ => by simp at h
  | k + 1, i, c :: r, hk, he => by
    simp only [List.length_cons] at hk
    cases h : stepL (c :: r) with
    | skip n =>
      have hn := (stepL_n (c := c) (r := r)).1 n h
      rw [lexA_skip h] at he ⊢
      have := lexA_LexL k (i + n) ((c :: r).drop n) (by simp only [List.length_drop, List.length_cons]; omega) he
      rw [List.length_drop] at this
      exact this.skip (by simpa using hn.2)
    | bad e =>
      rw [lexA_bad h] at he
      exfalso
      rcases stepL_bad h with rfl | rfl <;> simp at he
    | tok x n =>
      have hn := (stepL_n (c := c) (r := r)).2 x n h
      rw [lexA_tok h] at he ⊢
      have he2 : (lexA (i + n) ((c :: r).drop n)).e = 0 := he
      have := lexA_LexL k (i + n) ((c :: r).drop n) (by simp only [List.length_drop, List.length_cons]; omega) he2
      obtain ⟨M, j, e, h1, h2, h3⟩ := this.shape
      rw [List.length_drop, List.length_cons] at h1 h2 h3
      refine ⟨⟨⟨x, (c :: r).take n, i⟩ :: M, j, ?_, by simp only [List.length_cons]; omega, by simp only [List.length_cons]; omega, fun t ht => ?_⟩⟩
      · unfold consL
        simp only
        rw [if_pos he2, e]
        rfl
      · rcases List.mem_cons.1 ht with rfl | ht
        · exact ⟨stepL_tok h i, Nat.le_refl _, by simp⟩
        · have := h3 t ht
          exact ⟨this.1, by omega, by simp only [List.length_cons]; omega⟩

/-- Words and signs are words and signs; numbers have digits. -/
structure TokX (L : List Tk) : Prop where
  word : ∀ t ∈ L, t.text ∈ wordsL → t.kind = 3 ∨ t.kind = 4
  num : ∀ t ∈ L, t.kind = 2 → t.text ≠ []
theorem LexL.tokL {i n : Nat} {L : List Tk} (h : LexL i n L) (hn : n ≤ 9000) : TokL L ∧ TokX L := by
  obtain ⟨M, j, rfl, h1, h2, h3⟩ := h.shape
  refine ⟨⟨by simp, fun k hk hx => ?_, fun t ht hx => ?_, by simp; omega⟩, ⟨fun t ht hx => ?_, fun t ht hx => ?_⟩⟩
  · simp only [List.length_append, List.length_singleton] at hk ⊢
    by_cases e : k = M.length
    · exfalso
      apply hx
      subst e
      simp
    · omega
  · rcases List.mem_append.1 ht with ht | ht
    · exact ((h3 t ht).1.num hx).2
    · rw [List.mem_singleton] at ht
      subst ht
      exact absurd hx (show ¬ (0 : Int) = 2 by decide)
  · rcases List.mem_append.1 ht with ht | ht
    · exact (h3 t ht).1.word hx
    · rw [List.mem_singleton] at ht
      subst ht
      exfalso
      obtain ⟨d, t, e, _⟩ := words_dig _ hx
      cases e
  · rcases List.mem_append.1 ht with ht | ht
    · exact ((h3 t ht).1.num hx).1
    · rw [List.mem_singleton] at ht
      subst ht
      exact absurd hx (show ¬ (0 : Int) = 2 by decide)
theorem lexP_tokL {b : List UInt8} (he : (lexP b).e = 0) : TokL (lexP b).l ∧ TokX (lexP b).l := by
  unfold lexP at he ⊢
  split
  · rename_i h
    rw [if_pos h] at he
    exact absurd he (by decide)
  · rename_i h
    rw [if_neg h] at he
    exact (lexA_LexL b.length 0 b (Nat.le_refl _) he).tokL (by omega)

/-- A word or a sign stands there where its text does. -/
theorem isT_text {L : List Tk} {s : PS} {t : List UInt8} (hX : TokX L) (hi : s.i < L.length) (he : s.e = 0) (ht : t ∈ wordsL) : isT L s t = decide ((curT L s).text = t) := by
  unfold isT
  rw [he]
  by_cases h : (curT L s).text = t
  · have hm : curT L s ∈ L := by
      unfold curT
      rw [List.getD_eq_getElem?_getD, List.getElem?_eq_getElem hi]
      exact List.getElem_mem hi
    have := hX.word _ hm (by rw [h]; exact ht)
    rcases this with k | k <;> rw [k, h] <;> simp
  · simp [h]

end Go.Proofs.YtejaikpnfhhmnaaDoor
