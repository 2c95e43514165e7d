/- The code's parser in memory; peek, take. Numbers and types by name. -/
import Derived.Test.YtlgfijjkbomejaaGreatDoorPay
import Derived.Test.YtlgfijjkbomejaaGreatDoorPaw
import Derived.Test.YtlgfijjkbomejaaGreatDoorBe4
/- Trees of modules in memory: what can be read of them, in blocks of a kind. Numbers and types by name. -/
namespace Go.Proofs.YtlgfijjkbomejaaGreatDoor
open Go.RowKit Go.Lib
set_option maxRecDepth 100000

/-- A slice's block is of a kind. -/
def BlkP (P : Nat → Prop) (v : Value) : Prop := ∀ a n c, v = .slice (some a) n c → P a.block
theorem BlkP.nil (P : Nat → Prop) (n c : Nat) : BlkP P (.slice none n c) := fun a _ _ h => by cases h
theorem BlkP.mono {P Q : Nat → Prop} {v : Value} (h : BlkP P v) (hq : ∀ k, P k → Q k) : BlkP Q v := fun a n c e => hq _ (h a n c e)
theorem Cells.chg {w w' : World} {v : Value} {size n : Nat} {xs : List Value} {F : List Nat} {P : Nat → Prop} (h : Cells w v size n xs) (hb : BlkP P v) (hc : Chg F w w') (hP : ∀ k, P k → k ∉ F) : Cells w' v size n xs := by
  obtain ⟨ao, cap, rfl, h0, h1, h2, h3⟩ := h
  refine ⟨ao, cap, rfl, h0, h1, h2, fun a ha j u hj => ?_⟩
  have e : (a.add j).block = a.block := by unfold Addr.add; split <;> rfl
  exact hc.cell (h3 a ha j u hj) (by rw [e]; exact hP _ (hb a _ _ (by rw [ha])))

/-- Cells in parts of one size, each read as something. -/
def Parts {α : Type} (size : Nat) (R : α → List Value → Prop) : List α → List Value → Prop
  | [], cs => cs = []
  | a :: l, cs => ∃ c d, cs = c ++ d ∧ c.length = size ∧ R a c ∧ Parts size R l d
theorem Parts.length {α : Type} {size : Nat} {R : α → List Value → Prop} : ∀ {l : List α} {cs : List Value}, Parts size R l cs → cs.length = l.length * size
  | [], cs, h => by
    change cs = [] at h
    simp [h]
  | a :: l, cs, ⟨c, d, e, h1, _, h2⟩ => by
    rw [e, List.length_append, h1, Parts.length h2, List.length_cons, Nat.succ_mul, Nat.add_comm]
theorem Parts.snoc {α : Type} {size : Nat} {R : α → List Value → Prop} {a : α} {c : List Value} (hc : c.length = size) (ha : R a c) : ∀ {l : List α} {cs : List Value}, Parts size R l cs → Parts size R (l ++ [a]) (cs ++ c)
  | [], cs, h => by
    change cs = [] at h
    subst h
    exact ⟨c, [], by simp, hc, ha, rfl⟩
  | x :: l, cs, ⟨c1, d, e, h1, h2, h3⟩ => ⟨c1, d ++ c, by rw [e, List.append_assoc], h1, h2, Parts.snoc hc ha h3⟩
theorem Parts.imp {α : Type} {size : Nat} {R S : α → List Value → Prop} (h : ∀ a c, R a c → S a c) : ∀ {l : List α} {cs : List Value}, Parts size R l cs → Parts size S l cs
  | [], _, hp => hp
  | _ :: _, _, ⟨c, d, e, h1, h2, h3⟩ => ⟨c, d, e, h1, h _ _ h2, Parts.imp h h3⟩
theorem Parts.get {α : Type} {size : Nat} {R : α → List Value → Prop} : ∀ {l : List α} {cs : List Value} {k : Nat} {a : α}, Parts size R l cs → l[k]? = some a → R a ((cs.drop (k * size)).take size) ∧ ((cs.drop (k * size)).take size).length = size
  | [], _, _, _, _, h => by simp at h
  | x :: l, cs, 0, a, ⟨c, d, e, h1, h2, h3⟩, h => by
    simp only [List.getElem?_cons_zero, Option.some.injEq] at h
    subst h
    rw [e, Nat.zero_mul, List.drop_zero, List.take_left' h1]
    exact ⟨h2, h1⟩
  | x :: l, cs, k + 1, a, ⟨c, d, e, h1, h2, h3⟩, h => by
    rw [List.getElem?_cons_succ] at h
    have := Parts.get h3 h
    rw [e, Nat.succ_mul, Nat.add_comm, ← List.drop_drop, List.drop_left' h1]
    exact this
/-- A slice of such parts. -/
def RowsP {α : Type} (w : World) (P : Nat → Prop) (size : Nat) (R : α → List Value → Prop) (v : Value) (n : Nat) (l : List α) : Prop := n = l.length ∧ n ≤ 100000 ∧ BlkP P v ∧ ∃ cs, Cells w v size n cs ∧ Parts size R l cs
theorem RowsP.nil {α : Type} (w : World) (P : Nat → Prop) (size : Nat) (R : α → List Value → Prop) : RowsP w P size R (.slice none 0 0) 0 [] :=
  ⟨rfl, Nat.zero_le _, BlkP.nil _ _ _, [], ⟨none, 0, rfl, by simp, Nat.le_refl _, fun _ => ⟨rfl, rfl⟩, fun a h => by cases h⟩, rfl⟩
theorem RowsP.shape {α : Type} {w : World} {P : Nat → Prop} {size : Nat} {R : α → List Value → Prop} {v : Value} {n : Nat} {l : List α} (h : RowsP w P size R v n l) : ∃ ao c, v = .slice ao n c := by
  obtain ⟨_, _, _, _, ⟨ao, c, rfl, _⟩, _⟩ := h
  exact ⟨ao, c, rfl⟩
theorem RowsP.chg {α : Type} {w w' : World} {P Q : Nat → Prop} {size : Nat} {R S : α → List Value → Prop} {v : Value} {n : Nat} {l : List α} {F : List Nat} (h : RowsP w P size R v n l) (hc : Chg F w w') (hP : ∀ k, P k → k ∉ F) (hQ : ∀ k, P k → Q k) (hR : ∀ a c, R a c → S a c) : RowsP w' Q size S v n l := by
  obtain ⟨h1, h2, h3, cs, h4, h5⟩ := h
  exact ⟨h1, h2, h3.mono hQ, cs, h4.chg h3 hc hP, h5.imp hR⟩

/-- Nodes that are read. -/
def NdV (o : Nd) (c : List Value) : Prop := c = nv o
def NodesP (w : World) (P : Nat → Prop) (v : Value) (n : Nat) (l : List Nd) : Prop := RowsP w P 7 NdV v n l
theorem nodes_parts : ∀ l : List Nd, Parts 7 NdV l (nvs l)
  | [] => rfl
  | o :: l => ⟨nv o, nvs l, by simp [nvs], rfl, rfl, nodes_parts l⟩
theorem OwnN.nodes {w : World} {base : Nat} {v : Value} {n : Nat} {l : List Nd} {P : Nat → Prop} (h : OwnN w base v n l) (hn : n ≤ 100000) (hP : ∀ k, v.ownBlock = some k → P k) : NodesP w P v n l :=
  ⟨h.1, hn, fun a m c e => by
    rcases h.2.2 with ⟨rfl, rfl⟩ | ⟨g, cap, cur, rfl, _⟩
    · cases e
    · simp only [Value.slice.injEq, Option.some.injEq] at e
      obtain ⟨rfl, _⟩ := e
      exact hP g rfl, nvs l, Cells.own h.2 (by decide), nodes_parts l⟩
/-- A list of arguments: one cell, a slice of nodes. -/
def ArgV (w : World) (P : Nat → Prop) (l : List Nd) (c : List Value) : Prop := ∃ v n, c = [v] ∧ NodesP w P v n l
def ArgsP (w : World) (P : Nat → Prop) (v : Value) (n : Nat) (l : List (List Nd)) : Prop := RowsP w P 1 (ArgV w P) v n l
theorem NodesP.chg {w w' : World} {P Q : Nat → Prop} {v : Value} {n : Nat} {l : List Nd} {F : List Nat} (h : NodesP w P v n l) (hc : Chg F w w') (hP : ∀ k, P k → k ∉ F) (hQ : ∀ k, P k → Q k) : NodesP w' Q v n l := RowsP.chg h hc hP hQ fun _ _ h => h
theorem ArgsP.chg {w w' : World} {P Q : Nat → Prop} {v : Value} {n : Nat} {l : List (List Nd)} {F : List Nat} (h : ArgsP w P v n l) (hc : Chg F w w') (hP : ∀ k, P k → k ∉ F) (hQ : ∀ k, P k → Q k) : ArgsP w' Q v n l :=
  RowsP.chg h hc hP hQ fun _ _ ⟨v, n, e, h⟩ => ⟨v, n, e, h.chg hc hP hQ⟩

/-- A statement's cells. -/
def stmHead (h : SH) (vE vA vB vC : Value) : List Value := [.int .i64 h.kind, .int .i64 (h.pos : Int), .string (tx h.mod), .string (tx h.name), .string (tx h.label), .bool h.has, .string (tx h.toMod), .string (tx h.to), vE, vA, vB, vC]
mutual
def StmV (w : World) (P : Nat → Prop) : Stm → List Value → Prop
  | .mk h body els, cs => ∃ vE nE vA nA vB nB vC nC, cs = stmHead h vE vA vB vC ∧ NodesP w P vE nE h.e ∧ ArgsP w P vA nA h.args ∧
    (nB = body.length ∧ nB ≤ 100000 ∧ BlkP P vB ∧ ∃ cb, Cells w vB 12 nB cb ∧ StmsV w P body cb) ∧ (nC = els.length ∧ nC ≤ 100000 ∧ BlkP P vC ∧ ∃ cc, Cells w vC 12 nC cc ∧ StmsV w P els cc)
def StmsV (w : World) (P : Nat → Prop) : List Stm → List Value → Prop
  | [], cs => cs = []
  | s :: r, cs => ∃ c d, cs = c ++ d ∧ c.length = 12 ∧ StmV w P s c ∧ StmsV w P r d
end
theorem stms_parts {w : World} {P : Nat → Prop} : ∀ (l : List Stm) (cs : List Value), StmsV w P l cs ↔ Parts 12 (StmV w P) l cs
  | [], cs => by unfold StmsV; exact Iff.rfl
  | s :: r, cs => by
    unfold StmsV
    constructor
    · rintro ⟨c, d, e, h1, h2, h3⟩
      exact ⟨c, d, e, h1, h2, (stms_parts r d).1 h3⟩
    · rintro ⟨c, d, e, h1, h2, h3⟩
      exact ⟨c, d, e, h1, h2, (stms_parts r d).2 h3⟩
def StmsP (w : World) (P : Nat → Prop) (v : Value) (n : Nat) (l : List Stm) : Prop := RowsP w P 12 (StmV w P) v n l
theorem StmV.iff {w : World} {P : Nat → Prop} {h : SH} {body els : List Stm} {cs : List Value} :
    StmV w P (.mk h body els) cs ↔ ∃ vE nE vA nA vB nB vC nC, cs = stmHead h vE vA vB vC ∧ NodesP w P vE nE h.e ∧ ArgsP w P vA nA h.args ∧ StmsP w P vB nB body ∧ StmsP w P vC nC els := by
  unfold StmV StmsP RowsP
  constructor
  · rintro ⟨vE, nE, vA, nA, vB, nB, vC, nC, e, h1, h2, ⟨b1, b2, b3, cb, b4, b5⟩, ⟨c1, c2, c3, cc, c4, c5⟩⟩
    exact ⟨vE, nE, vA, nA, vB, nB, vC, nC, e, h1, h2, ⟨b1, b2, b3, cb, b4, (stms_parts _ _).1 b5⟩, ⟨c1, c2, c3, cc, c4, (stms_parts _ _).1 c5⟩⟩
  · rintro ⟨vE, nE, vA, nA, vB, nB, vC, nC, e, h1, h2, ⟨b1, b2, b3, cb, b4, b5⟩, ⟨c1, c2, c3, cc, c4, c5⟩⟩
    exact ⟨vE, nE, vA, nA, vB, nB, vC, nC, e, h1, h2, ⟨b1, b2, b3, cb, b4, (stms_parts _ _).2 b5⟩, ⟨c1, c2, c3, cc, c4, (stms_parts _ _).2 c5⟩⟩
mutual
theorem StmV.chg {w w' : World} {P Q : Nat → Prop} {F : List Nat} (hc : Chg F w w') (hP : ∀ k, P k → k ∉ F) (hQ : ∀ k, P k → Q k) : ∀ (s : Stm) (cs : List Value), StmV w P s cs → StmV w' Q s cs
  | .mk h body els, cs, hs => by
    unfold StmV at hs ⊢
    obtain ⟨vE, nE, vA, nA, vB, nB, vC, nC, e, h1, h2, ⟨b1, b2, b3, cb, b4, b5⟩, ⟨c1, c2, c3, cc, c4, c5⟩⟩ := hs
    exact ⟨vE, nE, vA, nA, vB, nB, vC, nC, e, h1.chg hc hP hQ, h2.chg hc hP hQ, ⟨b1, b2, b3.mono hQ, cb, b4.chg b3 hc hP, StmsV.chg hc hP hQ body cb b5⟩, ⟨c1, c2, c3.mono hQ, cc, c4.chg c3 hc hP, StmsV.chg hc hP hQ els cc c5⟩⟩
theorem StmsV.chg {w w' : World} {P Q : Nat → Prop} {F : List Nat} (hc : Chg F w w') (hP : ∀ k, P k → k ∉ F) (hQ : ∀ k, P k → Q k) : ∀ (l : List Stm) (cs : List Value), StmsV w P l cs → StmsV w' Q l cs
  | [], cs, hs => by
    unfold StmsV at hs ⊢
    exact hs
  | s :: r, cs, hs => by
    unfold StmsV at hs ⊢
    obtain ⟨c, d, e, h1, h2, h3⟩ := hs
    exact ⟨c, d, e, h1, StmV.chg hc hP hQ s c h2, StmsV.chg hc hP hQ r d h3⟩
end
theorem StmsP.chg {w w' : World} {P Q : Nat → Prop} {v : Value} {n : Nat} {l : List Stm} {F : List Nat} (h : StmsP w P v n l) (hc : Chg F w w') (hP : ∀ k, P k → k ∉ F) (hQ : ∀ k, P k → Q k) : StmsP w' Q v n l :=
  RowsP.chg h hc hP hQ fun s c hs => StmV.chg hc hP hQ s c hs
theorem StmV.length {w : World} {P : Nat → Prop} {s : Stm} {cs : List Value} (h : StmV w P s cs) : cs.length = 12 := by
  obtain ⟨h0, body, els⟩ := s
  rw [StmV.iff] at h
  obtain ⟨_, _, _, _, _, _, _, _, rfl, _⟩ := h
  rfl

end Go.Proofs.YtlgfijjkbomejaaGreatDoor

/- Tokens as the lexer leaves them: how they are, how many, in what order. Plain facts. Numbers and types by name. -/
namespace Go.Proofs.YtlgfijjkbomejaaGreatDoor
open Go.RowKit Go.Lib

def signsL : List (List UInt8) := [[40], [41], [123], [125], [44], [59], [58], [46], [61], [60], [43], [45], [42], [47], [37], [33], [61, 61], [60, 61], [45, 62]]
def wordsL : List (List UInt8) := keysL ++ signsL
/-- A token that is no end, as the lexer leaves it. -/
structure TokOk (t : Tk) : Prop where
  k : t.kind = 1 ∨ t.kind = 2 ∨ t.kind = 3 ∨ t.kind = 4
  num : t.kind = 2 → t.text ≠ [] ∧ t.text.length ≤ 9 ∧ ∀ c ∈ t.text, isDig c = true
  word : t.text ∈ wordsL → t.kind = 3 ∨ t.kind = 4
  some : t.text ≠ []
theorem words_let : ∀ x ∈ signsL, ∃ d t, x = d :: t ∧ isLet d = false ∧ isDig d = false := by
  intro x hx
  simp only [signsL, List.mem_cons, List.not_mem_nil, or_false] at hx
  rcases hx with rfl | rfl | rfl | rfl | rfl | rfl | rfl | rfl | rfl | rfl | rfl | rfl | rfl | rfl | rfl | rfl | rfl | rfl | rfl <;> exact ⟨_, _, rfl, by decide, by decide⟩
theorem words_dig : ∀ x ∈ wordsL, ∃ d t, x = d :: t ∧ isDig d = false := by
  intro x hx
  rcases List.mem_append.1 hx with h | h
  · simp only [keysL, List.mem_cons, List.not_mem_nil, or_false] at h
    rcases h with rfl | rfl | rfl | rfl | rfl | rfl | rfl | rfl | rfl | rfl | rfl | rfl | rfl | rfl | rfl <;> exact ⟨_, _, rfl, by decide⟩
  · obtain ⟨d, t, e, _, h⟩ := words_let x h
    exact ⟨d, t, e, h⟩
theorem stepL_tok {c : UInt8} {r : List UInt8} {k : Int} {n : Nat} (h : stepL (c :: r) = .tok k n) (i : Nat) : TokOk ⟨k, (c :: r).take n, i⟩ := by
  have hn := (stepL_n (c := c) (r := r)).2 k n h
  have hne : (c :: r).take n ≠ [] := by
    obtain ⟨m, rfl⟩ : ∃ m, n = m + 1 := ⟨n - 1, by omega⟩
    simp
  change stepC c r = .tok k n at h
  unfold stepC at h
  split at h
  · cases h
  split at h
  · cases h
  split at h
  · rename_i hl
    split at h
    · cases h
    · simp only [LStep.tok.injEq] at h
      obtain ⟨hk, rfl⟩ := h
      split at hk
      · subst hk
        exact ⟨.inr (.inr (.inl rfl)), fun h => absurd h (show ¬ (3 : Int) = 2 by decide), fun _ => .inl rfl, hne⟩
      · rename_i hc
        subst hk
        refine ⟨.inl rfl, fun h => absurd h (show ¬ (1 : Int) = 2 by decide), fun hw => ?_, hne⟩
        exfalso
        rcases List.mem_append.1 hw with hw | hw
        · exact hc (by rw [List.contains_iff_mem]; exact hw)
        · obtain ⟨d, t, e, h1, _⟩ := words_let _ hw
          rw [Nat.add_comm, List.take_succ_cons] at e
          cases e
          rw [hl] at h1
          cases h1
  split at h
  · rename_i hd
    split at h
    · cases h
    split at h
    · cases h
    · rename_i h9 _
      simp only [LStep.tok.injEq] at h
      obtain ⟨rfl, rfl⟩ := h
      refine ⟨.inr (.inl rfl), fun _ => ⟨hne, ?_, ?_⟩, fun hw => ?_, hne⟩
      · rw [List.length_take]
        omega
      · intro x hx
        rw [Nat.add_comm, List.take_succ_cons] at hx
        rcases List.mem_cons.1 hx with rfl | hx
        · exact hd
        · exact (runL_take isDig r).1 x hx
      · exfalso
        obtain ⟨d, t, e, h1⟩ := words_dig _ hw
        rw [Nat.add_comm, List.take_succ_cons] at e
        cases e
        rw [hd] at h1
        cases h1
  split at h
  · cases h
  · simp only [LStep.tok.injEq] at h
    obtain ⟨rfl, rfl⟩ := h
    exact ⟨.inr (.inr (.inr rfl)), fun h => absurd h (show ¬ (4 : Int) = 2 by decide), fun _ => .inr rfl, hne⟩

/-- What the tokens of a text are. -/
structure LexL (i n : Nat) (L : List Tk) : Prop where
  shape : ∃ M j, L = M ++ [⟨0, [], j⟩] ∧ M.length ≤ n ∧ j = i + n ∧ ∀ t ∈ M, TokOk t ∧ i ≤ t.pos ∧ t.pos < i + n
theorem LexL.skip {i n k : Nat} {L : List Tk} (h : LexL (i + k) (n - k) L) (hk : k ≤ n) : LexL i n L := by
  obtain ⟨M, j, e, h1, h2, h3⟩ := h.shape
  exact ⟨M, j, e, by omega, by omega, fun t ht => ⟨(h3 t ht).1, by have := (h3 t ht).2; omega, by have := (h3 t ht).2; omega⟩⟩
theorem lexA_LexL : ∀ (k i : Nat) (r : List UInt8), r.length ≤ k → (lexA i r).e = 0 → LexL i r.length (lexA i r).l
  | _, i, [], _, _ => by
    rw [lexA_nil]
    exact ⟨⟨[], i, rfl, Nat.zero_le _, by simp, fun t ht => by cases ht⟩⟩
  | 0, _, c :: r, h, _ => by simp at h
  | k + 1, i, c :: r, hk, he => by
    simp only [List.length_cons] at hk
    cases h : stepL (c :: r) with
    | skip n =>
      have hn := (stepL_n (c := c) (r := r)).1 n h
      rw [lexA_skip h] at he ⊢
      have := lexA_LexL k (i + n) ((c :: r).drop n) (by simp only [List.length_drop, List.length_cons]; omega) he
      rw [List.length_drop] at this
      exact this.skip (by simpa using hn.2)
    | bad e =>
      rw [lexA_bad h] at he
      exfalso
      rcases stepL_bad h with rfl | rfl <;> simp at he
    | tok x n =>
      have hn := (stepL_n (c := c) (r := r)).2 x n h
      rw [lexA_tok h] at he ⊢
      have he2 : (lexA (i + n) ((c :: r).drop n)).e = 0 := he
      have := lexA_LexL k (i + n) ((c :: r).drop n) (by simp only [List.length_drop, List.length_cons]; omega) he2
      obtain ⟨M, j, e, h1, h2, h3⟩ := this.shape
      rw [List.length_drop, List.length_cons] at h1 h2 h3
      refine ⟨⟨⟨x, (c :: r).take n, i⟩ :: M, j, ?_, by simp only [List.length_cons]; omega, by simp only [List.length_cons]; omega, fun t ht => ?_⟩⟩
      · unfold consL
        simp only
        rw [if_pos he2, e]
        rfl
      · rcases List.mem_cons.1 ht with rfl | ht
        · exact ⟨stepL_tok h i, Nat.le_refl _, by simp⟩
        · have := h3 t ht
          exact ⟨this.1, by omega, by simp only [List.length_cons]; omega⟩

/-- Words and signs are words and signs; numbers have digits. -/
structure TokX (L : List Tk) : Prop where
  word : ∀ t ∈ L, t.text ∈ wordsL → t.kind = 3 ∨ t.kind = 4
  num : ∀ t ∈ L, t.kind = 2 → t.text ≠ []
theorem LexL.tokL {i n : Nat} {L : List Tk} (h : LexL i n L) (hn : n ≤ 9000) : TokL L ∧ TokX L := by
  obtain ⟨M, j, rfl, h1, h2, h3⟩ := h.shape
  refine ⟨⟨by simp, fun k hk hx => ?_, fun t ht hx => ?_, by simp; omega⟩, ⟨fun t ht hx => ?_, fun t ht hx => ?_⟩⟩
  · simp only [List.length_append, List.length_singleton] at hk ⊢
    by_cases e : k = M.length
    · exfalso
      apply hx
      subst e
      simp
    · omega
  · rcases List.mem_append.1 ht with ht | ht
    · exact ((h3 t ht).1.num hx).2
    · rw [List.mem_singleton] at ht
      subst ht
      exact absurd hx (show ¬ (0 : Int) = 2 by decide)
  · rcases List.mem_append.1 ht with ht | ht
    · exact (h3 t ht).1.word hx
    · rw [List.mem_singleton] at ht
      subst ht
      exfalso
      obtain ⟨d, t, e, _⟩ := words_dig _ hx
      cases e
  · rcases List.mem_append.1 ht with ht | ht
    · exact ((h3 t ht).1.num hx).1
    · rw [List.mem_singleton] at ht
      subst ht
      exact absurd hx (show ¬ (0 : Int) = 2 by decide)
theorem lexP_tokL {b : List UInt8} (he : (lexP b).e = 0) : TokL (lexP b).l ∧ TokX (lexP b).l := by
  unfold lexP at he ⊢
  split
  · rename_i h
    rw [if_pos h] at he
    exact absurd he (by decide)
  · rename_i h
    rw [if_neg h] at he
    exact (lexA_LexL b.length 0 b (Nat.le_refl _) he).tokL (by omega)

/-- A word or a sign stands there where its text does. -/
theorem isT_text {L : List Tk} {s : PS} {t : List UInt8} (hX : TokX L) (hi : s.i < L.length) (he : s.e = 0) (ht : t ∈ wordsL) : isT L s t = decide ((curT L s).text = t) := by
  unfold isT
  rw [he]
  by_cases h : (curT L s).text = t
  · have hm : curT L s ∈ L := by
      unfold curT
      rw [List.getD_eq_getElem?_getD, List.getElem?_eq_getElem hi]
      exact List.getElem_mem hi
    have := hX.word _ hm (by rw [h]; exact ht)
    rcases this with k | k <;> rw [k, h] <;> simp
  · simp [h]

end Go.Proofs.YtlgfijjkbomejaaGreatDoor

namespace Go.Proofs.YtlgfijjkbomejaaGreatDoor
open Go.RowKit Go.Lib
set_option maxRecDepth 100000

/-- A parser's cells. -/
structure PaS (w : World) (b : Nat) (a : Addr) (n c d : Nat) : Prop where
  c0 : w.cell? ⟨b, 0, none⟩ = some (.slice (some a) n c)
  c1 : w.cell? ⟨b, 1, none⟩ = some (.int .i64 (d : Int))
  fz : ∀ k, w.frozen? ⟨b, k, none⟩ = false
theorem PaS.chg {w w' : World} {b : Nat} {a : Addr} {n c d : Nat} {F : List Nat} (h : PaS w b a n c d) (hc : Chg F w w') (hb : b ∉ F) : PaS w' b a n c d :=
  ⟨hc.cell h.c0 hb, hc.cell h.c1 hb, fun k => (World.frozen?_of_block (a := ⟨b, k, none⟩) (hc.block b (World.block_lt_of_cell? w _ h.c0) hb)).trans (h.fz k)⟩
theorem PaS.set0 {w : World} {b : Nat} {a : Addr} {n c d : Nat} (h : PaS w b a n c d) (a' : Addr) (n' c' : Nat) : PaS (w.setCell ⟨b, 0, none⟩ (.slice (some a') n' c')) b a' n' c' d :=
  ⟨World.cell?_setCell_same w _ _ h.c0, (World.cell?_setCell_other w _ _ _ (ne_off (by decide))).trans h.c1, fun k => by rw [World.frozen?_setCell]; exact h.fz k⟩
theorem PaS.set1 {w : World} {b : Nat} {a : Addr} {n c d : Nat} (h : PaS w b a n c d) (d' : Nat) : PaS (w.setCell ⟨b, 1, none⟩ (.int .i64 (d' : Int))) b a n c d' :=
  ⟨(World.cell?_setCell_other w _ _ _ (ne_off (by decide))).trans h.c0, World.cell?_setCell_same w _ _ h.c1, fun k => by rw [World.frozen?_setCell]; exact h.fz k⟩

/-- The code's parser, where no error is: what is left of the tokens, how deep. -/
structure Psr (w0 w : World) (b : Nat) (L : List Tk) (s : PS) : Prop where
  r : ∃ a n c, PaS w b a n c s.deep ∧ n + s.i = L.length ∧ n ≤ c ∧ Tkr w0 (.slice (some a) n c) n (L.drop s.i)
  e : s.e = 0
  lo : w0.heap.size ≤ b
  b : Below w0.heap.size w0 w
  lt : s.i < L.length
  ok : TokL L
  x : TokX L
  deep : s.deep ≤ 40
theorem Psr.blt {w0 w : World} {b : Nat} {L : List Tk} {s : PS} (h : Psr w0 w b L s) : b < w.heap.size := by
  obtain ⟨a, n, c, h1, _⟩ := h.r
  exact World.block_lt_of_cell? w _ h1.c0
theorem Psr.chg {w0 w w' : World} {b : Nat} {L : List Tk} {s : PS} {F : List Nat} (h : Psr w0 w b L s) (hc : Chg F w w') (hF : ∀ x ∈ F, b < x) : Psr w0 w' b L s := by
  obtain ⟨a, n, c, h1, h2⟩ := h.r
  exact ⟨⟨a, n, c, h1.chg hc (fun hm => Nat.lt_irrefl _ (hF b hm)), h2⟩, h.e, h.lo, h.b.trans (hc.below (Nat.le_trans h.b.size (Nat.le_refl _)) fun x hx => Nat.le_trans h.lo (Nat.le_of_lt (hF x hx))), h.lt, h.ok, h.x, h.deep⟩
theorem drop_cur {L : List Tk} {s : PS} (h : s.i < L.length) : (L.drop s.i)[0]? = some (curT L s) := by
  rw [List.getElem?_drop, Nat.add_zero]
  unfold curT
  rw [List.getD_eq_getElem?_getD, List.getElem?_eq_getElem h]
  rfl
/-- The cells of the token that stands there. -/
theorem tk_cur {w0 w1 : World} {a : Addr} {n c : Nat} {L : List Tk} {s : PS} (ht : Tkr w0 (.slice (some a) n c) n (L.drop s.i)) (hn : n + s.i = L.length) (hi : s.i < L.length) (hg : Grow w0 w1) :
    w1.cell? a = some (.int .i64 (curT L s).kind) ∧ w1.cell? ⟨a.block, a.off + 1, none⟩ = some (.string (tx (curT L s).text)) ∧ w1.cell? ⟨a.block, a.off + 2, none⟩ = some (.int .i64 ((curT L s).pos : Int)) := by
  obtain ⟨a', o, e, ho, c0, c1, c2⟩ := (ht.later hg).at (k := 0) (by omega)
  cases e
  rw [drop_cur hi] at ho
  cases ho
  have e0 : a.add (0 * 3) = a := by
    unfold Addr.add
    rw [if_pos (Nat.zero_mul 3)]
  rw [e0] at c0 c1 c2
  exact ⟨c0, c1, c2⟩
/-- A token as a value. -/
def tokV (t : Tk) : Value := .agg #[.int .i64 t.kind, .string (tx t.text), .int .i64 (t.pos : Int)]
theorem res_tok {fn : Func} {p : Tmp} (h : fn.results = #[.cell p 117]) (tmps : Array Value) (w : World) (g : Nat) (t : Tk)
    (hp : tmps.getD p undef = .pointer (some ⟨g, 0, none⟩)) (hg : w.heap[g]? = some (.cells #[.int .i64 t.kind, .string (tx t.text), .int .i64 (t.pos : Int)] 117 (0, 0))) :
    (results fn tmps).run Tryz.prog w = .ok (tokV t) w :=
  results_cell_row h tmps w g _ _ _ _ hp hg Tryz.underlying117 rfl (by show _ = some 3; kernel_rfl)
theorem tok_kind (t : Tk) (w : World) : (Instr.field 117 (.agg #[.int .i64 t.kind, .string (tx t.text), .int .i64 (t.pos : Int)]) 0).run Tryz.prog w = .ok (.int .i64 t.kind) w := by kernel_rfl
theorem tok_text (t : Tk) (w : World) : (Instr.field 117 (.agg #[.int .i64 t.kind, .string (tx t.text), .int .i64 (t.pos : Int)]) 1).run Tryz.prog w = .ok (.string (tx t.text)) w := by kernel_rfl
theorem tok_pos (t : Tk) (w : World) : (Instr.field 117 (.agg #[.int .i64 t.kind, .string (tx t.text), .int .i64 (t.pos : Int)]) 2).run Tryz.prog w = .ok (.int .i64 (t.pos : Int)) w := by kernel_rfl
/-- What a piece of the parser leaves that cannot fail. -/
def Pets (w0 w : World) (b : Nat) (L : List Tk) (s' : PS) (x : Ending) (e : Ending) (w' : World) : Prop := e = x ∧ Psr w0 w' b L s' ∧ Chg [b] w w'
theorem Pets.out1 {w0 w w' : World} {b : Nat} {L : List Tk} {s' : PS} {x e : Ending} (h : Pets w0 w b L s' x e w') : e = x ∧ Hid (Psr w0 w' b L s' ∧ Chg [b] w w') := ⟨h.1, Lib.hid h.2⟩

/-- The sign or word has gone by. -/
theorem Psr.next {w0 w w1 w2 : World} {b : Nat} {L : List Tk} {s : PS} {a : Addr} {n c : Nat} (h : Psr w0 w b L s) (hm : s.i + 1 < L.length) (h1 : PaS w1 b a n c s.deep) (hn : n + s.i = L.length) (hnc : n ≤ c) (ht : Tkr w0 (.slice (some a) n c) n (L.drop s.i)) (hc : Chg [b] w w1) (e2 : w2 = w1.setCell ⟨b, 0, none⟩ (.slice (some (a.add 3)) (n - 1) (c - 1))) : Psr w0 w2 b L s.go ∧ Chg [b] w w2 := by
  subst e2
  have hc2 := hc.set (.inl (List.mem_singleton.2 rfl)) 0 (.slice (some (a.add 3)) (n - 1) (c - 1))
  refine ⟨⟨⟨a.add 3, n - 1, c - 1, h1.set0 _ _ _, by show n - 1 + (s.i + 1) = _; omega, by omega, ?_⟩, h.e, h.lo, h.b.trans (hc2.below h.b.size fun x hx => by rw [List.mem_singleton] at hx; rw [hx]; exact h.lo), hm, h.ok, h.x, h.deep⟩, hc2⟩
  obtain ⟨t1, t2, ao, c', e, g1, g2, g3, g4⟩ := ht
  cases e
  have hd : L.drop s.i = curT L s :: L.drop (s.i + 1) := by
    rw [List.drop_eq_getElem_cons h.lt]
    congr 1
    unfold curT
    rw [List.getD_eq_getElem?_getD, List.getElem?_eq_getElem h.lt]
    rfl
  rw [hd] at g1 g4
  refine ⟨by rw [List.length_drop]; show n - 1 = L.length - (s.i + 1); omega, by omega, some (a.add 3), c - 1, rfl, ?_, by omega, (fun e => by cases e), fun a' ha j u hj => ?_⟩
  · rw [tvs_length, List.length_drop]
    show (L.length - (s.i + 1)) * 3 = (n - 1) * 3
    congr 1
    omega
  · cases ha
    rw [Addr.add_add]
    refine g4 a rfl (3 + j) u ?_
    show ((curT L s :: L.drop (s.i + 1)).flatMap tv)[3 + j]? = some u
    rw [List.flatMap_cons, List.getElem?_append_right (by simp [tv]), ← hj]
    congr 1
    simp [tv]

end Go.Proofs.YtlgfijjkbomejaaGreatDoor
