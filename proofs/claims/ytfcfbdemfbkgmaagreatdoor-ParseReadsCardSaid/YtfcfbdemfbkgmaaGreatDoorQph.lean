/- The code's unary, over itself and comparison; expr. Numbers and types by name. -/
import Derived.Test.YtfcfbdemfbkgmaaGreatDoorPao
import Derived.Test.YtfcfbdemfbkgmaaGreatDoorQpg
import Derived.Deep.Cut
import Derived.Deep.CutBlock
import Derived.Deep.CutRange
/- Trees of modules in memory: what can be read of them, in blocks of a kind. Numbers and types by name. -/
namespace Go.Proofs.YtfcfbdemfbkgmaaGreatDoor
open Go.RowKit Go.Lib
set_option maxRecDepth 100000

/-- A slice's block is of a kind. -/
def BlkP (P : Nat → Prop) (v : Value) : Prop := ∀ a n c, v = .slice (some a) n c → P a.block
theorem BlkP.nil (P : Nat → Prop) (n c : Nat) : BlkP P (.slice none n c) := fun a _ _ h => by cases h
theorem BlkP.mono {P Q : Nat → Prop} {v : Value} (h : BlkP P v) (hq : ∀ k, P k → Q k) : BlkP Q v := fun a n c e => hq _ (h a n c e)
theorem Cells.chg {w w' : World} {v : Value} {size n : Nat} {xs : List Value} {F : List Nat} {P : Nat → Prop} (h : Cells w v size n xs) (hb : BlkP P v) (hc : Chg F w w') (hP : ∀ k, P k → k ∉ F) : Cells w' v size n xs := by
  obtain ⟨ao, cap, rfl, h0, h1, h2, h3⟩ := h
  refine ⟨ao, cap, rfl, h0, h1, h2, fun a ha j u hj => ?_⟩
  have e : (a.add j).block = a.block := by unfold Addr.add; split <;> rfl
  exact hc.cell (h3 a ha j u hj) (by rw [e]; exact hP _ (hb a _ _ (by rw [ha])))

/-- Cells in parts of one size, each read as something. -/
def Parts {α : Type} (size : Nat) (R : α → List Value → Prop) : List α → List Value → Prop
  | [], cs => cs = []
  | a :: l, cs => ∃ c d, cs = c ++ d ∧ c.length = size ∧ R a c ∧ Parts size R l d
theorem Parts.length {α : Type} {size : Nat} {R : α → List Value → Prop} : ∀ {l : List α} {cs : List Value}, Parts size R l cs → cs.length = l.length * size
  | [], cs, h => by
    change cs = [] at h
    simp [h]
  | a :: l, cs, ⟨c, d, e, h1, _, h2⟩ => by
    rw [e, List.length_append, h1, Parts.length h2, List.length_cons, Nat.succ_mul, Nat.add_comm]
theorem Parts.snoc {α : Type} {size : Nat} {R : α → List Value → Prop} {a : α} {c : List Value} (hc : c.length = size) (ha : R a c) : ∀ {l : List α} {cs : List Value}, Parts size R l cs → Parts size R (l ++ [a]) (cs ++ c)
  | [], cs, h => by
    change cs = [] at h
    subst h
    exact ⟨c, [], by simp, hc, ha, rfl⟩
  | x :: l, cs, ⟨c1, d, e, h1, h2, h3⟩ => ⟨c1, d ++ c, by rw [e, List.append_assoc], h1, h2, Parts.snoc hc ha h3⟩
theorem Parts.imp {α : Type} {size : Nat} {R S : α → List Value → Prop} (h : ∀ a c, R a c → S a c) : ∀ {l : List α} {cs : List Value}, Parts size R l cs → Parts size S l cs
  | [], _, hp => hp
  | _ :: _, _, ⟨c, d, e, h1, h2, h3⟩ => ⟨c, d, e, h1, h _ _ h2, Parts.imp h h3⟩
theorem Parts.get {α : Type} {size : Nat} {R : α → List Value → Prop} : ∀ {l : List α} {cs : List Value} {k : Nat} {a : α}, Parts size R l cs → l[k]? = some a → R a ((cs.drop (k * size)).take size) ∧ ((cs.drop (k * size)).take size).length = size
  | [], _, _, _, _, h => by simp at h
  | x :: l, cs, 0, a, ⟨c, d, e, h1, h2, h3⟩, h => by
    simp only [List.getElem?_cons_zero, Option.some.injEq] at h
    subst h
    rw [e, Nat.zero_mul, List.drop_zero, List.take_left' h1]
    exact ⟨h2, h1⟩
  | x :: l, cs, k + 1, a, ⟨c, d, e, h1, h2, h3⟩, h => by
    rw [List.getElem?_cons_succ] at h
    have := Parts.get h3 h
    rw [e, Nat.succ_mul, Nat.add_comm, ← List.drop_drop, List.drop_left' h1]
    exact this
/-- A slice of such parts. -/
def RowsP {α : Type} (w : World) (P : Nat → Prop) (size : Nat) (R : α → List Value → Prop) (v : Value) (n : Nat) (l : List α) : Prop := n = l.length ∧ n ≤ 100000 ∧ BlkP P v ∧ ∃ cs, Cells w v size n cs ∧ Parts size R l cs
theorem RowsP.nil {α : Type} (w : World) (P : Nat → Prop) (size : Nat) (R : α → List Value → Prop) : RowsP w P size R (.slice none 0 0) 0 [] :=
  ⟨rfl, Nat.zero_le _, BlkP.nil _ _ _, [], ⟨none, 0, rfl, by simp, Nat.le_refl _, fun _ => ⟨rfl, rfl⟩, fun a h => by cases h⟩, rfl⟩
theorem RowsP.shape {α : Type} {w : World} {P : Nat → Prop} {size : Nat} {R : α → List Value → Prop} {v : Value} {n : Nat} {l : List α} (h : RowsP w P size R v n l) : ∃ ao c, v = .slice ao n c := by
  obtain ⟨_, _, _, _, ⟨ao, c, rfl, _⟩, _⟩ := h
  exact ⟨ao, c, rfl⟩
theorem RowsP.chg {α : Type} {w w' : World} {P Q : Nat → Prop} {size : Nat} {R S : α → List Value → Prop} {v : Value} {n : Nat} {l : List α} {F : List Nat} (h : RowsP w P size R v n l) (hc : Chg F w w') (hP : ∀ k, P k → k ∉ F) (hQ : ∀ k, P k → Q k) (hR : ∀ a c, R a c → S a c) : RowsP w' Q size S v n l := by
  obtain ⟨h1, h2, h3, cs, h4, h5⟩ := h
  exact ⟨h1, h2, h3.mono hQ, cs, h4.chg h3 hc hP, h5.imp hR⟩

/-- Nodes that are read. -/
def NdV (o : Nd) (c : List Value) : Prop := c = nv o
def NodesP (w : World) (P : Nat → Prop) (v : Value) (n : Nat) (l : List Nd) : Prop := RowsP w P 7 NdV v n l
theorem nodes_parts : ∀ l : List Nd, Parts 7 NdV l (nvs l)
  | [] => rfl
  | o :: l => ⟨nv o, nvs l, by simp [nvs], rfl, rfl, nodes_parts l⟩
theorem OwnN.nodes {w : World} {base : Nat} {v : Value} {n : Nat} {l : List Nd} {P : Nat → Prop} (h : OwnN w base v n l) (hn : n ≤ 100000) (hP : ∀ k, v.ownBlock = some k → P k) : NodesP w P v n l :=
  ⟨h.1, hn, fun a m c e => by
    rcases h.2.2 with ⟨rfl, rfl⟩ | ⟨g, cap, cur, rfl, _⟩
    · cases e
    · simp only [Value.slice.injEq, Option.some.injEq] at e
      obtain ⟨rfl, _⟩ := e
      exact hP g rfl, nvs l, Cells.own h.2 (by decide), nodes_parts l⟩
/-- A list of arguments: one cell, a slice of nodes. -/
def ArgV (w : World) (P : Nat → Prop) (l : List Nd) (c : List Value) : Prop := ∃ v n, c = [v] ∧ NodesP w P v n l
def ArgsP (w : World) (P : Nat → Prop) (v : Value) (n : Nat) (l : List (List Nd)) : Prop := RowsP w P 1 (ArgV w P) v n l
theorem NodesP.chg {w w' : World} {P Q : Nat → Prop} {v : Value} {n : Nat} {l : List Nd} {F : List Nat} (h : NodesP w P v n l) (hc : Chg F w w') (hP : ∀ k, P k → k ∉ F) (hQ : ∀ k, P k → Q k) : NodesP w' Q v n l := RowsP.chg h hc hP hQ fun _ _ h => h
theorem ArgsP.chg {w w' : World} {P Q : Nat → Prop} {v : Value} {n : Nat} {l : List (List Nd)} {F : List Nat} (h : ArgsP w P v n l) (hc : Chg F w w') (hP : ∀ k, P k → k ∉ F) (hQ : ∀ k, P k → Q k) : ArgsP w' Q v n l :=
  RowsP.chg h hc hP hQ fun _ _ ⟨v, n, e, h⟩ => ⟨v, n, e, h.chg hc hP hQ⟩

/-- A statement's cells. -/
def stmHead (h : SH) (vE vA vB vC : Value) : List Value := [.int .i64 h.kind, .int .i64 (h.pos : Int), .string (tx h.mod), .string (tx h.name), .string (tx h.label), .bool h.has, .string (tx h.toMod), .string (tx h.to), vE, vA, vB, vC]
mutual
def StmV (w : World) (P : Nat → Prop) : Stm → List Value → Prop
  | .mk h body els, cs => ∃ vE nE vA nA vB nB vC nC, cs = stmHead h vE vA vB vC ∧ NodesP w P vE nE h.e ∧ ArgsP w P vA nA h.args ∧
    (nB = body.length ∧ nB ≤ 100000 ∧ BlkP P vB ∧ ∃ cb, Cells w vB 12 nB cb ∧ StmsV w P body cb) ∧ (nC = els.length ∧ nC ≤ 100000 ∧ BlkP P vC ∧ ∃ cc, Cells w vC 12 nC cc ∧ StmsV w P els cc)
def StmsV (w : World) (P : Nat → Prop) : List Stm → List Value → Prop
  | [], cs => cs = []
  | s :: r, cs => ∃ c d, cs = c ++ d ∧ c.length = 12 ∧ StmV w P s c ∧ StmsV w P r d
end
theorem stms_parts {w : World} {P : Nat → Prop} : ∀ (l : List Stm) (cs : List Value), StmsV w P l cs ↔ Parts 12 (StmV w P) l cs
  | [], cs => by unfold StmsV; exact Iff.rfl
  | s :: r, cs => by
    unfold StmsV
    constructor
    · rintro ⟨c, d, e, h1, h2, h3⟩
      exact ⟨c, d, e, h1, h2, (stms_parts r d).1 h3⟩
    · rintro ⟨c, d, e, h1, h2, h3⟩
      exact ⟨c, d, e, h1, h2, (stms_parts r d).2 h3⟩
def StmsP (w : World) (P : Nat → Prop) (v : Value) (n : Nat) (l : List Stm) : Prop := RowsP w P 12 (StmV w P) v n l
theorem StmV.iff {w : World} {P : Nat → Prop} {h : SH} {body els : List Stm} {cs : List Value} :
    StmV w P (.mk h body els) cs ↔ ∃ vE nE vA nA vB nB vC nC, cs = stmHead h vE vA vB vC ∧ NodesP w P vE nE h.e ∧ ArgsP w P vA nA h.args ∧ StmsP w P vB nB body ∧ StmsP w P vC nC els := by
  unfold StmV StmsP RowsP
  constructor
  · rintro ⟨vE, nE, vA, nA, vB, nB, vC, nC, e, h1, h2, ⟨b1, b2, b3, cb, b4, b5⟩, ⟨c1, c2, c3, cc, c4, c5⟩⟩
    exact ⟨vE, nE, vA, nA, vB, nB, vC, nC, e, h1, h2, ⟨b1, b2, b3, cb, b4, (stms_parts _ _).1 b5⟩, ⟨c1, c2, c3, cc, c4, (stms_parts _ _).1 c5⟩⟩
  · rintro ⟨vE, nE, vA, nA, vB, nB, vC, nC, e, h1, h2, ⟨b1, b2, b3, cb, b4, b5⟩, ⟨c1, c2, c3, cc, c4, c5⟩⟩
    exact ⟨vE, nE, vA, nA, vB, nB, vC, nC, e, h1, h2, ⟨b1, b2, b3, cb, b4, (stms_parts _ _).2 b5⟩, ⟨c1, c2, c3, cc, c4, (stms_parts _ _).2 c5⟩⟩
mutual
theorem StmV.chg {w w' : World} {P Q : Nat → Prop} {F : List Nat} (hc : Chg F w w') (hP : ∀ k, P k → k ∉ F) (hQ : ∀ k, P k → Q k) : ∀ (s : Stm) (cs : List Value), StmV w P s cs → StmV w' Q s cs
  | .mk h body els, cs, hs => by
    unfold StmV at hs ⊢
    obtain ⟨vE, nE, vA, nA, vB, nB, vC, nC, e, h1, h2, ⟨b1, b2, b3, cb, b4, b5⟩, ⟨c1, c2, c3, cc, c4, c5⟩⟩ := hs
    exact ⟨vE, nE, vA, nA, vB, nB, vC, nC, e, h1.chg hc hP hQ, h2.chg hc hP hQ, ⟨b1, b2, b3.mono hQ, cb, b4.chg b3 hc hP, StmsV.chg hc hP hQ body cb b5⟩, ⟨c1, c2, c3.mono hQ, cc, c4.chg c3 hc hP, StmsV.chg hc hP hQ els cc c5⟩⟩
theorem StmsV.chg {w w' : World} {P Q : Nat → Prop} {F : List Nat} (hc : Chg F w w') (hP : ∀ k, P k → k ∉ F) (hQ : ∀ k, P k → Q k) : ∀ (l : List Stm) (cs : List Value), StmsV w P l cs → StmsV w' Q l cs
  | [], cs, hs => by
    unfold StmsV at hs ⊢
    exact hs
  | s :: r, cs, hs => by
    unfold StmsV at hs ⊢
    obtain ⟨c, d, e, h1, h2, h3⟩ := hs
    exact ⟨c, d, e, h1, StmV.chg hc hP hQ s c h2, StmsV.chg hc hP hQ r d h3⟩
end
theorem StmsP.chg {w w' : World} {P Q : Nat → Prop} {v : Value} {n : Nat} {l : List Stm} {F : List Nat} (h : StmsP w P v n l) (hc : Chg F w w') (hP : ∀ k, P k → k ∉ F) (hQ : ∀ k, P k → Q k) : StmsP w' Q v n l :=
  RowsP.chg h hc hP hQ fun s c hs => StmV.chg hc hP hQ s c hs
theorem StmV.length {w : World} {P : Nat → Prop} {s : Stm} {cs : List Value} (h : StmV w P s cs) : cs.length = 12 := by
  obtain ⟨h0, body, els⟩ := s
  rw [StmV.iff] at h
  obtain ⟨_, _, _, _, _, _, _, _, rfl, _⟩ := h
  rfl

end Go.Proofs.YtfcfbdemfbkgmaaGreatDoor

namespace Go.Proofs.YtfcfbdemfbkgmaaGreatDoor
open Go.RowKit Go.Lib
set_option maxRecDepth 100000

theorem tokO_info (t : Tk) : (Tryz.prog.info? 52).map (·.size) = some (#[Value.int .i64 t.kind, .string (tx t.text), .int .i64 (t.pos : Int)]).size := tok_info t
theorem isT_not {L : List Tk} {s : PS} {t : List UInt8} (hw : isT L s t = decide ((curT L s).text = t)) (h : ¬ (curT L s).text = t) : isT L s t = false := by rw [hw, decide_eq_false h]

set_option maxHeartbeats 4000000 in
theorem cunary_walk (w0 : World) (b : Nat) (L : List Tk) (N : Nat) (hL : TokL L) (KU : ExC 188 (unaryT L N) w0 b L N) (KE : ExC 149 (exprT L (unaryT L N) N) w0 b L N) :
    ExC 188 (unaryT L (N + 1)) w0 b L (N + 1) := by
  intro w s v m l hr ho hn hp
  obtain ⟨ao0, c0, rfl⟩ := ho.shape
  obtain ⟨R, hR⟩ : ∃ R, unaryT L (N + 1) s l = R := ⟨_, rfl⟩
  rw [hR]
  unfold unaryT at hR
  simp only at hR
  have he := hr.e
  rw [if_neg (by rw [he]; simp)] at hR
  have w1' := isT_text hr.x hr.lt he (t := [45]) (by decide)
  have w2' := isT_text hr.x hr.lt he (t := [33]) (by decide)
  have w3' := isT_text hr.x hr.lt he (t := [40]) (by decide)
  have P := psr_peek w0 w b L s hr
  have PX := Lib.hid (fun w v m l k h1 h2 h3 h4 h5 => prefix_walk w0 b L N KU w s v m l k h1 h2 h3 h4 h5)
  have HK := Lib.hid (And.intro hL (And.intro KU KE))
  have HN := Lib.hid (And.intro hn hp)
  have HH := Lib.hid (And.intro hr ho)
  have hm2 : m ≤ 20000 := by have := ho.1; omega
  have hkw := hr.x.word _ (cur_memT hr.lt)
  have NB := Lib.hid (fun w1 h1 => psr_number w0 w1 b L s h1)
  have QN := Lib.hid (fun w1 h1 => psr_qname w0 w1 b L s h1)
  have OP := Lib.hid (fun w1 h1 => psr_open w0 w1 b L s [40] h1 (by decide))
  unfold tokV at P PX
  unfold numQ at NB
  obtain ⟨T, hT⟩ : ∃ T, curT L s = T := ⟨_, rfl⟩
  have HT := Lib.hid hT
  rw [hT] at P hR w1' w2' w3' PX hkw NB
  obtain ⟨kd, tt, p⟩ := T
  simp only at P hR w1' w2' w3' PX hkw NB
  have HR := Lib.hid hR
  have HW := Lib.hid (And.intro w1' (And.intro w2' (And.intro w3' hkw)))
  clear hr ho KU KE hL hn hp hR he w1' w2' w3' hT hkw
  go_enter Tryz.func188, Tryz.ntmps188
  go_wp2_with fail
  refine P.mono ?_
  rintro e1 w1 hr
  obtain ⟨rfl, X1⟩ := hr.out1
  have H1 : Hid (EcAt w0 w (w1.alloc (tokO ⟨kd, tt, p⟩)) b L (.slice ao0 m c0) (.slice ao0 m c0) m w1.heap.size (tokO ⟨kd, tt, p⟩) s l) := Lib.hid (EcAt.after1 X1.out.1 HH.out.2 X1.out.2 _ rfl)
  clear hr X1 P
  unfold tokO at H1
  have ck : (w1.alloc (.cells #[.int .i64 kd, .string (tx tt), .int .i64 (p : Int)] 52)).cell? ⟨w1.heap.size, 0, none⟩ = some (.int .i64 kd) := cellsN H1.out.z 0 _ rfl
  have ct : (w1.alloc (.cells #[.int .i64 kd, .string (tx tt), .int .i64 (p : Int)] 52)).cell? ⟨w1.heap.size, 1, none⟩ = some (.string (tx tt)) := cellsN H1.out.z 1 _ rfl
  by_cases hk2 : kd = 2
  · subst hk2
    have hnw : tt ∉ wordsL := fun hm => by rcases HW.out.2.2.2 hm with h | h <;> exact absurd h (by decide)
    have q1 : isT L s [45] = false := by rw [HW.out.1]; exact decide_eq_false (fun e => hnw (by rw [e]; decide))
    have q2 : isT L s [33] = false := by rw [HW.out.2.1]; exact decide_eq_false (fun e => hnw (by rw [e]; decide))
    have q3 : isT L s [40] = false := by rw [HW.out.2.2.1]; exact decide_eq_false (fun e => hnw (by rw [e]; decide))
    have hR := HR.out
    rw [q1, q2, q3, if_neg (by simp), if_neg (by simp), if_pos rfl] at hR
    have NB2 := NB.out
    rw [if_pos rfl] at NB2
    have NBH := Lib.hid NB2
    have HR2 := Lib.hid hR
    clear NB NB2 hR HR HW PX QN OP HK hnw q1 q2 q3 ct
    go_upto_region 3 with fail
    have HD := Lib.hid H1.out.drew
    have cp : (w1.alloc (.cells #[.int .i64 2, .string (tx tt), .int .i64 (p : Int)] 52)).drew.cell? ⟨w1.heap.size, 2, none⟩ = some (.int .i64 (p : Int)) := cellsN HD.out.z 2 _ rfl
    have FL : Hid (m + 1 ≤ 1000000) := Lib.hid (by omega)
    clear H1 ck
    go_region_law (first | (refine step_append_gen elemNode rfl (.tmp 14) (.tmp 20) rfl (b + 1) _ m (nvs l) (by simp [Act.eval]) (H3.out.o.2.alloc _) _ 1 (nv ⟨1, (numV tt : Nat), [], [], -1, -1, p⟩) (by simp [Act.eval]) (node_lit w3 ⟨1, (numV tt : Nat), [], [], -1, -1, p⟩) (nv_one _) (m + 1) rfl FL (by decide) HB3.out ?_; intro ao7 c7 w7 hown7 hb7 hg7 ho7) | (go_simp; go_at_call 90; refine (NBH.out _ HD.out.r).mono ?_; rintro e3 w3 hr; refine Or.elim hr.out1 ?_ (fun q => absurd HD.out.r.e q.1); rintro ⟨h2, hv, X3⟩; obtain rfl : e3 = _ := hv; clear hr; have H3 := Lib.hid (HD.out.keep X3.out.1 X3.out.2); have cp : w3.cell? ⟨w1.heap.size, 2, none⟩ = some (.int .i64 (p : Int)) := cellsN H3.out.z 2 _ rfl; have HB3 : Hid (b + 1 ≤ (w3.alloc (.cells #[.int .i64 1, .int .i64 (numV tt : Nat), .string ⟨#[]⟩, .string ⟨#[]⟩, .int .i64 (-1), .int .i64 (-1), .int .i64 (p : Int)] 148)).heap.size) := Lib.hid (by have := H3.out.r.blt; simp; omega)))
    all_goals
      have HA := Lib.hid (And.intro hown7 (And.intro hg7 ho7))
      clear hown7 hb7 hg7 ho7
      go_wp2_with fail
      go_ret
      have := H3.out.node ⟨1, (numV tt : Nat), [], [], -1, -1, p⟩ HA.out.1 HA.out.2.1 HA.out.2.2
      rw [← HR2.out]
      exact this
  have hk2' : (kd == 2) = false := by simpa using hk2
  by_cases hk1 : kd = 1
  · subst hk1
    have hnw : tt ∉ wordsL := fun hm => by rcases HW.out.2.2.2 hm with h | h <;> exact absurd h (by decide)
    have q1 : isT L s [45] = false := by rw [HW.out.1]; exact decide_eq_false (fun e => hnw (by rw [e]; decide))
    have q2 : isT L s [33] = false := by rw [HW.out.2.1]; exact decide_eq_false (fun e => hnw (by rw [e]; decide))
    have q3 : isT L s [40] = false := by rw [HW.out.2.2.1]; exact decide_eq_false (fun e => hnw (by rw [e]; decide))
    have hR := HR.out
    rw [q1, q2, q3, if_neg (by simp), if_neg (by simp), if_neg hk2, if_pos rfl] at hR
    have HR2 := Lib.hid hR
    clear NB hR HR HW PX OP HK hnw q1 q2 q3 ct
    go_wp2_with fail
    refine (QN.out _ H1.out.r).mono ?_
    rintro e3 w3 hr
    rcases hr.out1 with ⟨h0, hv, X3⟩ | ⟨h0, rfl, X3⟩
    case inr =>
      have HF := Lib.hid (H1.out.c.more H1.out.f X3.out (fun x hx => .inl (by simpa using hx)))
      clear hr
      go_wp2_with fail
      rw [← HR2.out]
      exact ⟨rfl, HF.out, .inr ⟨h0, rfl⟩⟩
    obtain rfl : e3 = _ := hv
    have H3 := Lib.hid (H1.out.keep X3.out.1 X3.out.2)
    have cp : w3.cell? ⟨w1.heap.size, 2, none⟩ = some (.int .i64 (p : Int)) := cellsN H3.out.z 2 _ rfl
    have FL : Hid (m + 1 ≤ 1000000) := Lib.hid (by omega)
    have hb3 := Lib.hid H3.out.r.blt
    clear hr X3 H1 ck
    go_wp2_with (at_builtin; refine wpList_append_gen elemNode rfl (.tmp 31) (.tmp 37) rfl (b + 1) _ m _ rfl (H3.out.o.2.alloc _) _ 1 (nv ⟨2, 0, (qnameT L s).1.1, (qnameT L s).1.2, -1, -1, p⟩) rfl (node_lit _ ⟨2, 0, (qnameT L s).1.1, (qnameT L s).1.2, -1, -1, p⟩) (nv_one _) (m + 1) rfl FL (by decide) (by have := hb3.out; simp; omega) ?_; intro ao7 c7 w7 hown7 hb7 hg7 ho7; have HA := Lib.hid (And.intro hown7 (And.intro hg7 ho7)); clear hown7 hb7 hg7 ho7)
    go_ret
    have := H3.out.node ⟨2, 0, (qnameT L s).1.1, (qnameT L s).1.2, -1, -1, p⟩ HA.out.1 HA.out.2.1 HA.out.2.2
    rw [← HR2.out]
    exact this
  have hk1' : (kd == 1) = false := by simpa using hk1
  by_cases h45 : tt = [45]
  · subst h45
    have hR := HR.out
    rw [if_pos (.inl (by rw [HW.out.1]; exact decide_eq_true rfl)), if_neg (by decide)] at hR
    have HR2 := Lib.hid hR
    have y1 := tx_list [45]
    clear NB hR HR HW OP HK QN
    go_wp2_with (refine wpList_load_row rfl 52 (.tmp 5) rfl w1.heap.size rfl _ _ _ _ H1.out.z Tryz.underlying52 rfl (tok_info ⟨kd, [45], p⟩) ?_)
    refine (PX.out _ _ m l 3 H1.out.r H1.out.o (by simp) HN.out.1 HN.out.2).mono ?_
    rintro e3 w3 ⟨cc, ⟨h0, ao3, m3, c3, rfl, o3, r3, f3⟩ | ⟨h0, rfl⟩⟩
    · have HF := Lib.hid (And.intro (H1.out.c.more H1.out.f cc (fun x hx => List.mem_cons.1 hx)) (And.intro o3 (And.intro r3 (H1.out.f.trans f3 H1.out.c.size))))
      clear cc o3 r3 f3
      go_wp2_with fail
      go_ret
      rw [← HR2.out]
      exact ⟨HF.out.1, .inl ⟨h0, ao3, m3, c3, rfl, HF.out.2.1, HF.out.2.2.1, HF.out.2.2.2⟩⟩
    · have HF := Lib.hid (H1.out.c.more H1.out.f cc (fun x hx => List.mem_cons.1 hx))
      clear cc
      go_wp2_with fail
      rw [← HR2.out]
      exact ⟨rfl, HF.out, .inr ⟨h0, rfl⟩⟩
  have h45' : (tt == [45]) = false := by simpa using h45
  by_cases h33 : tt = [33]
  · subst h33
    have hR := HR.out
    rw [if_pos (.inr (by rw [HW.out.2.1]; exact decide_eq_true rfl)), if_pos rfl] at hR
    have HR2 := Lib.hid hR
    have y1 := tx_list [33]
    clear NB hR HR HW OP HK QN
    go_wp2_with (refine wpList_load_row rfl 52 (.tmp 5) rfl w1.heap.size rfl _ _ _ _ H1.out.z Tryz.underlying52 rfl (tok_info ⟨kd, [33], p⟩) ?_)
    refine (PX.out _ _ m l 4 H1.out.r H1.out.o (by simp) HN.out.1 HN.out.2).mono ?_
    rintro e3 w3 ⟨cc, ⟨h0, ao3, m3, c3, rfl, o3, r3, f3⟩ | ⟨h0, rfl⟩⟩
    · have HF := Lib.hid (And.intro (H1.out.c.more H1.out.f cc (fun x hx => List.mem_cons.1 hx)) (And.intro o3 (And.intro r3 (H1.out.f.trans f3 H1.out.c.size))))
      clear cc o3 r3 f3
      go_wp2_with fail
      go_ret
      rw [← HR2.out]
      exact ⟨HF.out.1, .inl ⟨h0, ao3, m3, c3, rfl, HF.out.2.1, HF.out.2.2.1, HF.out.2.2.2⟩⟩
    · have HF := Lib.hid (H1.out.c.more H1.out.f cc (fun x hx => List.mem_cons.1 hx))
      clear cc
      go_wp2_with fail
      rw [← HR2.out]
      exact ⟨rfl, HF.out, .inr ⟨h0, rfl⟩⟩
  have h33' : (tt == [33]) = false := by simpa using h33
  have y1 := tx_list tt
  have hR := HR.out
  rw [if_neg (by rw [HW.out.1, HW.out.2.1, decide_eq_false h45, decide_eq_false h33]; simp), if_neg hk2, if_neg hk1] at hR
  clear NB HR PX QN
  go_wp2_with fail
  refine (OP.out _ H1.out.r).mono ?_
  rintro e3 w3 hr
  by_cases h40 : isT L s [40] = true
  · rw [if_pos h40] at hR
    have HR2 := Lib.hid hR
    have hrem := rem_open (L := L) (t := [40]) H1.out.r.e H1.out.r.lt
    have hdp := open_deep HK.out.1 s [40]
    have hge : ∀ s l, Goes L s (exprT L (unaryT L N) N s l).2 := fun s l => expr_goes HK.out.1 (unary_goes HK.out.1 N) N s l
    have HO := Lib.hid (And.intro hrem (And.intro hdp hge))
    rcases hr.out1 with ⟨h0, hv, X3⟩ | ⟨h0, rfl, X3⟩
    case inr =>
      have HF := Lib.hid (H1.out.c.more H1.out.f X3.out (fun x hx => .inl (by simpa using hx)))
      have hx := (HO.out.2.2 (openT L s [40]) l).err h0
      have hy := (want_goes HK.out.1 (openT L s [40]) [41]).err h0
      clear hr hR hrem hdp hge
      go_wp2_with fail
      rw [← HR2.out, hx, hy]
      exact ⟨rfl, HF.out, .inr ⟨h0, rfl⟩⟩
    obtain rfl : e3 = _ := hv
    have H3 := Lib.hid (H1.out.keep X3.out.1 X3.out.2)
    clear hr hR X3 H1 hrem hdp hge ck ct
    go_wp2_with fail
    refine (HK.out.2.2 _ _ _ m l H3.out.r H3.out.o (by have := HO.out.1; have := HN.out.1; omega) (by have := HO.out.1; have := HN.out.2; omega)).mono ?_
    obtain ⟨⟨l4, s4⟩, hq⟩ : ∃ q, exprT L (unaryT L N) N (openT L s [40]) l = q := ⟨_, rfl⟩
    have HG4 := HO.out.2.2 (openT L s [40]) l
    have hR := HR2.out
    rw [hq] at HG4 hR ⊢
    have HR3 := Lib.hid hR
    have HG := Lib.hid HG4
    clear hq HG4 hR HR2
    rintro e4 w4 ⟨cc, ⟨h4, ao4, m4, c4, rfl, o4, r4, f4⟩ | ⟨h4, rfl⟩⟩
    case inr =>
      have HF := Lib.hid (H3.out.c.more H3.out.f cc (fun x hx => List.mem_cons.1 hx))
      have hy := (want_goes HK.out.1 s4 [41]).err h4
      clear cc
      go_wp2_with fail
      rw [← HR3.out]
      try simp only
      rw [hy]
      exact ⟨rfl, HF.out, .inr ⟨h4, rfl⟩⟩
    have H4 := Lib.hid (H3.out.after o4 r4 cc f4)
    clear cc o4 r4 f4 H3
    go_wp2_with fail
    refine (psr_expect w0 _ b L s4 [41] H4.out.r (by decide)).mono ?_
    rintro e5 w5 hr
    rcases hr.out1 with ⟨h5, hv, X5⟩ | ⟨h5, rfl, X5⟩
    case inr =>
      have HF := Lib.hid (H4.out.c.more H4.out.f X5.out (fun x hx => .inl (by simpa using hx)))
      clear hr
      go_wp2_with fail
      rw [← HR3.out]
      exact ⟨rfl, HF.out, .inr ⟨h5, rfl⟩⟩
    obtain rfl : e5 = _ := hv
    have H5 := Lib.hid (H4.out.keep X5.out.1 X5.out.2)
    have hsd : 1 ≤ (wantT L s4 [41]).deep := by
      have := (want_goes HK.out.1 s4 [41]).deep
      have := HG.out.deep
      have := HO.out.2.1
      first | omega | (simp only at *; omega)
    clear hr X5 H4
    go_wp2_with fail
    refine (psr_shut w0 _ b L _ H5.out.r hsd).mono ?_
    rintro e6 w6 hr
    obtain ⟨rfl, X6⟩ := hr.out1
    have H6 := Lib.hid (H5.out.keep X6.out.1 X6.out.2)
    clear hr X6 H5 hsd
    go_wp2_with fail
    go_ret
    rw [← HR3.out]
    exact H6.out.told
  · have h40 : isT L s [40] = false := by simpa using h40
    rw [if_neg (by rw [h40]; simp)] at hR
    have HR2 := Lib.hid hR
    have he := H1.out.r.e
    have ho : openT L s [40] = { s with e := 11, pos := (curT L s).pos, deep := s.deep + 1 } := by
      unfold openT
      simp only
      rw [h40, if_neg (by simp), wantT, h40, if_neg (by simp), failT, if_pos he]
    rw [ho] at hr
    rcases hr.out1 with ⟨h0, hv, X3⟩ | ⟨h0, rfl, X3⟩
    · exact absurd h0 (show ¬ (11 : Int) = 0 by decide)
    · have HF := Lib.hid (H1.out.c.more H1.out.f X3.out (fun x hx => .inl (by simpa using hx)))
      clear hr hR ho
      go_wp2_with fail
      rw [← HR2.out, failT, if_pos he]
      exact ⟨rfl, HF.out, .inr ⟨h0, rfl⟩⟩

theorem cexpr_ok (w0 : World) (b : Nat) (L : List Tk) (hL : TokL L) : ∀ N, ExC 188 (unaryT L N) w0 b L N ∧ ExC 149 (exprT L (unaryT L N) N) w0 b L N := by
  have step : ∀ N, ExC 188 (unaryT L N) w0 b L N → ExC 149 (exprT L (unaryT L N) N) w0 b L N := fun N hU => by
    have gU := unary_goes hL N
    have pU := unary_pot hL N
    have hT : ExC 181 (termT L (unaryT L N) N) w0 b L N := cterm_walk _ w0 b L N gU pU hU
    have gT : ∀ s l, Goes L s (termT L (unaryT L N) N s l).2 := fun s l => opT_goes hL _ gU N s l
    have pT : PotOk L (termT L (unaryT L N) N) := opT_pot hL _ gU pU N
    have hS : ExC 164 (sumT L (unaryT L N) N) w0 b L N := csum_walk _ w0 b L N gT pT hT
    exact ccomp_walk _ w0 b L N (fun s l => opT_goes hL _ gT N s l) (opT_pot hL _ gT pT N) hS
  intro N
  induction N with
  | zero => exact ⟨fun w s v m l _ _ hn => absurd hn (Nat.not_lt_zero _), fun w s v m l _ _ hn => absurd hn (Nat.not_lt_zero _)⟩
  | succ N ih =>
    have hU := cunary_walk w0 b L N hL ih.1 ih.2
    exact ⟨hU, step (N + 1) hU⟩

/-- What an expression from its beginning leaves: nodes in new memory. -/
def NdsC (w : World) (l : List Nd) : World → Ending → Prop := fun w' e => ∃ ao m c, e = .returned (.slice ao m c) ∧ m ≤ 20000 ∧ NodesP w' (fun k => w.heap.size ≤ k ∧ k < w'.heap.size) (.slice ao m c) m l
theorem psr_expr (w0 w : World) (b : Nat) (L : List Tk) (s : PS) (h : Psr w0 w b L s) :
    Calls Tryz.prog 130 #[.pointer (some ⟨b, 0, none⟩)] w (Ends w0 w b L (exprN L s).2 (NdsC w (exprN L s).1)) := by
  have hr := rem_lt (L := L) h.lt
  have hf := h.ok.few
  have hp := expr_pot h.ok (unary_goes h.ok (L.length + 1)) (unary_pot h.ok (L.length + 1)) (L.length + 1) s [] h.lt
  have P := (cexpr_ok w0 b L h.ok (L.length + 1)).2 w s (.slice none 0 0) 0 [] h (OwnN.nil _ _) hr (by simp only [List.length_nil]; omega)
  change Calls _ _ _ _ (ExEnd w0 w b L _ (exprN L s)) at P
  change (exprN L s).1.length + remT L (exprN L s).2 ≤ _ at hp
  have HP := Lib.hid (show (exprN L s).1.length ≤ 20000 by simp only [List.length_nil] at hp; omega)
  generalize exprN L s = R at *
  clear h hr hf hp
  go_enter Tryz.func130, Tryz.ntmps130
  go_wp2_with fail
  refine P.mono ?_
  rintro e w' ⟨hc, ⟨h0, ao, m, c, rfl, h1, h2, h3⟩ | ⟨h0, rfl⟩⟩
  · have hm : m ≤ 20000 := by have := h1.1; have := HP.out; omega
    have hb : ∀ k, (Value.slice ao m c).ownBlock = some k → w.heap.size ≤ k ∧ k < w'.heap.size := fun k hk => ⟨by
      rcases h3 with h3 | h3
      · rw [h3] at hk
        cases hk
      · exact h3 k hk, (h1.2.lt k hk).2⟩
    have HF := Lib.hid (show Ends w0 w b L R.2 (NdsC w R.1) (.returned (.slice ao m c)) w' from ⟨hc.mono (fun x hx => by simpa [rowF, Value.ownBlock] using hx), .inl ⟨h0, h2, ao, m, c, rfl, hm, h1.nodes (by omega) hb⟩⟩)
    clear hc h1 h2 h3 hb
    go_wp2_with fail
    go_ret
    exact HF.out
  · have HF := Lib.hid (show Chg [b] w w' from hc.mono (fun x hx => by simpa [rowF, Value.ownBlock] using hx))
    clear hc
    go_wp2_with fail
    exact ⟨rfl, HF.out, .inr ⟨h0, rfl⟩⟩

end Go.Proofs.YtfcfbdemfbkgmaaGreatDoor
