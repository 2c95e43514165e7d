/- The code's stmt, over block; both whole. Made by wip/tools/gencstm.py. Numbers and types by name. -/
import Derived.Test.YtlgfijjkbomejaaGreatDoorQpm
namespace Go.Proofs.YtlgfijjkbomejaaGreatDoor
open Go.RowKit Go.Lib
set_option maxRecDepth 100000

/-- A statement under way: the parser, its own block, the block of the result, its parts. -/
structure SmAt (w0 w wr : World) (b : Nat) (L : List Tk) (T U : Nat) (h : SH) (vE vA vB vC : Value) (body els : List Stm) (s : PS) : Prop where
  r : Psr w0 wr b L s
  c : Chg [b] w wr
  s : SBlk wr T h vE vA vB vC
  z : SBlk wr U (sh0 0) (.slice none 0 0) (.slice none 0 0) (.slice none 0 0) (.slice none 0 0)
  e : ∃ nE, NodesP wr (NewB w wr T U) vE nE h.e
  a : ∃ nA, ArgsP wr (NewB w wr T U) vA nA h.args
  bo : ∃ nB, StmsP wr (NewB w wr T U) vB nB body
  el : ∃ nC, StmsP wr (NewB w wr T U) vC nC els
  bT : b < T
  bU : b < U
  tu : T ≠ U
  wT : w.heap.size ≤ T
  wU : w.heap.size ≤ U
  bw : b < w.heap.size
section
variable {w0 w wr : World} {b : Nat} {L : List Tk} {T U : Nat} {h : SH} {vE vA vB vC : Value} {body els : List Stm} {s : PS}
theorem SmAt.keep {w1 : World} {s1 : PS} (H : SmAt w0 w wr b L T U h vE vA vB vC body els s) (hr : Psr w0 w1 b L s1) (hc : Chg [b] wr w1) : SmAt w0 w w1 b L T U h vE vA vB vC body els s1 := by
  have hbw := H.bw
  have hP : ∀ k, NewB w wr T U k → k ∉ [b] := fun k hk hm => by
    simp only [List.mem_singleton] at hm
    have := hk.1
    omega
  have hQ : ∀ k, NewB w wr T U k → NewB w w1 T U k := fun k hk => hk.mono hc.size
  obtain ⟨nE, he⟩ := H.e
  obtain ⟨nA, ha⟩ := H.a
  obtain ⟨nB, hb⟩ := H.bo
  obtain ⟨nC, hl⟩ := H.el
  exact ⟨hr, H.c.trans hc, H.s.chg hc (by simp only [List.mem_singleton]; have := H.bT; omega), H.z.chg hc (by simp only [List.mem_singleton]; have := H.bU; omega), ⟨nE, he.chg hc hP hQ⟩, ⟨nA, ha.chg hc hP hQ⟩, ⟨nB, hb.chg hc hP hQ⟩, ⟨nC, hl.chg hc hP hQ⟩, H.bT, H.bU, H.tu, H.wT, H.wU, hbw⟩
theorem SmAt.put {h' : SH} {vE' vA' vB' vC' : Value} {body' els' : List Stm} (H : SmAt w0 w wr b L T U h vE vA vB vC body els s) (j : Nat) (v : Value) (e : (stmHead h vE vA vB vC).toArray.setIfInBounds j v = (stmHead h' vE' vA' vB' vC').toArray)
    (he : ∃ nE, NodesP wr (NewB w wr T U) vE' nE h'.e) (ha : ∃ nA, ArgsP wr (NewB w wr T U) vA' nA h'.args) (hb : ∃ nB, StmsP wr (NewB w wr T U) vB' nB body') (hl : ∃ nC, StmsP wr (NewB w wr T U) vC' nC els') :
    SmAt w0 w (wr.setCell ⟨T, j, none⟩ v) b L T U h' vE' vA' vB' vC' body' els' s := by
  have hc : Chg [T] wr (wr.setCell ⟨T, j, none⟩ v) := (Chg.refl [T] wr).set (.inl (by simp)) j v
  have hP : ∀ k, NewB w wr T U k → k ∉ [T] := fun k hk hm => hk.2.2.1 (by simpa using hm)
  have hQ : ∀ k, NewB w wr T U k → NewB w (wr.setCell ⟨T, j, none⟩ v) T U k := fun k hk => hk.mono hc.size
  obtain ⟨nE, he⟩ := he
  obtain ⟨nA, ha⟩ := ha
  obtain ⟨nB, hb⟩ := hb
  obtain ⟨nC, hl⟩ := hl
  have hbT := H.bT
  exact ⟨H.r.chg hc (fun x hx => by simp only [List.mem_singleton] at hx; omega), H.c.trans' hc (fun x hx => by simp only [List.mem_singleton] at hx; subst hx; exact .inr H.wT), H.s.set j v e, H.z.chg hc (by simp only [List.mem_singleton]; exact fun h => H.tu h.symm), ⟨nE, he.chg hc hP hQ⟩, ⟨nA, ha.chg hc hP hQ⟩, ⟨nB, hb.chg hc hP hQ⟩, ⟨nC, hl.chg hc hP hQ⟩, hbT, H.bU, H.tu, H.wT, H.wU, H.bw⟩
theorem SmAt.newB {w1 : World} (H : SmAt w0 w wr b L T U h vE vA vB vC body els s) {k : Nat} (hk : wr.heap.size ≤ k ∧ k < w1.heap.size) : NewB w w1 T U k :=
  ⟨Nat.le_trans H.c.size hk.1, hk.2, by have := H.s.lt; omega, by have := H.z.lt; omega⟩
theorem SmAt.nodes {w1 : World} {v : Value} {m : Nat} {l : List Nd} (H : SmAt w0 w wr b L T U h vE vA vB vC body els s) (o : NodesP w1 (fun k => wr.heap.size ≤ k ∧ k < w1.heap.size) v m l) : ∃ nE, NodesP w1 (NewB w w1 T U) v nE l :=
  ⟨m, o.chg (Chg.refl [] w1) (fun _ _ h => by cases h) fun k hk => H.newB hk⟩
theorem SmAt.stms {w1 : World} {v : Value} {m : Nat} {l : List Stm} (H : SmAt w0 w wr b L T U h vE vA vB vC body els s) (o : RowsP w1 (NewW wr w1) 12 (StmV w1 (NewW wr w1)) v m l) : ∃ nB, StmsP w1 (NewB w w1 T U) v nB l :=
  ⟨m, StmsP.chg (P := NewW wr w1) o (Chg.refl [] w1) (fun _ _ h => by cases h) fun k hk => H.newB hk⟩
/-- Behind simple. -/
theorem SmAt.simple {w1 : World} {h' : SH} {vE' vA' : Value} {s1 : PS} (H : SmAt w0 w wr b L T U h vE vA (.slice none 0 0) (.slice none 0 0) [] [] s) (k : SvAt w0 wr w1 b L T h' vE' vA' s1) : SmAt w0 w w1 b L T U h' vE' vA' (.slice none 0 0) (.slice none 0 0) [] [] s1 := by
  obtain ⟨nE, he⟩ := k.e
  obtain ⟨nA, ha⟩ := k.a
  have hT := H.s.lt
  have hU := H.z.lt
  have hbU := H.bU
  have hQ : ∀ k, NewW wr w1 k → NewB w w1 T U k := fun k hk => H.newB hk
  exact ⟨k.r, H.c.trans' k.c (fun x hx => by simp only [List.mem_cons, List.not_mem_nil, or_false] at hx; rcases hx with rfl | rfl; exact .inl (by simp); exact .inr H.wT), k.z, H.z.chg k.c (by simp only [List.mem_cons, List.not_mem_nil, or_false, not_or]; exact ⟨by omega, fun h => H.tu h.symm⟩), ⟨nE, he.chg (Chg.refl [] w1) (fun _ _ h => by cases h) hQ⟩, ⟨nA, ha.chg (Chg.refl [] w1) (fun _ _ h => by cases h) hQ⟩, ⟨0, RowsP.nil _ _ _ _⟩, ⟨0, RowsP.nil _ _ _ _⟩, H.bT, hbU, H.tu, H.wT, H.wU, H.bw⟩
theorem SmAt.fell {w1 : World} (H : SmAt w0 w wr b L T U h vE vA vB vC body els s) (hc : Chg [b, T] wr w1) : Chg [b] w w1 :=
  H.c.trans' hc (fun x hx => by simp only [List.mem_cons, List.not_mem_nil, or_false] at hx; rcases hx with rfl | rfl; exact .inl (by simp); exact .inr H.wT)
theorem SmAt.told (H : SmAt w0 w wr b L T U h vE vA vB vC body els s) : Psr w0 (wr.setRow U (stmHead h vE vA vB vC).toArray) b L s ∧ Chg [b] w (wr.setRow U (stmHead h vE vA vB vC).toArray) ∧ StmV (wr.setRow U (stmHead h vE vA vB vC).toArray) (NewW w (wr.setRow U (stmHead h vE vA vB vC).toArray)) (.mk h body els) (stmHead h vE vA vB vC) := by
  have hc : Chg [U] wr (wr.setRow U (stmHead h vE vA vB vC).toArray) := ⟨rfl, rfl, rfl, by simp, fun k _ hk => setRow_other wr U k _ (by simpa using hk)⟩
  have hP : ∀ k, NewB w wr T U k → k ∉ [U] := fun k hk hm => hk.2.2.2 (by simpa using hm)
  have hQ : ∀ k, NewB w wr T U k → w.heap.size ≤ k ∧ k < (wr.setRow U (stmHead h vE vA vB vC).toArray).heap.size := fun k hk => ⟨hk.1, by simpa using hk.2.1⟩
  obtain ⟨nE, he⟩ := H.e
  obtain ⟨nA, ha⟩ := H.a
  obtain ⟨nB, hb⟩ := H.bo
  obtain ⟨nC, hl⟩ := H.el
  have hbU := H.bU
  refine ⟨H.r.setRow hbU _, H.c.setRow (.inr H.wU) _, ?_⟩
  rw [StmV.iff]
  exact ⟨vE, nE, vA, nA, vB, nB, vC, nC, rfl, he.chg hc hP hQ, ha.chg hc hP hQ, hb.chg hc hP hQ, hl.chg hc hP hQ⟩
theorem SmAt.ones (H : SmAt w0 w wr b L T U h vE vA vB vC body els s) : (stmHead h vE vA vB vC).toArray.all (·.oneCell') = true := by
  obtain ⟨nE, he⟩ := H.e
  obtain ⟨nA, ha⟩ := H.a
  obtain ⟨nB, hb⟩ := H.bo
  obtain ⟨nC, hl⟩ := H.el
  obtain ⟨_, _, rfl⟩ := he.shape
  obtain ⟨_, _, rfl⟩ := ha.shape
  obtain ⟨_, _, rfl⟩ := hb.shape
  obtain ⟨_, _, rfl⟩ := hl.shape
  rw [Array.all_eq_true_iff_forall_mem]
  intro v hv
  have hv' := hv
  simp only [stmHead, List.mem_toArray, List.mem_cons, List.not_mem_nil, or_false] at hv'
  rcases hv' with rfl | rfl | rfl | rfl | rfl | rfl | rfl | rfl | rfl | rfl | rfl | rfl <;> rfl
end

theorem isT_two {L : List Tk} {s : PS} {t u : List UInt8} (h : isT L s t = true) (hne : t ≠ u) : isT L s u = false := by
  cases hu : isT L s u with
  | false => rfl
  | true => exact absurd ((isT_e h).2.2.symm.trans (isT_e hu).2.2) hne
theorem isT_kind {L : List Tk} {s : PS} {t : List UInt8} (h : isT L s t = true) : ¬ (s.e = 0 ∧ (curT L s).kind = 1) := fun hk => by
  rcases (isT_e h).2.1 with e | e <;> rw [e] at hk <;> exact absurd hk.2 (by decide)
theorem stmt_if {L : List Tk} {s : PS} (N : Nat) (h : isT L s kIf = true) : stmtT L (N + 1) s =
    (if isT L (blockT L (stmtT L N) N (exprN L s.go).2).2 kElse = true then (.mk { sh0 (curT L s).pos with kind := 5, e := (exprN L s.go).1 } (blockT L (stmtT L N) N (exprN L s.go).2).1 (blockT L (stmtT L N) N (blockT L (stmtT L N) N (exprN L s.go).2).2.go).1, (blockT L (stmtT L N) N (blockT L (stmtT L N) N (exprN L s.go).2).2.go).2)
    else (.mk { sh0 (curT L s).pos with kind := 5, e := (exprN L s.go).1 } (blockT L (stmtT L N) N (exprN L s.go).2).1 [], (blockT L (stmtT L N) N (exprN L s.go).2).2)) := by
  conv => lhs; unfold stmtT
  simp only
  rw [if_neg (isT_kind h), isT_two h (u := kLet) (by decide), isT_two h (u := kResult) (by decide), isT_two h (u := kCall) (by decide), isT_two h (u := kEmit) (by decide), isT_two h (u := kSkip) (by decide), h]
  simp
theorem stmt_while {L : List Tk} {s : PS} (N : Nat) (h : isT L s kWhile = true) : stmtT L (N + 1) s =
    (.mk { sh0 (curT L s).pos with kind := 6, e := (exprN L s.go).1 } (blockT L (stmtT L N) N (exprN L s.go).2).1 [], (blockT L (stmtT L N) N (exprN L s.go).2).2) := by
  conv => lhs; unfold stmtT
  simp only
  rw [if_neg (isT_kind h), isT_two h (u := kLet) (by decide), isT_two h (u := kResult) (by decide), isT_two h (u := kCall) (by decide), isT_two h (u := kEmit) (by decide), isT_two h (u := kSkip) (by decide), isT_two h (u := kIf) (by decide), h]
  simp
/-- All others: so, or it fails alike. -/
theorem stmt_simple {L : List Tk} {s : PS} (hL : TokL L) (N : Nat) (he : s.e = 0) (h1 : isT L s kIf = false) (h2 : isT L s kWhile = false) :
    (stmtT L (N + 1) s).2 = (endT L (simpleT L s (curT L s).pos)).2 ∧ ((stmtT L (N + 1) s).2.e = 0 → stmtT L (N + 1) s = endT L (simpleT L s (curT L s).pos)) := by
  by_cases hk : (curT L s).kind = 1
  · have hn : ∀ t, isT L s t = false := fun t => by
      unfold isT
      rw [hk]
      simp
    have e : stmtT L (N + 1) s = endT L (simpleT L s (curT L s).pos) := by
      conv => lhs; unfold stmtT
      unfold simpleT
      simp only
      rw [if_pos ⟨he, hk⟩, hn, hn, hn, hn, hn]
      simp
    exact ⟨by rw [e], fun _ => e⟩
  · by_cases hw : isT L s kLet = true ∨ isT L s kResult = true ∨ isT L s kCall = true ∨ isT L s kEmit = true ∨ isT L s kSkip = true
    · have e : stmtT L (N + 1) s = endT L (simpleT L s (curT L s).pos) := by
        conv => lhs; unfold stmtT
        unfold simpleT
        simp only
        rw [if_neg (fun h => hk h.2)]
        by_cases q1 : isT L s kLet = true
        · rw [if_pos q1, if_pos q1]
        rw [if_neg q1, if_neg q1]
        by_cases q2 : isT L s kResult = true
        · rw [if_pos q2, if_pos q2]
        rw [if_neg q2, if_neg q2]
        by_cases q3 : isT L s kCall = true
        · rw [if_pos q3, if_pos q3]
        rw [if_neg q3, if_neg q3]
        by_cases q4 : isT L s kEmit = true
        · rw [if_pos q4, if_pos q4]
        rw [if_neg q4, if_neg q4]
        by_cases q5 : isT L s kSkip = true
        · rw [if_pos q5, if_pos q5]
        exact absurd hw (by simp [q1, q2, q3, q4, q5])
      exact ⟨by rw [e], fun _ => e⟩
    · simp only [not_or, Bool.not_eq_true] at hw
      obtain ⟨q1, q2, q3, q4, q5⟩ := hw
      have e1 : stmtT L (N + 1) s = (.mk (sh0 (curT L s).pos) [] [], failT L s 11) := by
        conv => lhs; unfold stmtT
        simp only
        rw [if_neg (fun h => hk h.2), q1, q2, q3, q4, q5, h1, h2]
        simp
      have hf : (failT L s 11).e ≠ 0 := fail_e (by decide)
      have e2 : (setT L s (curT L s).pos).2 = failT L s 11 := by
        rw [set_is]
        have hq : (qnameT L s).2 = failT L s 11 := by
          have hn : nameT L s = ([], failT L s 11) := by
            unfold nameT
            rw [if_pos (.inr hk)]
          unfold qnameT
          simp only
          rw [hn]
          simp only
          rw [isT_err hf]
          simp
        simp only
        rw [hq]
        exact (value_goes hL _).err hf
      have e3 : (endT L (simpleT L s (curT L s).pos)).2 = failT L s 11 := by
        unfold simpleT endT
        rw [q1, q2, q3, q4, q5]
        simp only [Bool.false_eq_true, if_false]
        rw [e2]
        exact want_err hf _
      rw [e1, e3]
      exact ⟨rfl, fun h => absurd h hf⟩

end Go.Proofs.YtlgfijjkbomejaaGreatDoor
