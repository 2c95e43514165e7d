/- The code's stmt, over block; both whole. Made by wip/tools/gencstm.py. Numbers and types by name. -/
import Derived.Test.YtfcfbdemfbkgmaaDoorQpm
namespace Go.Proofs.YtfcfbdemfbkgmaaDoor
open Go.RowKit Go.Lib
set_option maxRecDepth 100000

/-- A statement under way: the parser, its own block, the block of the result, its parts. -/
structure SmAt (w0 w wr : World) (b : Nat) (L : List Tk) (T U : Nat) (h : SH) (vE vA vB vC : Value) (body els : List Stm) (s : PS) : Prop where
  r : Psr w0 wr b L s
  c : Chg [b] w wr
  s : SBlk wr T h vE vA vB vC
  z : SBlk wr U (sh0 0) (.slice none 0 0) (.slice none 0 0) (.slice none 0 0) (.slice none 0 0)
  e : ∃ nE, NodesP wr (NewB w wr T U) vE nE h.e
  a : ∃ nA, ArgsP wr (NewB w wr T U) vA nA h.args
  bo : ∃ nB, StmsP wr (NewB w wr T U) vB nB body
  el : ∃ nC, StmsP wr (NewB w wr T U) vC nC els
  bT : b < T
  bU : b < U
  tu : T ≠ U
  wT : w.heap.size ≤ T
  wU : w.heap.size ≤ U
  bw : b < w.heap.size
section
variable {w0 w wr : World} {b : Nat} {L : List Tk} {T U : Nat} {h : SH} {vE vA vB vC : Value} {body els : List Stm} {s : PS}
theorem SmAt.keep {w1 : World} {s1 : PS} (H : SmAt w0 w wr b L T U h vE vA vB vC body els s) (hr : Psr w0 w1 b L s1) (hc : Chg [b] wr w1) : SmAt w0 w w1 b L T U h vE vA vB vC body els s1 := by
  have hbw := H.bw
  have hP : ∀ k, NewB w wr T U k → k ∉ [b] := fun k hk hm => by
    simp only [List.mem_singleton] at hm
    have := hk.1
    omega
  have hQ : ∀ k, NewB w wr T U k → NewB w w1 T U k := fun k hk => hk.mono hc.size
  obtain ⟨nE, he⟩ := H.e
  obtain ⟨nA, ha⟩ := H.a
  obtain ⟨nB, hb⟩ := H.bo
  obtain ⟨nC, hl⟩ := H.el
  exact ⟨hr, H.c.trans hc, H.s.chg hc (by simp only [List.mem_singleton]; have := H.bT; omega), H.z.chg hc (by simp only [List.mem_singleton]; have := H.bU; omega), ⟨nE, he.chg hc hP hQ⟩, ⟨nA, ha.chg hc hP hQ⟩, ⟨nB, hb.chg hc hP hQ⟩, ⟨nC, hl.chg hc hP hQ⟩, H.bT, H.bU, H.tu, H.wT, H.wU, hbw⟩
theorem SmAt.put {h' : SH} {vE' vA' vB' vC' : Value} {body' els' : List Stm} (H : SmAt w0 w wr b L T U h vE vA vB vC body els s) (j : Nat) (v : Value) (e : (stmHead h vE vA vB vC).toArray.setIfInBounds j v = (stmHead h' vE' vA' vB' vC').toArray)
    (he : ∃ nE, NodesP wr (NewB w wr T U) vE' nE h'.e) (ha : ∃ nA, ArgsP wr (NewB w wr T U) vA' nA h'.args) (hb : ∃ nB, StmsP wr (NewB w wr T U) vB' nB body') (hl : ∃ nC, StmsP wr (NewB w wr T U) vC' nC els') :
    SmAt w0 w (wr.setCell ⟨T, j, none⟩ v) b L T U h' vE' vA' vB' vC' body' els' s := by
  have hc : Chg [T] wr (wr.setCell ⟨T, j, none⟩ v) := (Chg.refl [T] wr).set (.inl (by simp)) j v
  have hP : ∀ k, NewB w wr T U k → k ∉ [T] := fun k hk hm => hk.2.2.1 (by simpa using hm)
  have hQ : ∀ k, NewB w wr T U k → NewB w (wr.setCell ⟨T, j, none⟩ v) T U k := fun k hk => hk.mono hc.size
  obtain ⟨nE, he⟩ := he
  obtain ⟨nA, ha⟩ := ha
  obtain ⟨nB, hb⟩ := hb
  obtain ⟨nC, hl⟩ := hl
  have hbT := H.bT
  exact ⟨H.r.chg hc (fun x hx => by simp only [List.mem_singleton] at hx; omega), H.c.trans' hc (fun x hx => by simp only [List.mem_singleton] at hx; subst hx; exact .inr H.wT), H.s.set j v e, H.z.chg hc (by simp only [List.mem_singleton]; exact fun h => H.tu h.symm), ⟨nE, he.chg hc hP hQ⟩, ⟨nA, ha.chg hc hP hQ⟩, ⟨nB, hb.chg hc hP hQ⟩, ⟨nC, hl.chg hc hP hQ⟩, hbT, H.bU, H.tu, H.wT, H.wU, H.bw⟩
theorem SmAt.newB {w1 : World} (H : SmAt w0 w wr b L T U h vE vA vB vC body els s) {k : Nat} (hk : wr.heap.size ≤ k ∧ k < w1.heap.size) : NewB w w1 T U k :=
  ⟨Nat.le_trans H.c.size hk.1, hk.2, by have := H.s.lt; omega, by have := H.z.lt; omega⟩
theorem SmAt.nodes {w1 : World} {v : Value} {m : Nat} {l : List Nd} (H : SmAt w0 w wr b L T U h vE vA vB vC body els s) (o : NodesP w1 (fun k => wr.heap.size ≤ k ∧ k < w1.heap.size) v m l) : ∃ nE, NodesP w1 (NewB w w1 T U) v nE l :=
  ⟨m, o.chg (Chg.refl [] w1) (fun _ _ h => by cases h) fun k hk => H.newB hk⟩
theorem SmAt.stms {w1 : World} {v : Value} {m : Nat} {l : List Stm} (H : SmAt w0 w wr b L T U h vE vA vB vC body els s) (o : RowsP w1 (NewW wr w1) 12 (StmV w1 (NewW wr w1)) v m l) : ∃ nB, StmsP w1 (NewB w w1 T U) v nB l :=
  ⟨m, StmsP.chg (P := NewW wr w1) o (Chg.refl [] w1) (fun _ _ h => by cases h) fun k hk => H.newB hk⟩
/-- Behind simple. -/
theorem SmAt.simple {w1 : World} {h' : SH} {vE' vA' : Value} {s1 : PS} (H : SmAt w0 w wr b L T U h vE vA (.slice none 0 0) (.slice none 0 0) [] [] s) (k : SvAt w0 wr w1 b L T h' vE' vA' s1) : SmAt w0 w w1 b L T U h' vE' vA' (.slice none 0 0) (.slice none 0 0) [] [] s1 := by
  obtain ⟨nE, he⟩ := k.e
  obtain ⟨nA, ha⟩ := k.a
  have hT := H.s.lt
  have hU := H.z.lt
  have hbU := H.bU
  have hQ : ∀ k, NewW wr w1 k → NewB w w1 T U k := fun k hk => H.newB hk
  exact ⟨k.r, H.c.trans' k.c (fun x hx => by simp only [List.mem_cons, List.not_mem_nil, or_false] at hx; rcases hx with rfl | rfl; exact .inl (by simp); exact .inr H.wT), k.z, H.z.chg k.c (by simp only [List.mem_cons, List.not_mem_nil, or_false, not_or]; exact ⟨by omega, fun h => H.tu h.symm⟩), ⟨nE, he.chg (Chg.refl [] w1) (fun _ _ h => by cases h) hQ⟩, ⟨nA, ha.chg (Chg.refl [] w1) (fun _ _ h => by cases h) hQ⟩, ⟨0, RowsP.nil _ _ _ _⟩, ⟨0, RowsP.nil _ _ _ _⟩, H.bT, hbU, H.tu, H.wT, H.wU, H.bw⟩
theorem SmAt.fell {w1 : World} (H : SmAt w0 w wr b L T U h vE vA vB vC body els s) (hc : Chg [b, T] wr w1) : Chg [b] w w1 :=
  H.c.trans' hc (fun x hx => by simp only [List.mem_cons, List.not_mem_nil, or_false] at hx; rcases hx with rfl | rfl; exact .inl (by simp); exact .inr H.wT)
theorem SmAt.out {w1 : World} {s1 : PS} {V : World → Ending → Prop} {e : Ending} (H : SmAt w0 w wr b L T U h vE vA vB vC body els s) (k : Ends w0 wr b L s1 V e w1) : (s1.e = 0 ∧ V w1 e ∧ Hid (SmAt w0 w w1 b L T U h vE vA vB vC body els s1)) ∨ (s1.e ≠ 0 ∧ e = Pnk s1 ∧ Hid (Chg [b] w w1)) := by
  obtain ⟨hc, ⟨h0, h1, h2⟩ | ⟨h0, h1⟩⟩ := k
  · exact .inl ⟨h0, h2, Lib.hid (H.keep h1 hc)⟩
  · exact .inr ⟨h0, h1, Lib.hid (H.c.trans hc)⟩
theorem SmAt.told (H : SmAt w0 w wr b L T U h vE vA vB vC body els s) : Psr w0 (wr.setRow U (stmHead h vE vA vB vC).toArray) b L s ∧ Chg [b] w (wr.setRow U (stmHead h vE vA vB vC).toArray) ∧ StmV (wr.setRow U (stmHead h vE vA vB vC).toArray) (NewW w (wr.setRow U (stmHead h vE vA vB vC).toArray)) (.mk h body els) (stmHead h vE vA vB vC) := by
  have hc : Chg [U] wr (wr.setRow U (stmHead h vE vA vB vC).toArray) := ⟨rfl, rfl, rfl, by simp, fun k _ hk => setRow_other wr U k _ (by simpa using hk)⟩
  have hP : ∀ k, NewB w wr T U k → k ∉ [U] := fun k hk hm => hk.2.2.2 (by simpa using hm)
  have hQ : ∀ k, NewB w wr T U k → w.heap.size ≤ k ∧ k < (wr.setRow U (stmHead h vE vA vB vC).toArray).heap.size := fun k hk => ⟨hk.1, by simpa using hk.2.1⟩
  obtain ⟨nE, he⟩ := H.e
  obtain ⟨nA, ha⟩ := H.a
  obtain ⟨nB, hb⟩ := H.bo
  obtain ⟨nC, hl⟩ := H.el
  have hbU := H.bU
  refine ⟨H.r.setRow hbU _, H.c.setRow (.inr H.wU) _, ?_⟩
  rw [StmV.iff]
  exact ⟨vE, nE, vA, nA, vB, nB, vC, nC, rfl, he.chg hc hP hQ, ha.chg hc hP hQ, hb.chg hc hP hQ, hl.chg hc hP hQ⟩
theorem SmAt.ones (H : SmAt w0 w wr b L T U h vE vA vB vC body els s) : (stmHead h vE vA vB vC).toArray.all (·.oneCell') = true := by
  obtain ⟨nE, he⟩ := H.e
  obtain ⟨nA, ha⟩ := H.a
  obtain ⟨nB, hb⟩ := H.bo
  obtain ⟨nC, hl⟩ := H.el
  obtain ⟨_, _, rfl⟩ := he.shape
  obtain ⟨_, _, rfl⟩ := ha.shape
  obtain ⟨_, _, rfl⟩ := hb.shape
  obtain ⟨_, _, rfl⟩ := hl.shape
  rw [Array.all_eq_true_iff_forall_mem]
  intro v hv
  have hv' := hv
  simp only [stmHead, List.mem_toArray, List.mem_cons, List.not_mem_nil, or_false] at hv'
  rcases hv' with rfl | rfl | rfl | rfl | rfl | rfl | rfl | rfl | rfl | rfl | rfl | rfl <;> rfl
end

theorem isT_two {L : List Tk} {s : PS} {t u : List UInt8} (h : isT L s t = true) (hne : t ≠ u) : isT L s u = false := by
  cases hu : isT L s u with
  | false => rfl
  | true => exact absurd ((isT_e h).2.2.symm.trans (isT_e hu).2.2) hne
theorem isT_kind {L : List Tk} {s : PS} {t : List UInt8} (h : isT L s t = true) : ¬ (s.e = 0 ∧ (curT L s).kind = 1) := fun hk => by
  rcases (isT_e h).2.1 with e | e <;> rw [e] at hk <;> exact absurd hk.2 (by decide)
theorem stmt_if {L : List Tk} {s : PS} (N : Nat) (h : isT L s kIf = true) : stmtT L (N + 1) s =
    (if isT L (blockT L (stmtT L N) N (exprN L s.go).2).2 kElse = true then (.mk { sh0 (curT L s).pos with kind := 5, e := (exprN L s.go).1 } (blockT L (stmtT L N) N (exprN L s.go).2).1 (blockT L (stmtT L N) N (blockT L (stmtT L N) N (exprN L s.go).2).2.go).1, (blockT L (stmtT L N) N (blockT L (stmtT L N) N (exprN L s.go).2).2.go).2)
    else (.mk { sh0 (curT L s).pos with kind := 5, e := (exprN L s.go).1 } (blockT L (stmtT L N) N (exprN L s.go).2).1 [], (blockT L (stmtT L N) N (exprN L s.go).2).2)) := by
  conv => lhs; unfold stmtT
  simp only
  rw [if_neg (isT_kind h), isT_two h (u := kLet) (by decide), isT_two h (u := kResult) (by decide), isT_two h (u := kCall) (by decide), isT_two h (u := kEmit) (by decide), isT_two h (u := kSkip) (by decide), h]
  simp
theorem stmt_while {L : List Tk} {s : PS} (N : Nat) (h : isT L s kWhile = true) : stmtT L (N + 1) s =
    (.mk { sh0 (curT L s).pos with kind := 6, e := (exprN L s.go).1 } (blockT L (stmtT L N) N (exprN L s.go).2).1 [], (blockT L (stmtT L N) N (exprN L s.go).2).2) := by
  conv => lhs; unfold stmtT
  simp only
  rw [if_neg (isT_kind h), isT_two h (u := kLet) (by decide), isT_two h (u := kResult) (by decide), isT_two h (u := kCall) (by decide), isT_two h (u := kEmit) (by decide), isT_two h (u := kSkip) (by decide), isT_two h (u := kIf) (by decide), h]
  simp
/-- All others: so, or it fails alike. -/
theorem stmt_simple {L : List Tk} {s : PS} (hL : TokL L) (N : Nat) (he : s.e = 0) (h1 : isT L s kIf = false) (h2 : isT L s kWhile = false) :
    (stmtT L (N + 1) s).2 = (endT L (simpleT L s (curT L s).pos)).2 ∧ ((stmtT L (N + 1) s).2.e = 0 → stmtT L (N + 1) s = endT L (simpleT L s (curT L s).pos)) := by
  by_cases hk : (curT L s).kind = 1
  · have hn : ∀ t, isT L s t = false := fun t => by
      unfold isT
      rw [hk]
      simp
    have e : stmtT L (N + 1) s = endT L (simpleT L s (curT L s).pos) := by
      conv => lhs; unfold stmtT
      unfold simpleT
      simp only
      rw [if_pos ⟨he, hk⟩, hn, hn, hn, hn, hn]
      simp
    exact ⟨by rw [e], fun _ => e⟩
  · by_cases hw : isT L s kLet = true ∨ isT L s kResult = true ∨ isT L s kCall = true ∨ isT L s kEmit = true ∨ isT L s kSkip = true
    · have e : stmtT L (N + 1) s = endT L (simpleT L s (curT L s).pos) := by
        conv => lhs; unfold stmtT
        unfold simpleT
        simp only
        rw [if_neg (fun h => hk h.2)]
        by_cases q1 : isT L s kLet = true
        · rw [if_pos q1, if_pos q1]
        rw [if_neg q1, if_neg q1]
        by_cases q2 : isT L s kResult = true
        · rw [if_pos q2, if_pos q2]
        rw [if_neg q2, if_neg q2]
        by_cases q3 : isT L s kCall = true
        · rw [if_pos q3, if_pos q3]
        rw [if_neg q3, if_neg q3]
        by_cases q4 : isT L s kEmit = true
        · rw [if_pos q4, if_pos q4]
        rw [if_neg q4, if_neg q4]
        by_cases q5 : isT L s kSkip = true
        · rw [if_pos q5, if_pos q5]
        exact absurd hw (by simp [q1, q2, q3, q4, q5])
      exact ⟨by rw [e], fun _ => e⟩
    · simp only [not_or, Bool.not_eq_true] at hw
      obtain ⟨q1, q2, q3, q4, q5⟩ := hw
      have e1 : stmtT L (N + 1) s = (.mk (sh0 (curT L s).pos) [] [], failT L s 11) := by
        conv => lhs; unfold stmtT
        simp only
        rw [if_neg (fun h => hk h.2), q1, q2, q3, q4, q5, h1, h2]
        simp
      have hf : (failT L s 11).e ≠ 0 := fail_e (by decide)
      have e2 : (setT L s (curT L s).pos).2 = failT L s 11 := by
        rw [set_is]
        have hq : (qnameT L s).2 = failT L s 11 := by
          have hn : nameT L s = ([], failT L s 11) := by
            unfold nameT
            rw [if_pos (.inr hk)]
          unfold qnameT
          simp only
          rw [hn]
          simp only
          rw [isT_err hf]
          simp
        simp only
        rw [hq]
        exact (value_goes hL _).err hf
      have e3 : (endT L (simpleT L s (curT L s).pos)).2 = failT L s 11 := by
        unfold simpleT endT
        rw [q1, q2, q3, q4, q5]
        simp only [Bool.false_eq_true, if_false]
        rw [e2]
        exact want_err hf _
      rw [e1, e3]
      exact ⟨rfl, fun h => absurd h hf⟩

set_option maxHeartbeats 8000000 in
theorem cstmt_walk (w0 : World) (b : Nat) (L : List Tk) (N : Nat) (hL : TokL L) (KB : BlC w0 b L N) : StC' w0 b L (N + 1) := by
  intro w s hr hn
  obtain ⟨R, hR⟩ : ∃ R, stmtT L (N + 1) s = R := ⟨_, rfl⟩
  rw [hR]
  have HR := Lib.hid hR
  have he := hr.e
  have HK := Lib.hid (And.intro hL (And.intro he hn))
  have hbw := hr.blt
  have hwa : Psr w0 (w.alloc (.cells (stmHead (sh0 0) (.slice none 0 0) (.slice none 0 0) (.slice none 0 0) (.slice none 0 0)).toArray 88)) b L s := hr.chg (F := []) ((Chg.refl _ _).alloc _) (fun x hx => by cases hx)
  have P := psr_peek w0 _ b L s hwa
  have f2 := tok_pos (curT L s)
  unfold BlC at KB
  have hbg : ∀ s, Goes L s (blockT L (stmtT L N) N s).2 := fun s => block_goes hL (stmt_goes hL N) N s
  have SI := Lib.hid (fun h1 h2 => stmt_simple (L := L) (s := s) hL N he h1 h2)
  have SF := Lib.hid (fun h1 => stmt_if (L := L) (s := s) N h1)
  have SW := Lib.hid (fun h1 => stmt_while (L := L) (s := s) N h1)
  rw [hR] at SI SF SW
  unfold tokV at P
  obtain ⟨p, hp⟩ : ∃ p, (curT L s).pos = p := ⟨_, rfl⟩
  rw [hp] at P f2 SI SF SW
  generalize (curT L s).kind = kd at *
  generalize (curT L s).text = tt at *
  generalize blockT L (stmtT L N) N = B at *
  have KBH := Lib.hid (And.intro KB hbg)
  clear hR KB hL hn hr hwa hp hbg he HR
  obtain ⟨U, hU⟩ : ∃ U, w.heap.size = U := ⟨_, rfl⟩
  go_enter Tryd.func52, Tryd.ntmps52
  go_wp2_with fail
  refine P.mono ?_
  rintro e1 w1 hr
  obtain ⟨rfl, H1⟩ := hr.out1
  clear hr P
  have h0 : SmAt w0 w (w1.alloc (.cells #[.int .i64 0, .int .i64 (p : Int), .string ⟨#[]⟩, .string ⟨#[]⟩, .string ⟨#[]⟩, .bool false, .string ⟨#[]⟩, .string ⟨#[]⟩, .slice none 0 0, .slice none 0 0, .slice none 0 0, .slice none 0 0] 88)) b L w1.heap.size U (sh0 p) (.slice none 0 0) (.slice none 0 0) (.slice none 0 0) (.slice none 0 0) [] [] s := by
    have hs1 := H1.out.2.size
    simp only [World.size_alloc] at hs1
    rw [← hU]
    have hz : SBlk w1 w.heap.size (sh0 0) (.slice none 0 0) (.slice none 0 0) (.slice none 0 0) (.slice none 0 0) := (show SBlk (w.alloc _) w.heap.size _ _ _ _ _ from heap_alloc_new w _).chg H1.out.2 (by simp only [List.mem_singleton]; omega)
    have hca : Chg [] w1 (w1.alloc (.cells #[.int .i64 0, .int .i64 (p : Int), .string ⟨#[]⟩, .string ⟨#[]⟩, .string ⟨#[]⟩, .bool false, .string ⟨#[]⟩, .string ⟨#[]⟩, .slice none 0 0, .slice none 0 0, .slice none 0 0, .slice none 0 0] 88)) := (Chg.refl _ _).alloc _
    exact ⟨H1.out.1.chg hca (fun x hx => by cases hx), (((Chg.refl [b] w).alloc _).trans H1.out.2).alloc _, heap_alloc_new w1 _, hz.chg hca (by simp), ⟨0, RowsP.nil _ _ _ _⟩, ⟨0, RowsP.nil _ _ _ _⟩, ⟨0, RowsP.nil _ _ _ _⟩, ⟨0, RowsP.nil _ _ _ _⟩, by omega, hbw, by omega, by omega, Nat.le_refl _, hbw⟩
  have H0 := Lib.hid h0
  clear h0
  go_upto_region 4 with fail
  generalize w1.alloc (.cells #[.int .i64 0, .int .i64 (p : Int), .string ⟨#[]⟩, .string ⟨#[]⟩, .string ⟨#[]⟩, .bool false, .string ⟨#[]⟩, .string ⟨#[]⟩, .slice none 0 0, .slice none 0 0, .slice none 0 0, .slice none 0 0] 88) = W at *
  generalize w1.heap.size = T at *
  clear H1 f2
  go_wp2_with fail
  refine (psr_accept w0 _ b L s kIf H0.out.r (by decide)).mono ?_
  rintro e2 w2 hr
  obtain ⟨rfl, X2⟩ := hr.out1
  clear hr
  cases hB0 : isT L s kIf with
  | true =>
    rw [takeT, if_pos hB0] at X2
    have HT := Lib.hid (H0.out.keep X2.out.1 X2.out.2)
    clear X2 H0 SI SW
    have k0 := HT.out.s.cell 0 _ rfl
    have f0 := HT.out.s.free 0
    have H3 := Lib.hid (HT.out.put (h' := { sh0 p with kind := 5 }) 0 (.int .i64 5) rfl HT.out.e HT.out.a HT.out.bo HT.out.el)
    clear HT
    go_wp2_with fail
    refine (psr_expr w0 _ b L s.go H3.out.r).mono ?_
    have hrg := rem_go (L := L) HK.out.2.1 (by have := H3.out.r.lt; change s.i + 1 < _ at this; omega)
    obtain ⟨⟨l4, s4⟩, hq4⟩ : ∃ q, exprN L s.go = q := ⟨_, rfl⟩
    have hg4 := (exprN_goes HK.out.1 s.go).rem
    have hRR := SF.out hB0
    rw [hq4] at hRR hg4 ⊢
    have HRR := Lib.hid (And.intro hRR (And.intro hg4 hrg))
    clear hRR hq4 hg4 hrg hB0
    rintro e4 w4 hr
    rcases H3.out.out hr with ⟨h4, hv, X4⟩ | ⟨h4, rfl, X4⟩
    case inr =>
      have hx := (KBH.out.2 s4).err h4
      have hRR := HRR.out.1
      try simp only at hRR
      rw [hx, isT_err h4, if_neg (by simp)] at hRR
      have hf := Lib.hid hRR
      clear hr
      try clear hRR
      try clear hx
      go_wp2_with fail
      rw [hf.out]
      exact ⟨rfl, X4.out, .inr ⟨h4, rfl⟩⟩
    obtain ⟨aE, mE, cE, rfl, hmE, hnE⟩ := hv
    have k8 := X4.out.s.cell 8 _ rfl
    have f8 := X4.out.s.free 8
    have H5 := Lib.hid (X4.out.put (h' := { sh0 p with kind := 5, e := l4 }) (vE' := .slice aE mE cE) 8 (.slice aE mE cE) rfl (H3.out.nodes hnE) X4.out.a X4.out.bo X4.out.el)
    clear hr hmE hnE X4 H3 k0 f0
    go_wp2_with fail
    refine (KBH.out.1 _ s4 H5.out.r (by have := HRR.out.2.1; have := HRR.out.2.2; have := HK.out.2.2; first | omega | (simp only at *; omega))).mono ?_
    obtain ⟨⟨l6, s6⟩, hq6⟩ : ∃ q, B s4 = q := ⟨_, rfl⟩
    have hRR := HRR.out.1
    have hg6 := (KBH.out.2 s4).rem
    try simp only at hRR
    rw [hq6] at hRR hg6 ⊢
    have HR6 := Lib.hid (And.intro hRR (And.intro hg6 HRR.out.2))
    clear hRR hq6 hg6 HRR
    rintro e6 w6 hr
    rcases H5.out.out hr with ⟨h6, hv, X6⟩ | ⟨h6, rfl, X6⟩
    case inr =>
      have hRR := HR6.out.1
      try simp only at hRR
      rw [isT_err h6, if_neg (by simp)] at hRR
      have hf := Lib.hid hRR
      clear hr
      try clear hRR
      try clear hx
      go_wp2_with fail
      rw [hf.out]
      exact ⟨rfl, X6.out, .inr ⟨h6, rfl⟩⟩
    obtain ⟨aB, mB, cB, rfl, hnB⟩ := hv
    have k10 := X6.out.s.cell 10 _ rfl
    have f10 := X6.out.s.free 10
    have H7 := Lib.hid (X6.out.put (h' := { sh0 p with kind := 5, e := l4 }) (vB' := .slice aB mB cB) (body' := l6) 10 (.slice aB mB cB) rfl X6.out.e X6.out.a (H5.out.stms hnB) X6.out.el)
    clear hr hnB X6 H5 k8 f8
    go_wp2_with fail
    refine (psr_accept w0 _ b L s6 kElse H7.out.r (by decide)).mono ?_
    rintro e8 w8 hr
    obtain ⟨rfl, X8⟩ := hr.out1
    clear hr
    have hRR := HR6.out.1
    try simp only at hRR
    cases hB8 : isT L s6 kElse with
    | true =>
      rw [takeT, if_pos hB8] at X8
      rw [if_pos hB8] at hRR
      have H9 := Lib.hid (H7.out.keep X8.out.1 X8.out.2)
      have hrg := rem_go (L := L) H7.out.r.e H7.out.r.lt
      have HR9 := Lib.hid (And.intro hRR (And.intro hrg HR6.out.2))
      clear X8 H7 hRR hrg hB8 HR6 k10 f10
      go_wp2_with fail
      refine (KBH.out.1 _ s6.go H9.out.r (by have := HR9.out.2.1; have := HR9.out.2.2.1; have := HR9.out.2.2.2.1; have := HR9.out.2.2.2.2; have := HK.out.2.2; first | omega | (simp only at *; omega))).mono ?_
      obtain ⟨⟨l10, s10⟩, hq10⟩ : ∃ q, B s6.go = q := ⟨_, rfl⟩
      have hRR := HR9.out.1
      rw [hq10] at hRR ⊢
      replace hRR := Lib.hid hRR
      clear hq10 HR9
      rintro e10 w10 hr
      rcases H9.out.out hr with ⟨h10, hv, X10⟩ | ⟨h10, rfl, X10⟩
      case inr =>
        have hf := hRR
        clear hr
        try clear hRR
        try clear hx
        go_wp2_with fail
        rw [hf.out]
        exact ⟨rfl, X10.out, .inr ⟨h10, rfl⟩⟩
      obtain ⟨aC, mC, cC, rfl, hnC⟩ := hv
      have k11 := X10.out.s.cell 11 _ rfl
      have f11 := X10.out.s.free 11
      have H11 := Lib.hid (X10.out.put (h' := { sh0 p with kind := 5, e := l4 }) (vC' := .slice aC mC cC) (els' := l10) 11 (.slice aC mC cC) rfl X10.out.e X10.out.a X10.out.bo (H9.out.stms hnC))
      clear hr hnC X10 H9
      go_wp2_with (first | (refine wpList_load_row rfl 88 (.tmp 3) rfl T rfl _ _ _ _ H11.out.s Tryd.underlying88 rfl (stmt_info _ _ _ _ _) ?_) | (refine wpList_store_row rfl 88 (.tmp 2) (.tmp 37) rfl U _ rfl rfl _ _ H11.out.z (stmt_info _ _ _ _ _) rfl H11.out.ones ?_))
      try simp only [Exit.inBlock, Exit.then]
      refine bodyPost_ret (results_cell_row rfl _ _ U _ _ _ _ rfl (setRow_heap _ U _ _ _ _ H11.out.z) Tryd.underlying88 rfl (stmt_info _ _ _ _ _)) rfl ?_
      rw [hRR.out]
      exact ⟨H11.out.told.2.1, .inl ⟨H11.out.r.e, H11.out.told.1, _, _, _, _, _, _, _, rfl, rfl, H11.out.told.2.2⟩⟩
    | false =>
      rw [takeT, hB8, if_neg (by simp)] at X8
      rw [hB8, if_neg (by simp)] at hRR
      have H9 := Lib.hid (H7.out.keep X8.out.1 X8.out.2)
      replace hRR := Lib.hid hRR
      clear X8 H7 hB8 HR6 k10 f10
      go_wp2_with (first | (refine wpList_load_row rfl 88 (.tmp 3) rfl T rfl _ _ _ _ H9.out.s Tryd.underlying88 rfl (stmt_info _ _ _ _ _) ?_) | (refine wpList_store_row rfl 88 (.tmp 2) (.tmp 37) rfl U _ rfl rfl _ _ H9.out.z (stmt_info _ _ _ _ _) rfl H9.out.ones ?_))
      try simp only [Exit.inBlock, Exit.then]
      refine bodyPost_ret (results_cell_row rfl _ _ U _ _ _ _ rfl (setRow_heap _ U _ _ _ _ H9.out.z) Tryd.underlying88 rfl (stmt_info _ _ _ _ _)) rfl ?_
      rw [hRR.out]
      exact ⟨H9.out.told.2.1, .inl ⟨H9.out.r.e, H9.out.told.1, _, _, _, _, _, _, _, rfl, rfl, H9.out.told.2.2⟩⟩
  | false =>
    rw [takeT, hB0, if_neg (by simp)] at X2
    have H2 := Lib.hid (H0.out.keep X2.out.1 X2.out.2)
    clear X2 H0 SF
    go_wp2_with fail
    refine (psr_accept w0 _ b L s kWhile H2.out.r (by decide)).mono ?_
    rintro e3 w3 hr
    obtain ⟨rfl, X3⟩ := hr.out1
    clear hr
    cases hB1 : isT L s kWhile with
    | true =>
      rw [takeT, if_pos hB1] at X3
      have HT := Lib.hid (H2.out.keep X3.out.1 X3.out.2)
      clear X3 H2 SI
      have k0 := HT.out.s.cell 0 _ rfl
      have f0 := HT.out.s.free 0
      have H3 := Lib.hid (HT.out.put (h' := { sh0 p with kind := 6 }) 0 (.int .i64 6) rfl HT.out.e HT.out.a HT.out.bo HT.out.el)
      clear HT
      go_wp2_with fail
      refine (psr_expr w0 _ b L s.go H3.out.r).mono ?_
      have hrg := rem_go (L := L) HK.out.2.1 (by have := H3.out.r.lt; change s.i + 1 < _ at this; omega)
      obtain ⟨⟨l4, s4⟩, hq4⟩ : ∃ q, exprN L s.go = q := ⟨_, rfl⟩
      have hg4 := (exprN_goes HK.out.1 s.go).rem
      have hRR := SW.out hB1
      rw [hq4] at hRR hg4 ⊢
      have HRR := Lib.hid (And.intro hRR (And.intro hg4 hrg))
      clear hRR hq4 hg4 hrg hB1
      rintro e4 w4 hr
      rcases H3.out.out hr with ⟨h4, hv, X4⟩ | ⟨h4, rfl, X4⟩
      case inr =>
        have hx := (KBH.out.2 s4).err h4
        have hRR := HRR.out.1
        try simp only at hRR
        rw [hx] at hRR
        have hf := Lib.hid hRR
        clear hr
        try clear hRR
        try clear hx
        go_wp2_with fail
        rw [hf.out]
        exact ⟨rfl, X4.out, .inr ⟨h4, rfl⟩⟩
      obtain ⟨aE, mE, cE, rfl, hmE, hnE⟩ := hv
      have k8 := X4.out.s.cell 8 _ rfl
      have f8 := X4.out.s.free 8
      have H5 := Lib.hid (X4.out.put (h' := { sh0 p with kind := 6, e := l4 }) (vE' := .slice aE mE cE) 8 (.slice aE mE cE) rfl (H3.out.nodes hnE) X4.out.a X4.out.bo X4.out.el)
      clear hr hmE hnE X4 H3 k0 f0
      go_wp2_with fail
      refine (KBH.out.1 _ s4 H5.out.r (by have := HRR.out.2.1; have := HRR.out.2.2; have := HK.out.2.2; first | omega | (simp only at *; omega))).mono ?_
      obtain ⟨⟨l6, s6⟩, hq6⟩ : ∃ q, B s4 = q := ⟨_, rfl⟩
      have hRR := HRR.out.1
      have hg6 := (KBH.out.2 s4).rem
      try simp only at hRR
      rw [hq6] at hRR hg6 ⊢
      have HR6 := Lib.hid (And.intro hRR (And.intro hg6 HRR.out.2))
      clear hRR hq6 hg6 HRR
      rintro e6 w6 hr
      rcases H5.out.out hr with ⟨h6, hv, X6⟩ | ⟨h6, rfl, X6⟩
      case inr =>
        have hRR := HR6.out.1
        try simp only at hRR
        have hf := Lib.hid hRR
        clear hr
        try clear hRR
        try clear hx
        go_wp2_with fail
        rw [hf.out]
        exact ⟨rfl, X6.out, .inr ⟨h6, rfl⟩⟩
      obtain ⟨aB, mB, cB, rfl, hnB⟩ := hv
      have k10 := X6.out.s.cell 10 _ rfl
      have f10 := X6.out.s.free 10
      have H7 := Lib.hid (X6.out.put (h' := { sh0 p with kind := 6, e := l4 }) (vB' := .slice aB mB cB) (body' := l6) 10 (.slice aB mB cB) rfl X6.out.e X6.out.a (H5.out.stms hnB) X6.out.el)
      clear hr hnB X6 H5 k8 f8
      have hRR := Lib.hid HR6.out.1
      clear HR6
      go_wp2_with (first | (refine wpList_load_row rfl 88 (.tmp 3) rfl T rfl _ _ _ _ H7.out.s Tryd.underlying88 rfl (stmt_info _ _ _ _ _) ?_) | (refine wpList_store_row rfl 88 (.tmp 2) (.tmp 37) rfl U _ rfl rfl _ _ H7.out.z (stmt_info _ _ _ _ _) rfl H7.out.ones ?_))
      try simp only [Exit.inBlock, Exit.then]
      refine bodyPost_ret (results_cell_row rfl _ _ U _ _ _ _ rfl (setRow_heap _ U _ _ _ _ H7.out.z) Tryd.underlying88 rfl (stmt_info _ _ _ _ _)) rfl ?_
      rw [hRR.out]
      exact ⟨H7.out.told.2.1, .inl ⟨H7.out.r.e, H7.out.told.1, _, _, _, _, _, _, _, rfl, rfl, H7.out.told.2.2⟩⟩
    | false =>
      rw [takeT, hB1, if_neg (by simp)] at X3
      have H3 := Lib.hid (H2.out.keep X3.out.1 X3.out.2)
      have hSH := Lib.hid (SI.out hB0 hB1)
      clear X3 H2 SI SW hB0 hB1
      go_wp2_with fail
      refine (psr_simple w0 _ b L s T p H3.out.r H3.out.s H3.out.bT).mono ?_
      obtain ⟨⟨sh, s4⟩, hq4⟩ : ∃ q, simpleT L s p = q := ⟨_, rfl⟩
      have hS := hSH.out
      rw [hq4] at hS ⊢
      unfold endT at hS
      simp only at hS
      have HSS := Lib.hid hS
      clear hS hq4 hSH
      rintro e4 w4 hr
      rcases hr with ⟨h4, rfl, vE, vA, X4⟩ | ⟨h4, rfl, X4⟩
      case inr =>
        have hf := Lib.hid (HSS.out.1.trans (want_err h4 _))
        have HC := Lib.hid (H3.out.fell X4)
        clear X4
        go_wp2_with fail
        rw [hf.out]
        exact ⟨rfl, HC.out, .inr ⟨h4, rfl⟩⟩
      have H4 := Lib.hid (H3.out.simple X4)
      clear X4 H3
      go_wp2_with fail
      refine (psr_expect w0 _ b L s4 [59] H4.out.r (by decide)).mono ?_
      rintro e5 w5 hr
      rcases H4.out.out hr with ⟨h5, hv, X5⟩ | ⟨h5, rfl, X5⟩
      case inr =>
        have hf := Lib.hid HSS.out.1
        clear hr
        go_wp2_with fail
        rw [hf.out]
        exact ⟨rfl, X5.out, .inr ⟨h5, rfl⟩⟩
      obtain rfl : e5 = _ := hv
      have hRR := Lib.hid (HSS.out.2 (by rw [HSS.out.1]; exact h5))
      clear hr H4 HSS
      go_wp2_with (first | (refine wpList_load_row rfl 88 (.tmp 3) rfl T rfl _ _ _ _ X5.out.s Tryd.underlying88 rfl (stmt_info _ _ _ _ _) ?_) | (refine wpList_store_row rfl 88 (.tmp 2) (.tmp 37) rfl U _ rfl rfl _ _ X5.out.z (stmt_info _ _ _ _ _) rfl X5.out.ones ?_))
      try simp only [Exit.inBlock, Exit.then]
      refine bodyPost_ret (results_cell_row rfl _ _ U _ _ _ _ rfl (setRow_heap _ U _ _ _ _ X5.out.z) Tryd.underlying88 rfl (stmt_info _ _ _ _ _)) rfl ?_
      rw [hRR.out]
      exact ⟨X5.out.told.2.1, .inl ⟨X5.out.r.e, X5.out.told.1, _, _, _, _, _, _, _, rfl, rfl, X5.out.told.2.2⟩⟩

theorem cstm_ok (w0 : World) (b : Nat) (L : List Tk) (hL : TokL L) : ∀ N, StC' w0 b L N ∧ BlC w0 b L N := by
  intro N
  induction N with
  | zero => exact ⟨fun w s _ hn => absurd hn (Nat.not_lt_zero _), fun w s _ hn => absurd hn (Nat.not_lt_zero _)⟩
  | succ N ih =>
    have hS := cstmt_walk w0 b L N hL ih.2
    exact ⟨hS, cblock_walk w0 b L (N + 1) hL hS⟩
theorem psr_block (w0 w : World) (b : Nat) (L : List Tk) (s : PS) (h : Psr w0 w b L s) :
    Calls Tryd.prog 45 #[.pointer (some ⟨b, 0, none⟩)] w (Ends w0 w b L (blockN L s).2 (RowsC w 12 StmV (blockN L s).1)) :=
  (cstm_ok w0 b L h.ok (L.length + 1)).2 w s h (rem_lt h.lt)

end Go.Proofs.YtfcfbdemfbkgmaaDoor
