/- The code's block, over stmt. Numbers and types by name. -/
import Derived.Test.YtfcfbdemfbkgmaaDoorQpl
import Derived.Test.YtfcfbdemfbkgmaaDoorPbf
namespace Go.Proofs.YtfcfbdemfbkgmaaDoor
open Go.RowKit Go.Lib
set_option maxRecDepth 100000

/-- What a statement's reader leaves: its cells, its parts in new memory. -/
def StmC (w : World) (t : Stm) : World → Ending → Prop := fun w' e => ∃ h body els vE vA vB vC, t = .mk h body els ∧ e = .returned (.agg #[.int .i64 h.kind, .int .i64 (h.pos : Int), .string (tx h.mod), .string (tx h.name), .string (tx h.label), .bool h.has, .string (tx h.toMod), .string (tx h.to), vE, vA, vB, vC]) ∧ StmV w' (NewW w w') t (stmHead h vE vA vB vC)
/-- What is asked of stmt, of block. -/
def StC' (w0 : World) (b : Nat) (L : List Tk) (N : Nat) : Prop :=
  ∀ (w : World) (s : PS), Psr w0 w b L s → remT L s < N → Calls Tryd.prog 52 #[.pointer (some ⟨b, 0, none⟩)] w (Ends w0 w b L (stmtT L N s).2 (StmC w (stmtT L N s).1))
def BlC (w0 : World) (b : Nat) (L : List Tk) (N : Nat) : Prop :=
  ∀ (w : World) (s : PS), Psr w0 w b L s → remT L s < N → Calls Tryd.prog 45 #[.pointer (some ⟨b, 0, none⟩)] w (Ends w0 w b L (blockT L (stmtT L N) N s).2 (RowsC w 12 StmV (blockT L (stmtT L N) N s).1))
/-- Between two statements: what is left makes the whole. -/
def BlkG (L : List Tk) (S : PS → Stm × PS) (q : Nat) (s : PS) (acc : List Stm) (R : List Stm × PS) : Prop := (stmLoop L S q s acc).1 = R.1 ∧ (wantT L (stmLoop L S q s acc).2 [125]).shut = R.2
theorem BlkG.last {L : List Tk} {S : PS → Stm × PS} {q : Nat} {s : PS} {acc : List Stm} {R : List Stm × PS} (hB : isT L s [125] = true) (h : BlkG L S (q + 1) s acc R) : R = (acc, s.go.shut) := by
  unfold BlkG at h
  unfold stmLoop at h
  rw [if_pos (.inr hB)] at h
  simp only at h
  rw [wantT, if_pos hB] at h
  exact Prod.ext h.1.symm h.2.symm
theorem BlkG.more {L : List Tk} {S : PS → Stm × PS} {q : Nat} {s : PS} {acc : List Stm} {R : List Stm × PS} (he : s.e = 0) (hB : isT L s [125] = false) (h : BlkG L S (q + 1) s acc R) : BlkG L S q (S s).2 (acc ++ [(S s).1]) R := by
  unfold BlkG at h
  unfold stmLoop at h
  rw [if_neg (by rw [he, hB]; simp)] at h
  exact h
theorem BlkG.fell {L : List Tk} {S : PS → Stm × PS} {q : Nat} {s : PS} {acc : List Stm} {R : List Stm × PS} (he : s.e ≠ 0) (h : BlkG L S q s acc R) : R.2 = s.shut := by
  unfold BlkG at h
  have e : stmLoop L S q s acc = (acc, s) := by
    cases q with
    | zero => rfl
    | succ q =>
      unfold stmLoop
      rw [if_pos (.inl he)]
  rw [e] at h
  rw [← h.2]
  simp only
  rw [want_err he]
theorem monoStm : Mono StmV := fun hc hP hQ => StmV.chg hc hP hQ

set_option maxHeartbeats 2000000 in
theorem cblock_walk (w0 : World) (b : Nat) (L : List Tk) (N : Nat) (hL : TokL L) (K : StC' w0 b L N) : BlC w0 b L N := by
  intro w s h hn
  have P := psr_open w0 w b L s [123] h (by decide)
  obtain ⟨R, hR⟩ : ∃ R, blockT L (stmtT L N) N s = R := ⟨_, rfl⟩
  rw [hR]
  have hG0 : BlkG L (stmtT L N) N (openT L s [123]) [] R := by rw [← hR]; exact ⟨rfl, rfl⟩
  have hrem := rem_open (L := L) (t := [123]) h.e h.lt
  have hdp := open_deep hL s [123]
  obtain ⟨n, rfl⟩ : ∃ n, N = n + 1 := ⟨N - 1, by omega⟩
  have hgo : ∀ s, Goes L s (stmtT L (n + 1) s).2 := stmt_goes hL (n + 1)
  have hrs : ∀ s : PS, s.e = 0 → s.i < L.length → remT L (stmtT L (n + 1) s).2 < remT L s := fun s h1 h2 => rem_stmt hL n h1 h2
  have hfew := hL.few
  unfold StC' at K
  have HS := Lib.hid (StC.of h)
  have hbl := h.blt
  have hs40 := h.deep
  have HK := Lib.hid (And.intro hL (And.intro hgo (And.intro hrs K)))
  have HG := Lib.hid (And.intro hG0 (And.intro hrem (And.intro hdp hn)))
  have M : Hid (Mono StmV) := Lib.hid monoStm
  generalize stmtT L (n + 1) = S at *
  generalize openT L s [123] = so at *
  clear h hR hG0 hrem hgo hrs hL K hn hdp
  go_enter Tryd.func45, Tryd.ntmps45
  go_wp2_with fail
  refine P.mono ?_
  rintro e1 w1 hr
  rcases HS.out.out hr with ⟨h0, hv, X⟩ | ⟨h0, rfl, X⟩
  case inr =>
    have hf := Lib.hid (HG.out.1.fell h0)
    clear hr P
    go_wp2_with fail
    rw [hf.out]
    exact ⟨rfl, X.out, .inr ⟨h0, rfl⟩⟩
  obtain rfl : e1 = _ := hv
  have H2 := Lib.hid (RoAt.nil (α := Stm) (el := 88) (size := 12) (Rel := StmV) X.out.1 hbl)
  clear hr P X HS
  go_wp2_with fail
  go_loopw [3] (fun x wr => ∃ (ao : Option Addr) (m c q : Nat) (s2 : PS) (acc : List Stm), x = .slice ao m c ∧ Hid (RoAt w0 w wr b L 88 12 StmV (.slice ao m c) m s2 acc ∧ BlkG L S q s2 acc R ∧ m + remT L s2 ≤ 20000 ∧ remT L s2 < q ∧ remT L s2 < n + 1 ∧ s2.deep = so.deep))
    (fun _ wr => lenW b wr)
  case atStart =>
    refine ⟨none, 0, 0, n + 1, so, [], rfl, Lib.hid ⟨H2.out, HG.out.1, ?_, ?_, ?_, rfl⟩⟩
    · have := HK.out.1.few
      have := rem_lt (L := L) H2.out.st.r.lt
      omega
    · have := HG.out.2.1
      have := HG.out.2.2.2
      omega
    · have := HG.out.2.1
      have := HG.out.2.2.2
      omega
  case round =>
    obtain ⟨ao, m, c, q, s2, acc, rfl, H⟩ := hrel
    clear H2
    have P := psr_accept w0 wr b L s2 [125] H.out.1.st.r (by decide)
    have he := H.out.1.st.r.e
    obtain ⟨q', rfl⟩ : ∃ q', q = q' + 1 := ⟨q - 1, by have := H.out.2.2.2.1; omega⟩
    have HLEN := Lib.hid H.out.1.st.r.len
    go_wp2_with fail
    refine P.mono ?_
    rintro e3 w3 hr
    obtain ⟨rfl, X3⟩ := hr.out1
    clear hr P
    cases hB : isT L s2 [125] with
    | true =>
      rw [takeT, if_pos hB] at X3
      have hR := Lib.hid (H.out.2.1.last hB)
      have H3 := Lib.hid (H.out.1.keep M.out X3.out.1 X3.out.2)
      have hsd : 1 ≤ s2.go.deep := by
        have := H.out.2.2.2.2.2
        have := HG.out.2.2.1
        show 1 ≤ s2.deep
        omega
      have hm9 : m ≤ 100000 := by have := H.out.2.2.1; omega
      clear hB H X3
      go_wp2_with fail
      refine (psr_shut w0 w3 b L s2.go H3.out.st.r hsd).mono ?_
      rintro e4 w4 hr
      obtain ⟨rfl, X4⟩ := hr.out1
      have H4 := Lib.hid (H3.out.keep M.out X4.out.1 X4.out.2)
      have HT := Lib.hid (RoAt.told M.out (by decide) H4.out hm9)
      clear hr X4 H3
      go_wp2_with fail
      go_ret
      rw [hR.out]
      exact ⟨H4.out.st.c, .inl ⟨he, H4.out.st.r, ao, m, c, rfl, HT.out⟩⟩
    | false =>
      rw [takeT, hB, if_neg (by simp)] at X3
      have H3 := Lib.hid (H.out.1.keep M.out X3.out.1 X3.out.2)
      have hG := H.out.2.1.more he hB
      have hrs := HK.out.2.2.1 s2 he H.out.1.st.r.lt
      have hgo := HK.out.2.1 s2
      have E2 := HK.out.2.2.2 w3 s2 H3.out.st.r H.out.2.2.2.2.1
      obtain ⟨⟨a2, s3⟩, hq⟩ : ∃ q, S s2 = q := ⟨_, rfl⟩
      rw [hq] at E2 hG hgo hrs
      simp only at E2 hG hgo hrs
      have HQ := Lib.hid (And.intro hG (And.intro hrs (And.intro hgo (And.intro H.out.2.2 H.out.1.st.r.lt))))
      have FL : Hid (m + 1 ≤ 1000000) := Lib.hid (by have := H.out.2.2.1; omega)
      obtain ⟨cs, o1, o2⟩ := H3.out.o
      have HO := Lib.hid (And.intro o1 o2)
      clear o1 o2 hB H X3 hq hG hgo hrs
      go_wp2_with fail
      refine E2.mono ?_
      rintro e5 w5 hr
      rcases H3.out.st.out hr with ⟨h5, hv, X⟩ | ⟨h5, rfl, X⟩
      case inr =>
        have hf := Lib.hid (HQ.out.1.fell h5)
        clear hr E2
        go_wp2_with fail
        rw [hf.out]
        exact ⟨rfl, X.out, .inr ⟨h5, rfl⟩⟩
      obtain ⟨sh, body, els, vE, vA, vB, vC, ha, rfl, hst⟩ := hv
      have HST := Lib.hid hst
      have HOW := Lib.hid (owns_chg HO.out.1 X.out.2 (fun k hk hm => by have := (HO.out.1.lt k hk).1; have := H3.out.bw; rw [List.mem_singleton] at hm; omega))
      obtain ⟨⟨aE, nE, cE, eE⟩, ⟨aA, nA, cA, eA⟩, ⟨aB, nB, cB, eB⟩, ⟨aC, nC, cC, eC⟩⟩ : (∃ a n c, vE = .slice a n c) ∧ (∃ a n c, vA = .slice a n c) ∧ (∃ a n c, vB = .slice a n c) ∧ (∃ a n c, vC = .slice a n c) := by
        rw [ha, StmV.iff] at hst
        obtain ⟨xE, nE, xA, nA, xB, nB, xC, nC, e, g1, g2, g3, g4⟩ := hst
        simp only [stmHead, List.cons.injEq, and_true] at e
        obtain ⟨_, _, _, _, _, _, _, _, rfl, rfl, rfl, rfl⟩ := e
        obtain ⟨p1, q1, r1⟩ := g1.shape
        obtain ⟨p2, q2, r2⟩ := g2.shape
        obtain ⟨p3, q3, r3⟩ := g3.shape
        obtain ⟨p4, q4, r4⟩ := g4.shape
        exact ⟨⟨_, _, _, r1⟩, ⟨_, _, _, r2⟩, ⟨_, _, _, r3⟩, ⟨_, _, _, r4⟩⟩
      subst eE eA eB eC
      clear hr E2 hst ha
      go_wp2_with (at_builtin; refine wpList_append_gen elemStm rfl (.tmp 9) (.tmp 12) rfl w.heap.size _ m _ rfl (HOW.out.alloc _) _ 1 (stmHead sh _ _ _ _) rfl (Cells.lit _ (stmHead sh _ _ _ _) 88 (0, 0) 12 1 rfl) (by intro u hu; simp only [stmHead, List.mem_cons, List.not_mem_nil, or_false] at hu; rcases hu with rfl | rfl | rfl | rfl | rfl | rfl | rfl | rfl | rfl | rfl | rfl | rfl <;> rfl) (m + 1) rfl FL (by decide) (Nat.le_trans X.out.1.c.size (by simp)) ?_; intro ao7 c7 w7 hown7 hb7 hg7 ho7; have HN := Lib.hid (H3.out.next M.out HO.out.1 HO.out.2 X.out.1.r X.out.2 rfl HST.out hown7 hg7 ho7); clear hown7 hb7 hg7 ho7)
      have hl7 : lenW b _ = _ := HN.out.st.r.len
      have hlt := HN.out.st.r.lt
      have hr2 := remT_e (L := L) he
      have hr3 := remT_e (L := L) h5
      refine ⟨⟨ao7, m + 1, c7, q', s3, _, rfl, Lib.hid ⟨HN.out, HQ.out.1, ?_, ?_, ?_, ?_⟩⟩, ?_⟩
      · have := HQ.out.2.1
        have := HQ.out.2.2.2.1.1
        omega
      · have := HQ.out.2.1
        have := HQ.out.2.2.2.1.2.1
        omega
      · have := HQ.out.2.1
        have := HQ.out.2.2.2.1.2.2.1
        omega
      · exact HQ.out.2.2.1.deep.trans HQ.out.2.2.2.1.2.2.2
      · have h8 := HLEN.out
        have h9 := HQ.out.2.1
        have h10 := HQ.out.2.2.2.2
        omega

end Go.Proofs.YtfcfbdemfbkgmaaDoor
