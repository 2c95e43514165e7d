/- The reference's call: its arguments. Numbers and types by name. -/
import Derived.Test.YtlgfijjkbomejaaGreatDoorPbe
/- The reference's block, over stmt. Numbers and types by name. -/
namespace Go.Proofs.YtlgfijjkbomejaaGreatDoor
open Go.RowKit Go.Lib
set_option maxRecDepth 100000

theorem elemStm : Elem 61 63 (.agg #[.int .i64 0, .int .i64 0, .string ⟨#[]⟩, .string ⟨#[]⟩, .string ⟨#[]⟩, .bool false, .string ⟨#[]⟩, .string ⟨#[]⟩, .slice none 0 0, .slice none 0 0, .slice none 0 0, .slice none 0 0]) 12 200 := ⟨Tryz.underlying61, by kernel_rfl, by decide, by decide⟩
/-- Blocks that hold parts of a list under way: new ones, but for the list's own. -/
def NewR (w wr : World) (v : Value) (k : Nat) : Prop := w.heap.size ≤ k ∧ k < wr.heap.size ∧ v.ownBlock ≠ some k
/-- Within a block. -/
structure BlAt (w0 w wr : World) (b n : Nat) (vl : Value) (L : List Tk) (v : Value) (m : Nat) (s : PS) (l : List Stm) (R : List Stm × PS) (S : PS → Stm × PS) (q N : Nat) : Prop where
  r : Rdr w0 wr b n vl L s
  c : Chg [b] w wr
  o : ∃ cs, wr.ownsRow w.heap.size 63 12 v m cs ∧ Parts 12 (StmV wr (NewR w wr v)) l cs
  em : m = l.length
  g : stmLoop L S q s l = R
  rq : remT L s < q
  rn : remT L s < N
  pot : m + remT L s ≤ 20000
  dk : s.e = 0 → Dok s
  bw : b < w.heap.size
theorem owns_chg {w w' : World} {base e size : Nat} {v : Value} {n : Nat} {xs : List Value} {F : List Nat} (h : w.ownsRow base e size v n xs) (hc : Chg F w w') (hF : ∀ k, v.ownBlock = some k → k ∉ F) : w'.ownsRow base e size v n xs := by
  rcases h.2 with ⟨rfl, rfl⟩ | ⟨g, cap, cur, rfl, hb, hg, hr⟩
  · exact ⟨h.1, .inl ⟨rfl, rfl⟩⟩
  · exact ⟨h.1, .inr ⟨g, cap, cur, rfl, hb, (hc.block g (Array.getElem?_eq_some_iff.1 hg).1 (hF g rfl)).trans hg, hr⟩⟩
theorem BlAt.keep {w0 w wr w1 : World} {b n : Nat} {vl : Value} {L : List Tk} {v : Value} {m : Nat} {s : PS} {l : List Stm} {R : List Stm × PS} {S : PS → Stm × PS} {q N : Nat} (H : BlAt w0 w wr b n vl L v m s l R S q N) (hr : Rdr w0 w1 b n vl L s) (hc : Chg [b] wr w1) : BlAt w0 w w1 b n vl L v m s l R S q N := by
  obtain ⟨cs, h1, h2⟩ := H.o
  have hb := H.bw
  exact ⟨hr, H.c.trans hc, ⟨cs, owns_chg h1 hc (fun k hk hm => by have := (h1.lt k hk).1; simp only [List.mem_singleton] at hm; omega), h2.imp fun a c h => StmV.chg hc (fun k hk hm => by have := hk.1; simp only [List.mem_singleton] at hm; omega) (fun k hk => ⟨hk.1, Nat.lt_of_lt_of_le hk.2.1 hc.size, hk.2.2⟩) a c h⟩, H.em, H.g, H.rq, H.rn, H.pot, H.dk, hb⟩
/-- A statement is appended. -/
theorem BlAt.next {w0 w wr w5 w7 : World} {b n : Nat} {vl : Value} {L : List Tk} {v : Value} {ao7 : Option Addr} {m c7 : Nat} {s : PS} {l : List Stm} {R : List Stm × PS} {S : PS → Stm × PS} {q N : Nat} {o : Obj} {cs cn : List Value} (hL : TokL L) (hS : ∀ s, Goes L s (S s).2) (hrem : remT L (S s).2 < remT L s) (H : BlAt w0 w wr b n vl L v m s l R S q N) (he : s.e = 0) (hi : isT L s [125] = false) (h1 : wr.ownsRow w.heap.size 63 12 v m cs) (h2 : Parts 12 (StmV wr (NewR w wr v)) l cs)
    (hst : StmV w5 (fun k => wr.heap.size ≤ k ∧ k < w5.heap.size) (S s).1 cn) (r5 : Rdr w0 w5 b n vl L (S s).2) (c5 : Chg [b] wr w5)
    (h7 : w7.ownsRow w.heap.size 63 12 (.slice ao7 (m + 1) c7) (m + 1) (cs ++ cn)) (hg : (w5.alloc o).grownBy w7 v.ownBlock) (ho : (Value.slice ao7 (m + 1) c7).ownBlock = v.ownBlock ∨ (Value.slice ao7 (m + 1) c7).ownBlock = some (w5.alloc o).heap.size) :
    ∃ q', BlAt w0 w w7 b n vl L (.slice ao7 (m + 1) c7) (m + 1) (S s).2 (l ++ [(S s).1]) R S q' N := by
  have hbw := H.bw
  have c7' : Chg (rowF v) w5 w7 := ((Chg.refl (rowF v) w5).alloc o).trans' (Chg.of_grown (F := rowF v) hg (fun k hk => rowF_mem.2 hk)) fun x hx => .inl hx
  have hv : ∀ k, v.ownBlock = some k → w.heap.size ≤ k ∧ k < wr.heap.size := fun k hk => h1.lt k hk
  have hs7 : (w5.alloc o).heap.size = w5.heap.size + 1 := by simp
  have hnew : ∀ k, k < w5.heap.size → v.ownBlock ≠ some k → (Value.slice ao7 (m + 1) c7).ownBlock ≠ some k := fun k hk hne e => by
    rcases ho with ho | ho
    · exact hne (ho ▸ e)
    · rw [ho] at e
      cases e
      omega
  have f1 : Chg [b] wr w5 := c5
  have p1 : Parts 12 (StmV w7 (NewR w w7 (.slice ao7 (m + 1) c7))) (l ++ [(S s).1]) (cs ++ cn) := by
    refine Parts.snoc hst.length ?_ (h2.imp fun a c h => ?_)
    · refine StmV.chg c7' (fun k hk hm => ?_) (fun k hk => ?_) _ _ hst
      · have := (hv k (rowF_mem.1 hm)).2
        have := hk.1
        omega
      · refine ⟨Nat.le_trans H.c.size hk.1, Nat.lt_of_lt_of_le hk.2 c7'.size, hnew k hk.2 fun e => ?_⟩
        have := (hv k e).2
        have := hk.1
        omega
    · have h' := StmV.chg f1 (fun k hk hm => by have := hk.1; simp only [List.mem_singleton] at hm; omega) (Q := NewR w w5 v) (fun k hk => ⟨hk.1, Nat.lt_of_lt_of_le hk.2.1 f1.size, hk.2.2⟩) a c h
      exact StmV.chg c7' (fun k hk hm => hk.2.2 (rowF_mem.1 hm)) (fun k hk => ⟨hk.1, Nat.lt_of_lt_of_le hk.2.1 c7'.size, hnew k hk.2.1 hk.2.2⟩) a c h'
  have hq : ∃ q', q = q' + 1 := ⟨q - 1, by have := H.rq; omega⟩
  obtain ⟨q', rfl⟩ := hq
  have hgg := H.g
  unfold stmLoop at hgg
  rw [if_neg (by rw [hi]; simp [he])] at hgg
  refine ⟨q', r5.chg c7' (fun x hx => by have := (hv x (rowF_mem.1 hx)).1; omega) (r5.r.chg c7' (fun hx => by have := (hv b (rowF_mem.1 hx)).1; omega)) r5.lt r5.deep, (H.c.trans f1).trans' c7' (fun x hx => .inr (hv x (rowF_mem.1 hx)).1), ⟨_, h7, p1⟩, by rw [List.length_append, ← H.em]; rfl, hgg, by have := H.rq; omega, by have := H.rn; omega, by have := H.pot; omega, fun h => (hS s).dok (H.dk he), hbw⟩

theorem BlAt.stop {w0 w wr : World} {b n : Nat} {vl : Value} {L : List Tk} {v : Value} {m : Nat} {s : PS} {l : List Stm} {R : List Stm × PS} {S : PS → Stm × PS} {q N : Nat} (H : BlAt w0 w wr b n vl L v m s l R S q N) (h : s.e ≠ 0 ∨ isT L s [125] = true) : R = (l, s) := by
  rw [← H.g]
  have := H.rq
  cases q with
  | zero => omega
  | succ q =>
    unfold stmLoop
    rw [if_pos h]
theorem BlAt.told {w0 w wr : World} {b n : Nat} {vl : Value} {L : List Tk} {ao : Option Addr} {m c : Nat} {s s' : PS} {l : List Stm} {R : List Stm × PS} {S : PS → Stm × PS} {q N : Nat} {w1 : World} (H : BlAt w0 w wr b n vl L (.slice ao m c) m s l R S q N) (hr : Rdr w0 w1 b n vl L s') (hc : Chg [b] wr w1) : BlTold w0 w b n vl L (l, s') (.returned (.slice ao m c)) w1 := by
  obtain ⟨cs, h1, h2⟩ := H.o
  have hb := H.bw
  have h1' := owns_chg h1 hc (fun k hk hm => by have := (h1.lt k hk).1; simp only [List.mem_singleton] at hm; omega)
  refine ⟨ao, m, c, rfl, ⟨H.em, by have := H.pot; omega, fun a n' c' e => ?_, cs, Cells.own h1' (by decide), h2.imp fun a c h => StmV.chg hc (fun k hk hm => by have := hk.1; simp only [List.mem_singleton] at hm; omega) (fun k hk => ⟨hk.1, Nat.lt_of_lt_of_le hk.2.1 hc.size⟩) a c h⟩, hr, H.c.trans hc⟩
  rcases h1'.2 with ⟨e2, _⟩ | ⟨g, cap, cur, e2, hb2, hg, _⟩
  · rw [e2] at e
    cases e
  · rw [e2] at e
    simp only [Value.slice.injEq, Option.some.injEq] at e
    obtain ⟨rfl, _⟩ := e
    exact ⟨hb2, (Array.getElem?_eq_some_iff.1 hg).1⟩
set_option maxHeartbeats 1000000 in
theorem block_walk (w0 : World) (b n : Nat) (vl : Value) (L : List Tk) (N : Nat) (hL : TokL L) (K : StK 136 w0 b n vl L N) :
    BlK 106 w0 b n vl L N := by
  intro w s hr hd hn
  obtain ⟨R, hR⟩ : ∃ R, stmLoop L (stmtT L N) N (openT L s [123]) [] = R := ⟨_, rfl⟩
  have hRb : blockT L (stmtT L N) N s = (R.1, (wantT L R.2 [125]).shut) := by
    unfold blockT
    simp only
    rw [hR]
  rw [hRb]
  obtain ⟨dp, hdp⟩ : ∃ dp, s.deep = dp := ⟨_, rfl⟩
  have hgR : R.2.deep = dp + 1 := by rw [← hR, ← hdp, (stmLoop_goes hL (stmt_goes hL N) N _ _).deep, open_deep hL]
  have hwd : (wantT L R.2 [125]).deep = dp + 1 := (want_goes hL _ _).deep.trans hgR
  have hdp9 : dp ≤ 100 := by rw [← hdp]; exact hd.1
  have hro : remT L (openT L s [123]) ≤ remT L s := by
    by_cases he : s.e = 0
    · exact Nat.le_of_lt (rem_open he hr.lt)
    · rw [remT_err (show (openT L s [123]).e ≠ 0 from fun h => he (open_e h).1)]
      exact Nat.zero_le _
  have hof : s.e = 0 → Dok (openT L s [123]) := fun he => open_dok hL _ (by have := hd.2 he; omega)
  have h0 : ∀ w1, Rdr w0 w1 b n vl L (openT L s [123]) → Chg [b] w w1 → BlAt w0 w w1 b n vl L (.slice none 0 0) 0 (openT L s [123]) [] R (stmtT L N) N N := fun w1 h1 h2 =>
    ⟨h1, h2, ⟨[], World.ownsRow_nil _ _ _ _, rfl⟩, rfl, hR, by omega, by omega, by have := rem_lt (L := L) hr.lt; have := hL.few; omega, fun he => hof (open_e he).1, hr.blt⟩
  have P := rdr_open w0 w b n vl L s [123] hr (by omega)
  have H0 := Lib.hid h0
  have HX := Lib.hid (And.intro hL (And.intro K (And.intro hwd hdp9)))
  clear hr hd hn hR hRb hdp hgR hwd hdp9 hro hof h0 K hL
  generalize openT L s [123] = s0 at *
  go_enter Tryz.func106, Tryz.ntmps106
  go_wp2_with fail
  refine P.mono ?_
  rintro e1 w1 hr
  obtain ⟨rfl, H1⟩ := hr.out1
  have HA := Lib.hid (H0.out w1 H1.out.1 H1.out.2)
  clear hr P H0 H1
  go_wp2_with fail
  go_loopw [3] (fun x wr => ∃ (ao : Option Addr) (m c q : Nat) (s2 : PS) (l2 : List Stm), x = .slice ao m c ∧ Hid (BlAt w0 w wr b n vl L (.slice ao m c) m s2 l2 R (stmtT L N) q N))
    (fun _ wr => remW L b wr)
  case atStart => exact ⟨none, 0, 0, N, s0, [], rfl, HA⟩
  case round =>
    obtain ⟨ao, m, c, q, s2, l2, rfl, hG⟩ := hrel
    have r3 := hG.out.r.r.c3
    clear HA
    by_cases he : s2.e = 0
    · rw [he] at r3
      have HE := Lib.hid he
      clear he
      go_wp2_with fail
      refine (rdr_is w0 wr b n vl L s2 [125] hG.out.r).mono ?_
      rintro e3 w3 hr
      obtain ⟨rfl, H3⟩ := hr.out1
      clear hr r3
      have hG3 := Lib.hid (hG.out.keep H3.out.1 H3.out.2)
      have hWR : Hid (remW L b w3 = remW L b wr) := Lib.hid (by rw [H3.out.1.rem, hG.out.r.rem])
      cases hB : isT L s2 [125] with
      | false =>
        have hm : m ≤ 20000 := by have := hG3.out.pot; omega
        go_wp2_with fail
        refine (HX.out.2.1 w3 s2 hG3.out.r (hG3.out.dk HE.out) hG3.out.rn).mono ?_
        rintro e5 w5 ⟨cn, rfl, hst, r5, c5⟩
        have hrem : remT L (stmtT L N s2).2 < remT L s2 := by
          have h1 := hG3.out.rn
          cases N with
          | zero => omega
          | succ N => exact rem_stmt HX.out.1 N HE.out hG3.out.r.lt
        obtain ⟨cs, ho1, hp1⟩ := hG3.out.o
        have hst2 := hst
        obtain ⟨sx, hx⟩ : ∃ sx, (stmtT L N s2).1 = sx := ⟨_, rfl⟩
        obtain ⟨sh, body, els⟩ := sx
        rw [hx, StmV.iff] at hst2
        obtain ⟨vE, nE, vA, nA, vB, nB, vC, nC, rfl, hE, hA, hB1, hC⟩ := hst2
        obtain ⟨_, _, rfl⟩ := hE.shape
        obtain ⟨_, _, rfl⟩ := hA.shape
        obtain ⟨_, _, rfl⟩ := hB1.shape
        obtain ⟨_, _, rfl⟩ := hC.shape
        have FL : Hid (m + 1 ≤ 1000000) := Lib.hid (by omega)
        have HO := Lib.hid (owns_chg ho1 c5 (fun k hk hm2 => by have := (ho1.lt k hk).1; have := hG3.out.bw; simp only [List.mem_singleton] at hm2; omega))
        have hb5 := Lib.hid (Nat.le_trans hG3.out.c.size c5.size)
        have H5 := Lib.hid (And.intro hst (And.intro r5 (And.intro c5 (And.intro hrem (And.intro ho1 hp1)))))
        clear hst r5 c5 hrem ho1 hp1 hE hA hB1 hC hx
        simp only [stmHead]
        go_wp2_with (at_builtin; go_loud (refine wpList_append_gen elemStm rfl (.tmp 16) (.tmp 19) rfl w.heap.size _ m _ rfl (HO.out.alloc _) _ 1 (stmHead sh _ _ _ _) rfl (Cells.lit _ (stmHead sh _ _ _ _) 63 (0, 0) 12 1 rfl) (by intro u hu; simp only [stmHead, List.mem_cons, List.not_mem_nil, or_false] at hu; rcases hu with rfl | rfl | rfl | rfl | rfl | rfl | rfl | rfl | rfl | rfl | rfl | rfl <;> rfl) (m + 1) rfl FL (by decide) (by have := hb5.out; simp; omega) ?_; intro ao7 c7 w7 hown7 hb7 hg7 ho7; have HA := Lib.hid (And.intro hown7 (And.intro hg7 ho7)); clear hown7 hb7 hg7 ho7))
        obtain ⟨q', N1⟩ := hG3.out.next HX.out.1 (stmt_goes HX.out.1 N) H5.out.2.2.2.1 HE.out hB H5.out.2.2.2.2.1 H5.out.2.2.2.2.2 H5.out.1 H5.out.2.1 H5.out.2.2.1 HA.out.1 HA.out.2.1 HA.out.2.2
        exact ⟨⟨ao7, m + 1, c7, q', _, _, rfl, Lib.hid N1⟩, by rw [← hWR.out, N1.r.rem, hG3.out.r.rem]; exact H5.out.2.2.2.1⟩
      | true =>
        have hRe := hG3.out.stop (.inr hB)
        rw [hRe] at HX
        have hwd : (wantT L s2 [125]).deep = dp + 1 := HX.out.2.2.1
        go_wp2_with fail
        refine (rdr_want w0 _ b n _ L s2 [125] hG3.out.r).mono ?_
        rintro e8 w8 hr
        obtain ⟨rfl, H8⟩ := hr.out1
        clear hr
        have q2 : w8.cell? ⟨b, 2, none⟩ = some (.int .i64 ((dp : Int) + 1)) := H8.out.1.r.c2.trans (by rw [hwd]; rfl)
        have fz := H8.out.1.r.fz 2
        have hdp9 := HX.out.2.2.2
        have h9 : Rdr w0 (w8.setCell ⟨b, 2, none⟩ (.int .i64 (dp : Int))) b n vl L (wantT L s2 [125]).shut := by
          have e : (wantT L s2 [125]).shut = { wantT L s2 [125] with deep := dp } := by
            unfold PS.shut
            rw [hwd]
            rfl
          rw [e]
          exact H8.out.1.set2 dp (by omega)
        have H9 := Lib.hid h9
        clear h9 hwd
        go_wp2_with fail
        go_ret
        rw [hRe]
        exact hG3.out.told H9.out (H8.out.2.set (.inl (by simp)) 2 _)
    · have he2 : (s2.e == 0) = false := by simpa using he
      have hRe := hG.out.stop (.inl he)
      rw [hRe] at HX
      have hwd : (wantT L s2 [125]).deep = dp + 1 := HX.out.2.2.1
      go_wp2_with fail
      refine (rdr_want w0 _ b n _ L s2 [125] hG.out.r).mono ?_
      rintro e8 w8 hr
      obtain ⟨rfl, H8⟩ := hr.out1
      clear hr
      have q2 : w8.cell? ⟨b, 2, none⟩ = some (.int .i64 ((dp : Int) + 1)) := H8.out.1.r.c2.trans (by rw [hwd]; rfl)
      have fz := H8.out.1.r.fz 2
      have hdp9 := HX.out.2.2.2
      have h9 : Rdr w0 (w8.setCell ⟨b, 2, none⟩ (.int .i64 (dp : Int))) b n vl L (wantT L s2 [125]).shut := by
        have e : (wantT L s2 [125]).shut = { wantT L s2 [125] with deep := dp } := by
          unfold PS.shut
          rw [hwd]
          rfl
        rw [e]
        exact H8.out.1.set2 dp (by omega)
      have H9 := Lib.hid h9
      clear h9 hwd
      go_wp2_with fail
      go_ret
      rw [hRe]
      exact hG.out.told H9.out (H8.out.2.set (.inl (by simp)) 2 _)

end Go.Proofs.YtlgfijjkbomejaaGreatDoor

namespace Go.Proofs.YtlgfijjkbomejaaGreatDoor
open Go.RowKit Go.Lib
set_option maxRecDepth 100000

theorem elemArgs : Elem 60 59 (.slice none 0 0) 1 24 := ⟨Tryz.underlying60, by kernel_rfl, by decide, by decide⟩
def NewC (w wr : World) (T U : Nat) (v : Value) (k : Nat) : Prop := w.heap.size ≤ k ∧ k < wr.heap.size ∧ k ≠ T ∧ k ≠ U ∧ v.ownBlock ≠ some k
/-- Within a call's arguments. -/
structure CAt (w0 w wr : World) (b n : Nat) (vl : Value) (L : List Tk) (T U : Nat) (h : SH) (v : Value) (m : Nat) (s : PS) (acc : List (List Nd)) : Prop where
  r : Rdr w0 wr b n vl L s
  c : Chg [b] w wr
  sb : SBlk wr T h (.slice none 0 0) v (.slice none 0 0) (.slice none 0 0)
  z : SBlk wr U (sh0 0) (.slice none 0 0) (.slice none 0 0) (.slice none 0 0) (.slice none 0 0)
  o : ∃ cs, wr.ownsRow w.heap.size 59 1 v m cs ∧ Parts 1 (ArgV wr (NewC w wr T U v)) acc cs
  em : m = acc.length
  bw : b < w.heap.size
  wT : w.heap.size ≤ T
  wU : w.heap.size ≤ U
  tu : T ≠ U
  vT : v.ownBlock ≠ some T
  vU : v.ownBlock ≠ some U
theorem ArgV.chg {w w' : World} {P Q : Nat → Prop} {F : List Nat} (hc : Chg F w w') (hP : ∀ k, P k → k ∉ F) (hQ : ∀ k, P k → Q k) : ∀ (l : List Nd) (c : List Value), ArgV w P l c → ArgV w' Q l c :=
  fun _ _ ⟨v, n, e, h⟩ => ⟨v, n, e, h.chg hc hP hQ⟩
theorem CAt.keep {w0 w wr w1 : World} {b n : Nat} {vl : Value} {L : List Tk} {T U : Nat} {h : SH} {v : Value} {m : Nat} {s s1 : PS} {acc : List (List Nd)} (H : CAt w0 w wr b n vl L T U h v m s acc) (hr : Rdr w0 w1 b n vl L s1) (hc : Chg [b] wr w1) : CAt w0 w w1 b n vl L T U h v m s1 acc := by
  obtain ⟨cs, h1, h2⟩ := H.o
  have hb := H.bw
  have hT := H.wT
  have hU := H.wU
  exact ⟨hr, H.c.trans hc, H.sb.chg hc (by simp only [List.mem_singleton]; omega), H.z.chg hc (by simp only [List.mem_singleton]; omega), ⟨cs, owns_chg h1 hc (fun k hk hm => by have := (h1.lt k hk).1; simp only [List.mem_singleton] at hm; omega), h2.imp (ArgV.chg hc (fun k hk hm => by have := hk.1; simp only [List.mem_singleton] at hm; omega) (fun k hk => ⟨hk.1, Nat.lt_of_lt_of_le hk.2.1 hc.size, hk.2.2⟩))⟩, H.em, hb, hT, hU, H.tu, H.vT, H.vU⟩
/-- An argument is appended, and the slice put back. -/
theorem CAt.next {w0 w wr w5 w7 : World} {b n : Nat} {vl : Value} {L : List Tk} {T U : Nat} {h : SH} {v : Value} {ao7 ao5 : Option Addr} {m c7 m5 c5 : Nat} {s : PS} {acc : List (List Nd)} {o : Obj} {cs : List Value} (H : CAt w0 w wr b n vl L T U h v m s acc) (h1 : wr.ownsRow w.heap.size 59 1 v m cs) (h2 : Parts 1 (ArgV wr (NewC w wr T U v)) acc cs)
    (o5 : OwnN w5 (b + 1) (.slice ao5 m5 c5) m5 (exprN L s).1) (r5 : Rdr w0 w5 b n vl L (exprN L s).2) (c5' : Chg [b] wr w5) (f5 : ∀ k, (Value.slice ao5 m5 c5).ownBlock = some k → wr.heap.size ≤ k) (hm5 : m5 ≤ 20000)
    (h7 : w7.ownsRow w.heap.size 59 1 (.slice ao7 (m + 1) c7) (m + 1) (cs ++ [.slice ao5 m5 c5])) (hg : (w5.alloc o).grownBy w7 v.ownBlock) (ho : (Value.slice ao7 (m + 1) c7).ownBlock = v.ownBlock ∨ (Value.slice ao7 (m + 1) c7).ownBlock = some (w5.alloc o).heap.size) :
    SBlk w7 T h (.slice none 0 0) v (.slice none 0 0) (.slice none 0 0) ∧ CAt w0 w (w7.setCell ⟨T, 9, none⟩ (.slice ao7 (m + 1) c7)) b n vl L T U h (.slice ao7 (m + 1) c7) (m + 1) (exprN L s).2 (acc ++ [(exprN L s).1]) := by
  have hbw := H.bw
  have hT := H.wT
  have hU := H.wU
  have c7' : Chg (rowF v) w5 w7 := ((Chg.refl (rowF v) w5).alloc o).trans' (Chg.of_grown (F := rowF v) hg (fun k hk => rowF_mem.2 hk)) fun x hx => .inl hx
  have hv : ∀ k, v.ownBlock = some k → w.heap.size ≤ k ∧ k < wr.heap.size := fun k hk => h1.lt k hk
  have hs7 : (w5.alloc o).heap.size = w5.heap.size + 1 := by simp
  have hnew : ∀ k, k < w5.heap.size → v.ownBlock ≠ some k → (Value.slice ao7 (m + 1) c7).ownBlock ≠ some k := fun k hk hne e => by
    rcases ho with ho | ho
    · exact hne (ho ▸ e)
    · rw [ho] at e
      cases e
      omega
  have hs := H.sb.chg c5' (by simp only [List.mem_singleton]; omega)
  have hs2 := hs.chg c7' (fun hx => H.vT (rowF_mem.1 hx))
  have hz2 := (H.z.chg c5' (by simp only [List.mem_singleton]; omega)).chg c7' (fun hx => H.vU (rowF_mem.1 hx))
  have ct : Chg [T] w7 (w7.setCell ⟨T, 9, none⟩ (.slice ao7 (m + 1) c7)) := (Chg.refl [T] w7).set (.inl (by simp)) 9 _
  have r7 : Rdr w0 w7 b n vl L (exprN L s).2 := r5.chg c7' (fun x hx => by have := (hv x (rowF_mem.1 hx)).1; omega) (r5.r.chg c7' (fun hx => by have := (hv b (rowF_mem.1 hx)).1; omega)) r5.lt r5.deep
  have r8 : Rdr w0 (w7.setCell ⟨T, 9, none⟩ (.slice ao7 (m + 1) c7)) b n vl L (exprN L s).2 := r7.chg ct (fun x hx => by simp only [List.mem_singleton] at hx; omega) (r7.r.chg ct (by simp only [List.mem_singleton]; omega)) r7.lt r7.deep
  refine ⟨hs2, ?_⟩
  have hTw := H.sb.lt
  have hUw := H.z.lt
  have p1 : Parts 1 (ArgV (w7.setCell ⟨T, 9, none⟩ (.slice ao7 (m + 1) c7)) (NewC w (w7.setCell ⟨T, 9, none⟩ (.slice ao7 (m + 1) c7)) T U (.slice ao7 (m + 1) c7))) (acc ++ [(exprN L s).1]) (cs ++ [.slice ao5 m5 c5]) := by
    refine Parts.imp (ArgV.chg ct (P := NewC w w7 T U (.slice ao7 (m + 1) c7)) (fun k hk hm => hk.2.2.1 (by simpa using hm)) (fun k hk => ⟨hk.1, Nat.lt_of_lt_of_le hk.2.1 ct.size, hk.2.2⟩)) ?_
    refine Parts.snoc (size := 1) (c := [.slice ao5 m5 c5]) rfl ?_ (h2.imp fun a c h => ?_)
    · refine ⟨_, m5, rfl, ?_⟩
      have hn5 : NodesP w5 (fun k => wr.heap.size ≤ k ∧ k < w5.heap.size) (.slice ao5 m5 c5) m5 (exprN L s).1 := o5.nodes (by omega) fun k hk => ⟨f5 k hk, (o5.2.lt k hk).2⟩
      exact hn5.chg c7' (fun k hk hm => by have := (hv k (rowF_mem.1 hm)).2; have := hk.1; omega) fun k hk => ⟨Nat.le_trans H.c.size hk.1, Nat.lt_of_lt_of_le hk.2 c7'.size, by have := hk.1; omega, by have := hk.1; omega, hnew k hk.2 fun e => by have := (hv k e).2; have := hk.1; omega⟩
    · have h' := ArgV.chg c5' (Q := NewC w w5 T U v) (fun k hk hm => by have := hk.1; simp only [List.mem_singleton] at hm; omega) (fun k hk => ⟨hk.1, Nat.lt_of_lt_of_le hk.2.1 c5'.size, hk.2.2⟩) a c h
      exact ArgV.chg c7' (fun k hk hm => hk.2.2.2.2 (rowF_mem.1 hm)) (fun k hk => ⟨hk.1, Nat.lt_of_lt_of_le hk.2.1 c7'.size, hk.2.2.1, hk.2.2.2.1, hnew k hk.2.1 hk.2.2.2.2⟩) a c h'
  have h7T : (Value.slice ao7 (m + 1) c7).ownBlock ≠ some T := hnew T (Nat.lt_of_lt_of_le hTw c5'.size) H.vT
  have h7U : (Value.slice ao7 (m + 1) c7).ownBlock ≠ some U := hnew U (Nat.lt_of_lt_of_le hUw c5'.size) H.vU
  exact ⟨r8, ((H.c.trans c5').trans' c7' (fun x hx => .inr (hv x (rowF_mem.1 hx)).1)).trans' ct (fun x hx => by simp only [List.mem_singleton] at hx; subst hx; exact .inr hT), hs2.set 9 _ rfl, hz2.chg ct (by simp only [List.mem_singleton]; exact fun h => H.tu h.symm), ⟨_, owns_chg h7 ct (fun k hk hm => h7T (by simp only [List.mem_singleton] at hm; rw [← hm]; exact hk)), p1⟩, by rw [List.length_append, ← H.em]; rfl, hbw, hT, hU, H.tu, h7T, h7U⟩
theorem CAt.field {w0 w wr : World} {b n : Nat} {vl : Value} {L : List Tk} {T U : Nat} {h : SH} {v : Value} {m : Nat} {s : PS} {acc : List (List Nd)} (H : CAt w0 w wr b n vl L T U h v m s acc) (j : Nat) (x : Value) (h' : SH) (e : (stmHead h (.slice none 0 0) v (.slice none 0 0) (.slice none 0 0)).toArray.setIfInBounds j x = (stmHead h' (.slice none 0 0) v (.slice none 0 0) (.slice none 0 0)).toArray) : CAt w0 w (wr.setCell ⟨T, j, none⟩ x) b n vl L T U h' v m s acc := by
  have hT := H.wT
  have hb := H.bw
  have ct : Chg [T] wr (wr.setCell ⟨T, j, none⟩ x) := (Chg.refl [T] wr).set (.inl (by simp)) j x
  obtain ⟨cs, h1, h2⟩ := H.o
  exact ⟨H.r.chg ct (fun y hy => by simp only [List.mem_singleton] at hy; omega) (H.r.r.chg ct (by simp only [List.mem_singleton]; omega)) H.r.lt H.r.deep, H.c.trans' ct (fun y hy => by simp only [List.mem_singleton] at hy; subst hy; exact .inr hT), H.sb.set j x e, H.z.chg ct (by simp only [List.mem_singleton]; exact fun h => H.tu h.symm), ⟨cs, owns_chg h1 ct (fun k hk hm => H.vT (by simp only [List.mem_singleton] at hm; rw [← hm]; exact hk)), h2.imp (ArgV.chg ct (fun k hk hm => hk.2.2.1 (by simpa using hm)) (fun k hk => ⟨hk.1, Nat.lt_of_lt_of_le hk.2.1 ct.size, hk.2.2⟩))⟩, H.em, hb, hT, H.wU, H.tu, H.vT, H.vU⟩
theorem CAt.ones {w0 w wr : World} {b n : Nat} {vl : Value} {L : List Tk} {T U : Nat} {h : SH} {ao : Option Addr} {m c : Nat} {s : PS} {acc : List (List Nd)} (_ : CAt w0 w wr b n vl L T U h (.slice ao m c) m s acc) : (stmHead h (.slice none 0 0) (.slice ao m c) (.slice none 0 0) (.slice none 0 0)).toArray.all (·.oneCell') = true := by
  rw [Array.all_eq_true_iff_forall_mem]
  intro v hv
  have hv' := hv
  simp only [stmHead, List.mem_toArray, List.mem_cons, List.not_mem_nil, or_false] at hv'
  rcases hv' with rfl | rfl | rfl | rfl | rfl | rfl | rfl | rfl | rfl | rfl | rfl | rfl <;> rfl
theorem CAt.told {w0 w wr : World} {b n : Nat} {vl : Value} {L : List Tk} {T U : Nat} {h : SH} {ao : Option Addr} {m c : Nat} {s : PS} {acc : List (List Nd)} (H : CAt w0 w wr b n vl L T U h (.slice ao m c) m s acc) (hm : m ≤ 100000) (h' : SH) (e : stmHead h (.slice none 0 0) (.slice ao m c) (.slice none 0 0) (.slice none 0 0) = stmHead h' (.slice none 0 0) (.slice ao m c) (.slice none 0 0) (.slice none 0 0)) (he : h'.e = []) (ha : h'.args = acc) :
    CaTold w0 w b n vl L (h', s) (.returned (.agg (stmHead h (.slice none 0 0) (.slice ao m c) (.slice none 0 0) (.slice none 0 0)).toArray)) (wr.setRow U (stmHead h (.slice none 0 0) (.slice ao m c) (.slice none 0 0) (.slice none 0 0)).toArray) := by
  have hU := H.wU
  have hb := H.bw
  have hc : Chg [U] wr (wr.setRow U (stmHead h (.slice none 0 0) (.slice ao m c) (.slice none 0 0) (.slice none 0 0)).toArray) := ⟨rfl, rfl, rfl, by simp, fun k _ hk => setRow_other wr U k _ (by simpa using hk)⟩
  obtain ⟨cs, h1, h2⟩ := H.o
  have h1' := owns_chg h1 hc (fun k hk hm => H.vU (by simp only [List.mem_singleton] at hm; rw [← hm]; exact hk))
  refine ⟨_, m, by rw [e], he, ?_, H.r.chg hc (fun x hx => by simp only [List.mem_singleton] at hx; omega) (H.r.r.chg hc (by simp only [List.mem_singleton]; omega)) H.r.lt H.r.deep, H.c.trans' hc (fun x hx => by simp only [List.mem_singleton] at hx; subst hx; exact .inr hU)⟩
  rw [ha]
  refine ⟨H.em, hm, fun a n' c' e => ?_, cs, Cells.own h1' (by decide), h2.imp (ArgV.chg hc (fun k hk hm => hk.2.2.2.1 (by simpa using hm)) (fun k hk => ⟨hk.1, Nat.lt_of_lt_of_le hk.2.1 hc.size⟩))⟩
  rcases h1'.2 with ⟨e2, _⟩ | ⟨g, cap, cur, e2, hb2, hg, _⟩
  · rw [e2] at e
    cases e
  · rw [e2] at e
    simp only [Value.slice.injEq, Option.some.injEq] at e
    obtain ⟨rfl, _⟩ := e
    exact ⟨hb2, (Array.getElem?_eq_some_iff.1 hg).1⟩

end Go.Proofs.YtlgfijjkbomejaaGreatDoor
