/- THE CODE's lexer, whole: an instance of what is asked of it. Numbers and types by name. -/
import Derived.Test.YtlgfijjkbomejaaDoorLxk
namespace Go.Proofs.YtlgfijjkbomejaaDoor
open Go.RowKit Go.Lib
set_option maxRecDepth 100000

/-- Blanks in a row are left out in one go. -/
theorem lexA_blanks : ∀ (r : List UInt8) (i : Nat), lexA i r = lexA (i + runL isSpc r) (r.drop (runL isSpc r))
  | [], i => by simp [runL]
  | c :: r, i => by
    by_cases h : isSpc c = true
    · have hs : stepL (c :: r) = .skip 1 := by
        show stepC c r = _
        unfold stepC
        rw [if_pos h]
      rw [runL_cons h, lexA_skip hs, List.drop_succ_cons, List.drop_zero, lexA_blanks r (i + 1), Nat.add_comm 1, List.drop_succ_cons, show i + 1 + runL isSpc r = i + (runL isSpc r + 1) by omega]
    · have h0 : runL isSpc (c :: r) = 0 := by
        unfold runL
        rw [List.takeWhile_cons, if_neg h]
        rfl
      rw [h0]
      rfl
theorem lexA_gap (c : UInt8) (r : List UInt8) (i : Nat) : lexA i (c :: r) = lexA (i + gapL (c :: r)) ((c :: r).drop (gapL (c :: r))) := by
  unfold gapL
  by_cases h : c = 35
  · simp only [if_pos h]
    subst h
    have hs : stepL (35 :: r) = .skip (1 + runL (fun x => x != 10) r) := rfl
    rw [runL_cons (by decide)]
    exact lexA_skip hs
  · simp only [if_neg h]
    exact lexA_blanks _ _
theorem gap_zero {c : UInt8} {r : List UInt8} (h : gapL (c :: r) = 0) : isSpc c = false ∧ c ≠ 35 := by
  change (if c = 35 then runL (fun x => x != 10) (c :: r) else runL isSpc (c :: r)) = 0 at h
  by_cases h1 : c = 35
  · rw [if_pos h1] at h
    subst h1
    rw [runL_cons (by decide)] at h
    omega
  · rw [if_neg h1] at h
    refine ⟨?_, h1⟩
    cases hs : isSpc c with
    | false => rfl
    | true => rw [runL_cons hs] at h; omega
theorem gap_le (l : List UInt8) : gapL l ≤ l.length := by
  cases l with
  | nil => exact Nat.le_refl _
  | cons c r =>
    show (if c = 35 then runL (fun x => x != 10) (c :: r) else runL isSpc (c :: r)) ≤ _
    split
    · exact runL_le _ _
    · exact runL_le _ _

/-- The text and the place, as the closure holds them. -/
structure LcW (w wr : World) (l : List UInt8) (k : Nat) : Prop where
  s : wr.cell? ⟨w.heap.size, 0, none⟩ = some (.string (tx l))
  a : wr.cell? ⟨w.heap.size + 1, 0, none⟩ = some (.int .i64 k)
  fz : wr.frozen? ⟨w.heap.size + 1, 0, none⟩ = false
  b : Below w.heap.size w wr
  sz : w.heap.size + 2 ≤ wr.heap.size
theorem belowset2 {B : Nat} {w wr : World} (h : Below B w wr) {c : Nat} (hc : B ≤ c) (j : Nat) (v : Value) : Below B w (wr.setCell ⟨c, j, none⟩ v) :=
  ⟨h.os, h.tape, h.output, by rw [World.setCell]; simpa using h.size, fun i hi => by rw [← h.block i hi]; simp [World.setCell, Array.getElem?_modify]; intro e; omega⟩
theorem LcW.set {w wr : World} {l : List UInt8} {k : Nat} (h : LcW w wr l k) (k' : Nat) : LcW w (wr.setCell ⟨w.heap.size + 1, 0, none⟩ (.int .i64 (k' : Int))) l k' := by
  have e1 : (⟨w.heap.size + 1, 0, none⟩ : Addr) ≠ ⟨w.heap.size, 0, none⟩ := by intro e; simp at e
  exact ⟨(World.cell?_setCell_other wr _ _ _ e1).trans h.s, World.cell?_setCell_same wr _ _ h.a, by rw [World.frozen?_setCell]; exact h.fz, belowset2 h.b (by omega) _ _, by rw [World.setCell]; simpa using h.sz⟩
theorem LcW.below {w w1 w2 : World} {l : List UInt8} {k : Nat} (h : LcW w w1 l k) (hb : Below (w.heap.size + 2) w1 w2) : LcW w w2 l k :=
  ⟨(World.cell?_of_block (hb.block _ (by show w.heap.size < _; omega))).trans h.s, (World.cell?_of_block (hb.block _ (by show w.heap.size + 1 < _; omega))).trans h.a, (World.frozen?_of_block (hb.block _ (by show w.heap.size + 1 < _; omega))).trans h.fz, h.b.trans (hb.mono (by omega)), Nat.le_trans h.sz hb.size⟩
theorem code_take (w wr : World) (l : List UInt8) (k n q : Nat) (h : LcW w wr l k) (hq : q = k + n) (hk : q ≤ l.length) (hm : l.length ≤ 9000) (o : List UInt8) (ho : (l.drop k).take n = o) :
    Calls Tryd.prog 38 #[.int .i64 (n : Int), .pointer (some ⟨w.heap.size + 1, 0, none⟩), .pointer (some ⟨w.heap.size, 0, none⟩)] wr fun e w' => e = .returned (.string (tx o)) ∧ w' = wr.setCell ⟨w.heap.size + 1, 0, none⟩ (.int .i64 (q : Int)) := by
  have c1 := h.a
  have c2 := h.s
  have c3 := h.fz
  have hS := h.set q
  have d1 := hS.a
  have d2 := hS.s
  have n1 : wrap64 ((k : Int) + (n : Int)) = (q : Int) := by rw [wrap64_id _ (by omega)]; omega
  have n2 : wrap64 ((q : Int) - (n : Int)) = (k : Int) := by rw [wrap64_id _ (by omega)]; omega
  have s1 := slice_tx (l := l) (i := k) (j := q) (o := o) (by omega) hk (by rw [show q - k = n by omega]; exact ho) (a := (k : Int)) (b := (q : Int)) rfl rfl
  have hsz := tx_size l
  have hkq : (k : Int) ≤ (q : Int) := by omega
  clear h hS hq ho
  go_enter Tryd.func38, Tryd.ntmps38
  go_wp2_with fail
  go_ret
  exact ⟨rfl, by simp⟩

/-- Between two tokens. -/
def LexC (w wr : World) (l : List UInt8) (R : LexR) (k : Nat) (v : Value) (n : Nat) : Prop :=
  LcW w wr l k ∧ ∃ acc, OwnT wr (w.heap.size + 2) v n acc ∧ appL acc (lexA k (l.drop k)) = R ∧ acc.length ≤ k
def posOf (o : Option Value) : Nat := match o with
  | some (.int _ z) => z.toNat
  | _ => 0
theorem own_tset {w wr : World} {v : Value} {n : Nat} {acc : List Tk} {c : Nat} (h : OwnT wr (w.heap.size + 2) v n acc) (hc : c < w.heap.size + 2) (x : Value) : OwnT (wr.setCell ⟨c, 0, none⟩ x) (w.heap.size + 2) v n acc :=
  ⟨h.1, ownsRow_setCell_below h.2 hc x⟩

set_option maxHeartbeats 4000000 in
theorem code_lex (l : List UInt8) (w : World) (ht : SgW w) : Calls Tryd.prog 32 #[.string (tx l)] w (LexTold w (lexP l)) := by
  have hsz := tx_size l
  by_cases hbig : 8192 < l.length
  · have hb : (8192 : Int) < (l.length : Int) := by omega
    have HR : lexP l = ⟨[], 9, 8192⟩ := if_pos hbig
    rw [HR]
    go_enter Tryd.func32, Tryd.ntmps32
    go_wp2_with fail
    go_ret3
    exact ⟨none, 0, 0, rfl, Tkr.nil _, (Below.refl _ w).alloc (Nat.le_refl _) _⟩
  have hb : ¬ (8192 : Int) < (l.length : Int) := by omega
  obtain ⟨R, hR⟩ : ∃ R, R = lexP l := ⟨_, rfl⟩
  have HR : Hid (appL [] (lexA 0 (l.drop 0)) = R) := Lib.hid (by rw [appL_nil, hR]; exact (if_neg hbig).symm)
  rw [← hR]
  clear hR
  have HL := Lib.hid hbig
  have HT := Lib.hid ht
  clear ht hbig
  go_enter Tryd.func32, Tryd.ntmps32
  go_wp2_with fail
  have H0' : LcW w ((w.alloc (.cells #[.string (tx l)] 9)).alloc (.cells #[.int .i64 0] 3)) l 0 := by
    refine ⟨?_, ?_, ?_, ((Below.refl _ w).alloc (Nat.le_refl _) _).alloc (by simp) _, by simp⟩ <;> go_simp
  have H0 := Lib.hid H0'
  clear H0'
  generalize ((w.alloc (.cells #[.string (tx l)] 9)).alloc (.cells #[.int .i64 0] 3)) = W at *
  go_loopw [7] (fun v wr => ∃ (n c k : Nat) (ao : Option Addr), k ≤ l.length ∧ v = .slice ao n c ∧ Hid (LexC w wr l R k (.slice ao n c) n))
    (fun _ wr => l.length - posOf (wr.cell? ⟨w.heap.size + 1, 0, none⟩))
  case atStart => exact ⟨0, 0, 0, none, Nat.zero_le _, rfl, Lib.hid ⟨H0.out, [], OwnT.nil _ _, HR.out, Nat.zero_le _⟩⟩
  case round =>
    obtain ⟨n, c0, k, ao, hk, rfl, hG⟩ := hrel
    have cs := hG.out.1.s
    have ca := hG.out.1.a
    have HCA := Lib.hid ca
    clear H0
    by_cases hlt : k < l.length
    · have h3 : (k : Int) < (l.length : Int) := by omega
      obtain ⟨c, r, hd⟩ : ∃ c r, l.drop k = c :: r := by
        cases hx : l.drop k with
        | nil =>
          have := congrArg List.length hx
          simp only [List.length_drop, List.length_nil] at this
          omega
        | cons c r => exact ⟨c, r, rfl⟩
      have hdl : (c :: r).length = l.length - k := by rw [← hd, List.length_drop]
      have s1 := slice_txF (l := l) (i := k) hk (a := (k : Int)) rfl
      rw [hd] at s1
      have PG := code_gap c r (by have := HL.out; omega) wr
      obtain ⟨g, hg⟩ : ∃ g, g = gapL (c :: r) := ⟨_, rfl⟩
      have hgl := gap_le (c :: r)
      rw [← hg] at PG hgl
      obtain ⟨q, hq⟩ : ∃ q, q = k + g := ⟨_, rfl⟩
      have PT := code_take w wr l k g q hG.out.1 hq (by omega) (by have := HL.out; omega) ((c :: r).take g) (by rw [hd])
      have htl := tx_list ((c :: r).take g)
      have H1 : Hid (LcW w (wr.setCell ⟨w.heap.size + 1, 0, none⟩ (.int .i64 (q : Int))) l q) := Lib.hid (hG.out.1.set q)
      by_cases hg0 : g = 0
      · -- a token stands there
        obtain rfl : q = k := by omega
        have hte : (c :: r).take g = [] := by rw [hg0]; rfl
        rw [hte] at PT htl
        obtain ⟨acc, hown, happ, hacc⟩ := hG.out.2
        have HOWN := Lib.hid (own_tset hown (c := w.heap.size + 1) (by omega) (.int .i64 (q : Int)))
        have HAP := Lib.hid (And.intro happ (And.intro hacc (And.intro hd hdl)))
        obtain ⟨z1, z2⟩ := gap_zero (hg.symm.trans hg0)
        have PF := fun w' => code_first c r z1 z2 (by have := HL.out; omega) w'
        obtain ⟨S, hS⟩ : ∃ S, S = stepL (c :: r) := ⟨_, rfl⟩
        rw [← hS] at PF
        have HPF := Lib.hid PF
        have HS := Lib.hid hS
        clear hS PF hd hdl hown happ hacc hte hq hgl hg z1 z2
        subst hg0
        change Calls _ _ #[.int .i64 0, _, _] _ _ at PT
        go_wp2_with (first | (go_at_call 39; refine PG.mono ?_; rintro e w' ⟨rfl, rfl⟩) | (go_at_call 38; refine PT.mono ?_; rintro e w' ⟨rfl, rfl⟩))
        clear PG PT s1 htl cs ca hG
        obtain ⟨w2, hw2⟩ : ∃ w2, w2 = wr.setCell ⟨w.heap.size + 1, 0, none⟩ (.int .i64 (q : Int)) := ⟨_, rfl⟩
        rw [← hw2] at H1 HOWN
        rw [← hw2]
        clear hw2
        have HT2 : Hid (SgW w2) := Lib.hid (HT.out.later H1.out.b)
        refine (HPF.out w2 HT2.out).mono ?_
        rintro e w' ⟨hF, rfl⟩
        have cs := H1.out.s
        have ca := H1.out.a
        clear HPF
        cases S with
        | skip m => exact hF.elim
        | bad x =>
          obtain rfl := hF
          have hx : ¬ x = 0 := by rcases stepL_bad HS.out.symm with rfl | rfl <;> decide
          have hx2 : (x == 0) = false := by simpa using hx
          go_wp2_with fail
          go_ret3
          obtain ⟨h1, h2, h3, h4⟩ := HAP.out
          rw [h3, lexA_bad HS.out.symm] at h1
          have hR : R = ⟨[], x, q⟩ := by
            rw [← h1]
            unfold appL
            rw [if_neg hx]
          rw [hR]
          exact ⟨none, 0, 0, rfl, Tkr.nil _, H1.out.b⟩
        | tok kk N =>
          obtain rfl := hF
          have hN := (stepL_n (c := c) (r := r)).2 kk N HS.out.symm
          obtain ⟨q2, hq2⟩ : ∃ q2, q2 = q + N := ⟨_, rfl⟩
          have hq2l : q2 ≤ l.length := by have := HAP.out.2.2.2; simp only [List.length_cons] at this; omega
          obtain ⟨Q, hQ⟩ : ∃ Q, Q = (c :: r).take N := ⟨_, rfl⟩
          have PT2 := code_take w _ l q N q2 H1.out hq2 hq2l (by have := HL.out; omega) Q (by rw [HAP.out.2.2.1, hQ])
          have H2 := Lib.hid (And.intro (H1.out.set q2) (own_tset HOWN.out (c := w.heap.size + 1) (by omega) (.int .i64 (q2 : Int))))
          have HQ2 := Lib.hid (And.intro hq2 (And.intro hQ hN))
          have FL : Hid (n + 1 ≤ 1000000) := Lib.hid (by have := HOWN.out.1; have := HAP.out.2.1; have := HL.out; omega)
          clear hN hq2 hQ
          go_wp2_with (first | (go_at_call 38; refine PT2.mono ?_; rintro e w3 ⟨rfl, hw3⟩; have H3 := Lib.hid (show LcW w w3 l q2 ∧ OwnT w3 (w.heap.size + 2) (.slice ao n c0) n acc from hw3 ▸ H2.out); clear hw3) | (at_builtin; go_loud (refine wpList_append_gen elemTok rfl (.tmp 40) (.tmp 47) rfl (w.heap.size + 2) _ n _ rfl (H3.out.2.2.alloc _) _ 1 (tv ⟨kk, Q, q⟩) rfl (tok_lit _ ⟨kk, Q, q⟩) (tv_one _) (n + 1) rfl FL (by decide) (by have := H3.out.1.sz; simp; omega) ?_; intro ao6 c6 w6 hown6 hb6 _ _; have HA := Lib.hid (And.intro hown6 hb6); clear hown6 hb6)))
          have h6 : LcW w w6 l q2 := H3.out.1.below (((Below.refl _ _).alloc H3.out.1.sz _).trans HA.out.2)
          refine ⟨⟨n + 1, c6, q2, ao6, hq2l, rfl, Lib.hid ⟨h6, acc ++ [⟨kk, Q, q⟩], ⟨by rw [List.length_append, ← H3.out.2.1]; rfl, ?_⟩, ?_, ?_⟩⟩, ?_⟩
          · rw [tvs_snoc]
            exact HA.out.1
          · obtain ⟨h1, h2, h3, h4⟩ := HAP.out
            obtain ⟨h7, h8, h9⟩ := HQ2.out
            rw [appL_cons, h7, ← List.drop_drop, h3, h8, ← lexA_tok HS.out.symm, ← h3]
            exact h1
          · have := HAP.out.2.1
            have := HQ2.out
            rw [List.length_append, List.length_singleton]
            omega
          · rw [h6.a, HCA.out]
            have := HQ2.out
            simp only [posOf, Int.toNat_natCast]
            omega
      · have hte : ((c :: r).take g == []) = false := by
          cases g with
          | zero => exact absurd rfl hg0
          | succ g => rfl
        have hte2 : ¬ (c :: r).take g = [] := by simpa using hte
        have HX := Lib.hid (And.intro hd (And.intro hdl (And.intro hgl (And.intro hg (And.intro hq hG.out.2)))))
        clear hd hdl hgl hg hq hG
        generalize (c :: r).take g = Q at *
        go_wp2_with (first | (go_at_call 39; refine PG.mono ?_; rintro e w' ⟨rfl, rfl⟩) | (go_at_call 38; refine PT.mono ?_; rintro e w' ⟨rfl, rfl⟩))
        obtain ⟨hd, hdl, hgl, hg, hq, acc, hown, happ, hacc⟩ := HX.out
        refine ⟨⟨n, c0, q, ao, by omega, rfl, Lib.hid ⟨H1.out, acc, own_tset hown (by omega) _, ?_, by omega⟩⟩, ?_⟩
        · rw [hd, lexA_gap, ← hg, ← hd, List.drop_drop, ← hq] at happ
          exact happ
        · rw [H1.out.a, HCA.out]
          simp only [posOf, Int.toNat_natCast]
          omega
    · have h3 : ¬ (k : Int) < (l.length : Int) := by omega
      obtain rfl : k = l.length := by omega
      obtain ⟨acc, hown, happ, hacc⟩ := hG.out.2
      have HA0 := Lib.hid (And.intro hG.out.1 (And.intro hown (And.intro happ hacc)))
      have FL : Hid (n + 1 ≤ 1000000) := Lib.hid (by have := hown.1; have := HL.out; omega)
      clear hG hown happ hacc
      go_wp2_with (at_builtin; go_loud (refine wpList_append_gen elemTok rfl (.tmp 49) (.tmp 53) rfl (w.heap.size + 2) _ n _ rfl (HA0.out.2.1.2.alloc _) _ 1 (tv ⟨0, [], l.length⟩) rfl (tok_lit _ ⟨0, [], l.length⟩) (tv_one _) (n + 1) rfl FL (by decide) (by have := HA0.out.1.sz; simp; omega) ?_; intro ao6 c6 w6 hown6 hb6 _ _; have HA := Lib.hid (And.intro hown6 hb6); clear hown6 hb6))
      go_ret3
      have hR := HA0.out.2.2.1
      rw [List.drop_eq_nil_of_le (Nat.le_refl _), lexA_nil] at hR
      rw [← hR]
      exact ⟨ao6, n + 1, c6, rfl, OwnT.read ⟨by rw [HA0.out.2.1.1]; simp [appL], by rw [show (appL acc ⟨[⟨0, [], l.length⟩], 0, 0⟩).l = acc ++ [⟨0, [], l.length⟩] from rfl, tvs_snoc]; exact HA.out.1⟩ (by have := HA0.out.2.1.1; have := HA0.out.2.2.2; have := HL.out; omega), (HA0.out.1.b.alloc (Nat.le_trans (by omega) HA0.out.1.sz) _).trans (HA.out.2.mono (by omega))⟩

theorem lexK : LexK := ⟨fun l w ht => code_lex l w ht⟩

end Go.Proofs.YtlgfijjkbomejaaDoor
