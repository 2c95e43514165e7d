/- LexTexts, walked over what is asked of the code's lexer. Numbers and types by name. -/
import Derived.Test.YtcefcfipomfpkaaDoorLxl
import Derived.Test.YtcefcfipomfpkaaDoorMov
import Derived.Test.YtcefcfipomfpkaaDoorAdb
import Derived.Deep.Cut
import Derived.Deep.CutBlock
import Derived.Deep.CutRange
namespace Go.Proofs.YtcefcfipomfpkaaDoor
open Go.RowKit Go.Lib
set_option maxRecDepth 100000

theorem cells_t {w : World} {b : Nat} {cs : Array Value} {t : TypeId} (h : w.heap[b]? = some (.cells cs t (0, 0))) (j : Nat) (v : Value) (hj : cs[j]? = some v) : w.cell? ⟨b, j, none⟩ = some v := by
  simp only [World.cell?, h]
  simpa using hj
/-- Within a gap, one byte further. -/
theorem rem_next {l : List UInt8} {next k : Nat} {c : UInt8} (hk : next ≤ k) (hc : l[k]? = some c) : remF false ((l.drop next).take (k + 1 - next)) = ((remF false ((l.drop next).take (k - next)) && c != 10) || c == 35) := by
  have h1 : (l.drop next)[k - next]? = some c := by rw [List.getElem?_drop, show next + (k - next) = k by omega]; exact hc
  rw [show k + 1 - next = k - next + 1 by omega, List.take_add_one, h1]
  exact remF_snoc _ _ _
/-- The tokens from the i-th on are those of the rest. -/
def LeftAt (l : List UInt8) (L : List Tk) (next i : Nat) : Prop :=
  next ≤ l.length ∧ i ≤ L.length ∧ (i < L.length → (lexA next (l.drop next)).e = 0 ∧ L.drop i = (lexA next (l.drop next)).l) ∧ (i = L.length → ∃ t, L[L.length - 1]? = some t ∧ t.pos = l.length ∧ 0 < L.length)
theorem left_start {l : List UInt8} (h : (lexA 0 l).e = 0) : LeftAt l (lexA 0 l).l 0 0 := by
  have h1 := ((lexA_l _ 0 l (Nat.le_refl _)).1 h).1
  have h2 : 0 < (lexA 0 l).l.length := List.length_pos_iff.2 h1
  exact ⟨Nat.zero_le _, Nat.zero_le _, fun _ => ⟨h, rfl⟩, fun h3 => by omega⟩
theorem left_step {l : List UInt8} {L : List Tk} {next i : Nat} (h : LeftAt l L next i) (hi : i < L.length) : ∃ t l', L[i]? = some t ∧ HeadOk next (l.drop next) false t l' ∧ LeftAt l L (t.pos + t.text.length) (i + 1) ∧ (t.text == []) = decide (i + 1 = L.length) ∧ t.pos + t.text.length ≤ l.length := by
  obtain ⟨h1, h2, h3, h4⟩ := h
  obtain ⟨e0, e1⟩ := h3 hi
  obtain ⟨t, l', e2, ok⟩ := head_ok _ next (l.drop next) false (Nat.le_refl _) (fun h => by cases h) e0
  rw [e2] at e1
  have hl := congrArg List.length e1
  simp only [List.length_drop, List.length_cons] at hl
  have hLi : L[i]? = some t := by
    have : (L.drop i)[0]? = some t := by rw [e1]; rfl
    rwa [List.getElem?_drop, Nat.add_zero] at this
  have hd : L.drop (i + 1) = l' := by
    rw [← List.drop_drop, e1]
    rfl
  have hhi := ok.hi
  have hlo := ok.lo
  rw [List.length_drop] at hhi
  have hnil : l' = [] ↔ i + 1 = L.length := by
    rw [← List.length_eq_zero_iff]
    omega
  refine ⟨t, l', hLi, ok, ⟨by omega, by omega, fun hlt => ?_, fun heq => ?_⟩, ?_, by omega⟩
  · have hne : l' ≠ [] := fun hn => by have := hnil.1 hn; omega
    have := ok.next hne
    rw [List.drop_drop, show next + (t.pos + t.text.length - next) = t.pos + t.text.length by omega] at this
    exact ⟨this.1, hd.trans this.2⟩
  · refine ⟨t, by rw [show L.length - 1 = i by omega]; exact hLi, ?_, by omega⟩
    have := ok.fin (hnil.2 heq)
    rw [List.length_drop] at this
    omega
  · rw [Bool.eq_iff_iff, beq_iff_eq, decide_eq_true_eq, ok.last, hnil]

theorem int_eq (c d : UInt8) : (c == d) = ((c.toNat : Int) == (d.toNat : Int)) := by
  rw [Bool.eq_iff_iff, beq_iff_eq, beq_iff_eq, ← UInt8.toNat_inj]
  omega

set_option maxHeartbeats 8000000 in
theorem texts_lex (K : LexK) (l : List UInt8) (w : World) (ht : SgW w) : Calls Tryd.prog 4 #[.string (tx l)] w fun e w' => e = .returned (.bool true) ∧ Below w.heap.size w w' := by
  have hsz := tx_size l
  have HK := Lib.hid K
  have HT := Lib.hid ht
  by_cases hbig : 2000 < l.length
  · have h1 : (2000 : Int) < (l.length : Int) := by omega
    clear K ht
    go_enter Tryd.func4, Tryd.ntmps4
    go_wp2_with fail
    refine (awake_lex HK.out _ HT.out).mono ?_
    rintro e w' ⟨rfl, hb9⟩
    have H9 := Lib.hid hb9
    clear hb9
    go_wp2_with fail
    go_ret
    exact ⟨rfl, H9.out⟩
  have h1 : ¬ (2000 : Int) < (l.length : Int) := by omega
  have P1 := K.lex l w ht
  have hR0 : lexP l = lexA 0 l := if_neg (by omega)
  have hAL := lexA_l _ 0 l (Nat.le_refl _)
  have HLE := Lib.hid hbig
  rw [hR0] at P1
  have HST := Lib.hid (left_start (l := l))
  obtain ⟨R, hR⟩ : ∃ R, R = lexA 0 l := ⟨_, rfl⟩
  rw [← hR] at P1 hAL HST
  obtain ⟨L, re, rp⟩ := R
  clear hR hR0 hbig K ht
  by_cases he : re = 0
  case neg =>
    obtain rfl : L = [] := hAL.2 he
    have he2 : (re != 0) = true := by simpa using he
    clear hAL
    go_enter Tryd.func4, Tryd.ntmps4
    go_wp2_with fail
    refine P1.mono ?_
    rintro e w1 ⟨a1, n1, c1, rfl, hT1, hb1⟩
    obtain rfl : n1 = 0 := hT1.1
    have H1 := Lib.hid hb1
    clear hT1 hb1 P1
    go_wp2_with (first | (go_at_call 12; refine (lnum_at _ _).mono ?_; rintro e w' ⟨rfl, rfl⟩) | (go_at_call 8; refine (awake_lex HK.out _ (HT.out.later H1.out)).mono ?_; rintro e w' ⟨rfl, hb9⟩; have H9 := Lib.hid (H1.out.trans (hb9.mono H1.out.size)); clear hb9))
    go_ret
    exact ⟨rfl, H9.out⟩
  subst he
  have HS := Lib.hid (HST.out rfl)
  clear hAL HST
  go_enter Tryd.func4, Tryd.ntmps4
  go_wp2_with fail
  refine P1.mono ?_
  rintro e w1 ⟨a1, n1, c1, rfl, hT1, hb1⟩
  have H1 := Lib.hid (And.intro hT1 hb1)
  have HN1 := Lib.hid hT1.1
  have hn9 := hT1.2.1
  clear hT1 hb1 P1
  go_wp2_with (go_at_call 12; refine (lnum_at _ _).mono ?_; rintro e w' ⟨rfl, rfl⟩)
  go_loopw [6, 7] (fun x y wr => ∃ next i : Nat, i ≤ n1 ∧ x = .int .i64 next ∧ y = .int .i64 i ∧ Hid (LeftAt l L next i ∧ Below w1.heap.size w1 wr))
    (fun _ y _ => n1 - (RowKit.intOf y).toNat)
  case atStart => exact ⟨0, 0, Nat.zero_le _, rfl, rfl, Lib.hid ⟨HS.out, Below.refl _ _⟩⟩
  case round =>
    obtain ⟨next, i, hi, rfl, rfl, hG⟩ := hrel
    by_cases hlt : i < n1
    · have h3 : (i : Int) < (n1 : Int) := by omega
      obtain ⟨t, l', hLi, ok, hnext, hlast, hend⟩ := left_step hG.out.1 (by have := HN1.out; omega)
      obtain ⟨a, o, rfl, hLo, d0, d1, d2⟩ := (H1.out.1.later hG.out.2).at hlt
      obtain rfl : t = o := by rw [hLi] at hLo; exact Option.some.inj hLo
      have HOK := Lib.hid (And.intro ok (And.intro hnext hend))
      have hlo := ok.lo
      have hs1 := slice_tx (l := l) (i := t.pos) (j := t.pos + t.text.length) (o := t.text) (by omega) hend (by
        rw [Nat.add_sub_cancel_left]
        have := ok.txt
        rwa [List.drop_drop, show next + (t.pos - next) = t.pos by omega] at this) (a := (t.pos : Int)) (b := (t.pos : Int) + (t.text.length : Int)) rfl (by omega)
      have hb9 : Hid (Below w1.heap.size w1 (wr.alloc (.cells #[.int .i64 t.kind, .string (tx t.text), .int .i64 (t.pos : Int)] 33)).drew) := Lib.hid ((hG.out.2.alloc hG.out.2.size _).trans (below_drewN (Below.refl _ _) 1))
      have hnew := heap_alloc_new wr (.cells #[.int .i64 t.kind, .string (tx t.text), .int .i64 (t.pos : Int)] 33)
      clear hLi hLo ok hnext hG
      obtain ⟨tk, tt, tp⟩ := t
      simp only at d0 d1 d2 hlast hlo hend hs1 hnew
      have m0 : ∀ w', Grow (wr.alloc (.cells #[.int .i64 tk, .string (tx tt), .int .i64 (tp : Int)] 33)).drew w' → w'.cell? ⟨wr.heap.size, 1, none⟩ = some (.string (tx tt)) := fun w' hg => grow_cell hg (cells_t hnew 1 _ rfl)
      have m1 : ∀ w', Grow (wr.alloc (.cells #[.int .i64 tk, .string (tx tt), .int .i64 (tp : Int)] 33)).drew w' → w'.cell? ⟨wr.heap.size, 2, none⟩ = some (.int .i64 (tp : Int)) := fun w' hg => grow_cell hg (cells_t hnew 2 _ rfl)
      have ht0 := tx_list tt
      have hsz2 := tx_size tt
      have g1 : ¬ (tp : Int) < (next : Int) := by omega
      have g2 : wrap64 ((tp : Int) + (tt.length : Int)) = (tp : Int) + (tt.length : Int) := wrap64_id _ (by have := HLE.out; omega)
      have g3 : ¬ (l.length : Int) < (tp : Int) + (tt.length : Int) := by omega
      have g4 : wrap64 ((n1 : Int) - 1) = (n1 : Int) - 1 := wrap64_id _ (by omega)
      have g6 : IntKind.i64.wrap ((tp : Int) + (tt.length : Int)) = (tp : Int) + (tt.length : Int) := by rw [IntKind.wrap_i64]; have := HLE.out; omega
      have g7 : (tp : Int) + (tt.length : Int) ≤ (l.length : Int) := by omega
      have g8 : IntKind.i64.wrap ((n1 : Int) - 1) = (n1 : Int) - 1 := by rw [IntKind.wrap_i64]; omega
      have g9 : (next : Int) ≤ (tp : Int) := by omega
      obtain ⟨B, hB⟩ : ∃ B, (tt == []) = B := ⟨_, rfl⟩
      have g5 : ((i : Int) == (n1 : Int) - 1) = B := by
        rw [← hB, hlast, Bool.eq_iff_iff, beq_iff_eq, decide_eq_true_eq]
        have := HN1.out
        omega
      clear hlast
      go_wp2_with fail
      clear d0 d1 d2
      refine wp_region_mv [(0, 41, true)] (by kernel_rfl) (by kernel_rfl) ?_
      simp only [mvAll, mvSeg, List.drop_succ_cons, List.drop_zero, List.cons_append, List.nil_append, Nat.reduceAdd]
      iterate 41
        refine wpLin_still ?_ (fun w' hG K hK => ?_) (fun K hK => ?_)
        rotate_left
        · have v0 := m0 w' hG
          have v1 := m1 w' hG
          clear hG
          unfold mvVal
          go_simp
          try exact hK
        go_simp
        refine hK _ ?_
        clear hK K
      refine wpLin_nil ?_
      have m2 := m1 _ (Grow.refl _)
      have m3 := m0 _ (Grow.refl _)
      clear m0 m1 hs1
      have g11 : (B == B) = true := by simp
      have g12 : (B != B) = false := by simp
      go_wp2_with fail
      have HG2 := Lib.hid g2
      clear g2 g4 g5 g6 g8 g11 g12
      have g13 : decide (tp < next) = false := decide_eq_false (by omega)
      have g14 : decide ((tp : Int) < (next : Int)) = false := decide_eq_false (by omega)
      try rw [g13]
      try rw [g14]
      have g15 : decide ((l.length : Int) < (tp : Int) + (tt.length : Int)) = false := decide_eq_false (by omega)
      rw [g15, show (false || false) = false from rfl]
      clear g13 g14 g15
      go_loopw [9, 10] (fun x y wr2 => ∃ (k : Nat) (m : Bool), next ≤ k ∧ k ≤ tp ∧ x = .bool m ∧ y = .int .i64 k ∧ Hid (m = remF false ((l.drop next).take (k - next))) ∧ (wr.alloc (.cells #[.int .i64 tk, .string (tx tt), .int .i64 (tp : Int)] 33)).drew = wr2)
        (fun _ y _ => tp - (RowKit.intOf y).toNat)
      case atStart => exact ⟨next, false, Nat.le_refl _, hlo, rfl, rfl, Lib.hid (by rw [Nat.sub_self]; rfl), rfl⟩
      case round =>
        obtain ⟨k, m, hk1, hk2, rfl, rfl, hm, rfl⟩ := hrel
        by_cases hkt : k < tp
        · have h4 : (k : Int) < (tp : Int) := by omega
          obtain ⟨c, hc⟩ : ∃ c, l[k]? = some c := ⟨_, List.getElem?_eq_getElem (by omega)⟩
          have hb2 := tx_at hc (by rw [hsz]; omega)
          have hgap := HOK.out.1.gap (k - next) c (by show k - next < tp - next; omega) (by rw [List.getElem?_drop, show next + (k - next) = k by omega]; exact hc)
          rw [show k - next + 1 = k + 1 - next by omega, rem_next hk1 hc, ← hm.out] at hgap
          have hM : Hid (((m && c != 10) || c == 35) = remF false ((l.drop next).take (k + 1 - next))) := Lib.hid (by rw [rem_next hk1 hc, ← hm.out])
          obtain ⟨b10, q10⟩ : ∃ b, (c == 10) = b := ⟨_, rfl⟩
          obtain ⟨b35, q35⟩ : ∃ b, (c == 35) = b := ⟨_, rfl⟩
          have r10 : ((c.toNat : Int) == 10) = b10 := by rw [← q10]; exact (int_eq c 10).symm
          have r35 : ((c.toNat : Int) == 35) = b35 := by rw [← q35]; exact (int_eq c 35).symm
          have r10n : ((c.toNat : Int) != 10) = !b10 := by rw [← r10]; rfl
          rw [spc_int, q35, show (c != 10) = !b10 by rw [← q10]; rfl, r10] at hgap
          rw [q35, show (c != 10) = !b10 by rw [← q10]; rfl] at hM
          have HGP := Lib.hid hgap
          have hwr : wrap64 ((k : Int) + 1) = ((k + 1 : Nat) : Int) := by rw [wrap64_id _ (by have := HLE.out; omega)]; omega
          have HWR := Lib.hid hwr
          clear hc q10 q35 hgap
          obtain ⟨M, hMM⟩ : ∃ M, M = ((m && !b10) || b35) := ⟨_, rfl⟩
          have HM2 := Lib.hid hMM
          have HRM : Hid (M = remF false ((l.drop next).take (k + 1 - next))) := Lib.hid (hMM.trans hM.out)
          have HGM : Hid (M = true ∨ (((c.toNat : Int) == 32) || ((c.toNat : Int) == 9) || b10 || ((c.toNat : Int) == 13)) = true) := Lib.hid (by rw [hMM]; exact HGP.out)
          clear hMM
          go_upto_region 18 with fail
          go_cut [9] from 83 to 118 (fun s9 wx => (wr.alloc (.cells #[.int .i64 tk, .string (tx tt), .int .i64 (tp : Int)] 33)).drew = wx ∧ s9 = .bool M)
          case first =>
            cases m <;> cases b10 <;> cases b35 <;>
            · go_wp2_with fail
              go_meet
              exact ⟨rfl, by rw [HM2.out]; rfl⟩
          case rest =>
            obtain ⟨rfl, rfl⟩ := hcut
            cases M with
            | true =>
              go_wp2_with fail
              go_roundw
              case rel => exact ⟨k + 1, true, by omega, by omega, rfl, by go_num, HRM, by first | rfl | trivial⟩
              case measure => simp [RowKit.intOf]; omega
            | false =>
              go_wp2_with fail
              all_goals try (exfalso; have := HGM.out; simp_all; done)
              all_goals go_roundw
              all_goals first
                | exact ⟨k + 1, false, by omega, by omega, rfl, by rw [HWR.out], HRM, by first | rfl | trivial⟩
                | exact ⟨k + 1, false, by omega, by omega, rfl, by go_num, HRM, by first | rfl | trivial⟩
                | (simp only [RowKit.intOf, Int.toNat_natCast]; have hw := HWR.out; omega)
                | (simp only [RowKit.intOf, Int.toNat_natCast]; omega)
                | (simp [RowKit.intOf]; omega)
        · have h4 : ¬ (k : Int) < (tp : Int) := by omega
          have g2 := HG2.out
          go_wp2_with fail
          exact ⟨⟨tp + tt.length, i + 1, by omega, by first | rfl | (rw [Int.natCast_add]) | (rw [g2, Int.natCast_add]), by go_num, Lib.hid ⟨HOK.out.2.1, hb9.out⟩⟩, by simp [RowKit.intOf]; omega⟩
    · have h3 : ¬ (i : Int) < (n1 : Int) := by omega
      obtain rfl : i = n1 := by omega
      obtain ⟨t, hLt, htp, hL0⟩ := hG.out.1.2.2.2 HN1.out
      obtain ⟨m, rfl⟩ : ∃ m, i = m + 1 := ⟨i - 1, by have := HN1.out; omega⟩
      obtain ⟨a, o, rfl, hLo, d0, d1, d2⟩ := (H1.out.1.later hG.out.2).at (k := m) (by omega)
      obtain rfl : t = o := by
        rw [← HN1.out, Nat.add_sub_cancel] at hLt
        rw [hLt] at hLo
        exact Option.some.inj hLo
      rw [htp] at d2
      have e1 : wrap64 (m : Int) = (m : Int) := wrap64_id _ (by omega)
      have e2 : wrap64 ((m : Int) + 1 - 1) = (m : Int) := by rw [wrap64_id _ (by omega)]; omega
      have hb9 : Hid (Below w.heap.size w wr) := Lib.hid (H1.out.2.trans (hG.out.2.mono H1.out.2.size))
      clear hLt htp hL0 hLo d0 d1 hG
      go_wp2_with (go_at_call 8; refine (awake_lex HK.out _ (HT.out.later hb9.out)).mono ?_; rintro e w' ⟨rfl, hb8⟩; have H9 := Lib.hid (hb9.out.trans (hb8.mono hb9.out.size)); clear hb8)
      go_ret
      exact ⟨rfl, H9.out⟩
theorem texts_lexS (K : LexK) (s : ByteArray) (w : World) (ht : SgW w) : Calls Tryd.prog 4 #[.string s] w fun e w' => e = .returned (.bool true) ∧ Below w.heap.size w w' := by
  obtain ⟨l, rfl⟩ : ∃ l, s = tx l := ⟨_, tx_of rfl⟩
  exact texts_lex K l w ht

end Go.Proofs.YtcefcfipomfpkaaDoor
