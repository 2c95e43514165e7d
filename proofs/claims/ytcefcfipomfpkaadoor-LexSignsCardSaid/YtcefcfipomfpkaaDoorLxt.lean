/- LexJoins, walked over what is asked of the code's lexer. Numbers and types by name. -/
import Derived.Test.YtcefcfipomfpkaaDoorLxm
namespace Go.Proofs.YtcefcfipomfpkaaDoor
open Go.RowKit Go.Lib
set_option maxRecDepth 100000

theorem tx_append (a b : List UInt8) : tx a ++ tx b = tx (a ++ b) := by
  unfold tx
  apply ByteArray.ext
  simp
theorem tx_line (a b : List UInt8) : tx a ++ (⟨#[10]⟩ : ByteArray) ++ tx b = tx (a ++ 10 :: b) := by
  rw [show (⟨#[10]⟩ : ByteArray) = tx [10] from rfl, tx_append, tx_append]
  simp
theorem lexP_small {l : List UInt8} (h : l.length ≤ 8192) : lexP l = lexA 0 l := if_neg (by omega)
/-- The tokens of both. -/
theorem joined_l {a b : List UInt8} (ha : (lexA 0 a).e = 0) (hb : (lexA 0 b).e = 0) (h1 : a.length ≤ 300) (h2 : b.length ≤ 300) :
    lexP (a ++ 10 :: b) = ⟨(lexA 0 a).l.dropLast ++ (lexA 0 b).l.map (shiftT (a.length + 1)), 0, 0⟩ := by
  rw [lexP_small (by simp; omega), lexA_join b _ 0 a (Nat.le_refl _) ha]
  obtain ⟨s1, s2⟩ := lexA_shift (a.length + 1) _ 0 b (Nat.le_refl _)
  rw [show 0 + a.length + 1 = 0 + (a.length + 1) by omega]
  have hp := ((lexA_l _ (0 + (a.length + 1)) b (Nat.le_refl _)).1 (s2.trans hb)).2
  unfold appL
  rw [s2.trans hb, hp, s1, if_pos rfl]

/-- Tokens begin within the text. -/
theorem lexA_pos : ∀ (k i : Nat) (r : List UInt8), r.length ≤ k → ∀ t ∈ (lexA i r).l, t.pos ≤ i + r.length
  | _, i, [], _ => by
    rw [lexA_nil]
    intro t ht
    simp only [List.mem_singleton] at ht
    subst ht
    exact Nat.le_refl _
  | 0, _, c :: r, h => by simp at h
  | k + 1, i, c :: r, h => by
    simp only [List.length_cons] at h
    intro t ht
    cases hs : stepL (c :: r) with
    | skip n =>
      have hn := (stepL_n (c := c) (r := r)).1 n hs
      rw [lexA_skip hs] at ht
      have := lexA_pos k _ _ (by simp only [List.length_drop, List.length_cons]; omega) t ht
      simp only [List.length_drop, List.length_cons] at this ⊢
      omega
    | tok j n =>
      have hn := (stepL_n (c := c) (r := r)).2 j n hs
      rw [lexA_tok hs] at ht
      unfold consL at ht
      simp only at ht
      have hrest : ∀ t ∈ (lexA (i + n) ((c :: r).drop n)).l, t.pos ≤ i + (c :: r).length := fun t ht => by
        have := lexA_pos k _ _ (by simp only [List.length_drop, List.length_cons]; omega) t ht
        simp only [List.length_drop, List.length_cons] at this ⊢
        omega
      split at ht
      · rcases List.mem_cons.1 ht with rfl | ht
        · exact Nat.le_add_right _ _
        · exact hrest t ht
      · exact hrest t ht
    | bad e =>
      rw [lexA_bad hs] at ht
      cases ht

theorem joined_lo {A B : List Tk} {m i : Nat} {t : Tk} (hi : i + 1 < A.length) (ht : A[i]? = some t) : (A.dropLast ++ B.map (shiftT m))[i]? = some t := by
  rw [List.getElem?_append_left (by simp; omega), List.getElem?_dropLast, if_pos (by omega)]
  exact ht
theorem joined_hi {A B : List Tk} {m i j : Nat} {t : Tk} (hi : A.length ≤ i + 1) (hA : A ≠ []) (hj : j + A.length = i + 1) (ht : B[j]? = some t) : (A.dropLast ++ B.map (shiftT m))[i]? = some (shiftT m t) := by
  have := List.length_pos_iff.2 hA
  rw [List.getElem?_append_right (by simp; omega), List.length_dropLast, List.getElem?_map, show i - (A.length - 1) = j by omega, ht]
  rfl

set_option maxHeartbeats 8000000 in
theorem joins_lex (K : LexK) (a b : List UInt8) (w : World) (ht : SgW w) : Calls Tryd.prog 5 #[.string (tx a), .string (tx b)] w fun e w' => e = .returned (.bool true) ∧ Below w.heap.size w w' := by
  have hz1 := tx_size a
  have hz2 := tx_size b
  have HK := Lib.hid K
  have HT := Lib.hid ht
  by_cases hbig : 300 < a.length ∨ 300 < b.length
  · have hor : (300 : Int) < (a.length : Int) ∨ (¬ (300 : Int) < (a.length : Int) ∧ (300 : Int) < (b.length : Int)) := by omega
    clear K ht hbig
    rcases hor with h1 | ⟨h1, h2⟩ <;>
    · go_enter Tryd.func5, Tryd.ntmps5
      go_wp2_with fail
      refine (awake_lex HK.out _ HT.out).mono ?_
      rintro e w' ⟨rfl, hb9⟩
      have H9 := Lib.hid hb9
      clear hb9
      go_wp2_with fail
      go_ret
      exact ⟨rfl, H9.out⟩
  have h1 : ¬ (300 : Int) < (a.length : Int) := by omega
  have h2 : ¬ (300 : Int) < (b.length : Int) := by omega
  have P1 := K.lex a w ht
  have P2 := fun w' hw => K.lex b w' hw
  have HJ := Lib.hid (@joined_l a b)
  rw [lexP_small (by omega)] at P1
  rw [lexP_small (l := b) (by omega)] at P2
  have hA := lexA_l _ 0 a (Nat.le_refl _)
  have hB := lexA_l _ 0 b (Nat.le_refl _)
  have hPB : ∀ t ∈ (lexA 0 b).l, t.pos ≤ 300 := fun t ht => by
    have := lexA_pos _ 0 b (Nat.le_refl _) t ht
    omega
  obtain ⟨RA, hRA⟩ : ∃ R, R = lexA 0 a := ⟨_, rfl⟩
  obtain ⟨RB, hRB⟩ : ∃ R, R = lexA 0 b := ⟨_, rfl⟩
  rw [← hRA] at P1 hA HJ
  rw [← hRB] at P2 hB HJ hPB
  clear hRA hRB K ht
  obtain ⟨A, ea, pa⟩ := RA
  obtain ⟨B, eb, pb⟩ := RB
  simp only at hA hB hPB
  have HPB := Lib.hid hPB
  clear hPB
  have HP2 := Lib.hid P2
  have HAB := Lib.hid (And.intro hA hB)
  have HLE := Lib.hid hbig
  clear P2 hA hB hbig
  by_cases he : ea = 0 ∧ eb = 0
  case neg =>
    have hor : (ea == 0) = false ∨ (ea = 0 ∧ (eb == 0) = false) := by
      by_cases h : ea = 0
      · exact .inr ⟨h, by simp; intro h2; exact he ⟨h, h2⟩⟩
      · exact .inl (by simpa using h)
    clear he
    rcases hor with q1 | ⟨q1, q2⟩ <;>
    · go_enter Tryd.func5, Tryd.ntmps5
      go_wp2_with fail
      refine P1.mono ?_
      rintro e w1 ⟨a1, n1, c1, rfl, hT1, hb1⟩
      have H1 := Lib.hid (And.intro hT1 hb1)
      clear hT1 hb1 P1
      go_wp2_with fail
      refine (HP2.out w1 (HT.out.later H1.out.2)).mono ?_
      rintro e w2 ⟨a2, n2, c2, rfl, hT2, hb2⟩
      have H2 := Lib.hid (H1.out.2.trans (hb2.mono H1.out.2.size))
      clear hT2 hb2
      go_wp2_with (first | (go_at_call 12; refine (lnum_at _ _).mono ?_; rintro e w' ⟨rfl, rfl⟩) | (go_at_call 8; refine (awake_lex HK.out _ (HT.out.later H2.out)).mono ?_; rintro e w' ⟨rfl, hb9⟩; have H9 := Lib.hid (H2.out.trans (hb9.mono H2.out.size)); clear hb9))
      go_ret
      exact ⟨rfl, H9.out⟩
  obtain ⟨rfl, rfl⟩ := he
  have hj := HJ.out rfl rfl (by omega) (by omega)
  simp only at hj
  have P3 := fun w' hw => HK.out.lex (a ++ 10 :: b) w' hw
  rw [hj] at P3
  have HP3 := Lib.hid P3
  have hcat := tx_line a b
  clear P3 hj HJ
  go_enter Tryd.func5, Tryd.ntmps5
  go_wp2_with fail
  refine P1.mono ?_
  rintro e w1 ⟨a1, n1, c1, rfl, hT1, hb1⟩
  have H1 := Lib.hid (And.intro hT1 hb1)
  clear hT1 hb1 P1
  go_wp2_with fail
  refine (HP2.out w1 (HT.out.later H1.out.2)).mono ?_
  rintro e w2 ⟨a2, n2, c2, rfl, hT2, hb2⟩
  have H2 := Lib.hid (And.intro (H1.out.1.later hb2) (And.intro hT2 (H1.out.2.trans (hb2.mono H1.out.2.size))))
  clear hT2 hb2
  go_wp2_with (go_at_call 12; refine (lnum_at _ _).mono ?_; rintro e w' ⟨rfl, rfl⟩)
  refine (HP3.out w2 (HT.out.later H2.out.2.2)).mono ?_
  rintro e w3 ⟨a3, n3, c3, rfl, hT3, hb3⟩
  have H3 := Lib.hid (And.intro (H2.out.1.later hb3) (And.intro (H2.out.2.1.later hb3) (And.intro hT3 (H2.out.2.2.trans (hb3.mono H2.out.2.2.size)))))
  have e1 := H3.out.1.1
  have e2 := H3.out.2.1.1
  have e3 := hT3.1
  have b1 := H3.out.1.2.1
  have b2 := H3.out.2.1.2.1
  have hAn := (HAB.out.1.1 (by first | rfl | trivial)).1
  have hBn := (HAB.out.2.1 (by first | rfl | trivial)).1
  have pA := List.length_pos_iff.2 hAn
  have pB := List.length_pos_iff.2 hBn
  rw [List.length_append, List.length_dropLast, List.length_map] at e3
  have hn3 : n3 + 1 = n1 + n2 := by omega
  have hn1 : 1 ≤ n1 := by omega
  have hn2 : 1 ≤ n2 := by omega
  have HE := Lib.hid (And.intro e1 (And.intro e2 (And.intro hAn hBn)))
  clear hT3 hb3 HP3 HP2 e1 e2 e3 hAn hBn pA pB H1 H2 hcat
  have g2 : wrap64 ((n1 : Int) + (n2 : Int)) = (n1 : Int) + (n2 : Int) := wrap64_id _ (by omega)
  have g3 : wrap64 ((n1 : Int) + (n2 : Int) - 1) = (n3 : Int) := by rw [wrap64_id _ (by omega)]; omega
  go_wp2_with (go_at_call 12; refine (lnum_at _ _).mono ?_; rintro e w' ⟨rfl, rfl⟩)
  clear g2 g3
  have g4 : wrap64 ((n1 : Int) - 1) = (n1 : Int) - 1 := wrap64_id _ (by omega)
  go_loopw [14] (fun y wr => ∃ i : Nat, i ≤ n3 ∧ y = .int .i64 i ∧ Hid (Below w3.heap.size w3 wr))
    (fun y _ => n3 - (RowKit.intOf y).toNat)
  case atStart => exact ⟨0, Nat.zero_le _, rfl, Lib.hid (Below.refl _ _)⟩
  case round =>
    obtain ⟨i, hi, rfl, hG⟩ := hrel
    by_cases hlt : i < n3
    · have h3 : (i : Int) < (n3 : Int) := by omega
      by_cases hlo : i + 1 < n1
      · have h4 : (i : Int) < (n1 : Int) - 1 := by omega
        obtain ⟨x1, t, rfl, ht, c0, c1', c2'⟩ := (H3.out.1.later (hG.out.alloc hG.out.size (.cells #[.int .i64 0, .string ⟨#[]⟩, .int .i64 0] 33))).at (k := i) (by omega)
        obtain ⟨tk, tt, tp⟩ := t
        simp only at c0 c1' c2'
        have HTK := Lib.hid ht
        clear ht
        go_upto_region 18 with fail
        have hB2 : Below w3.heap.size w3 (wr.alloc (.cells #[.int .i64 tk, .string (tx tt), .int .i64 (tp : Int)] 33)) := hG.out.alloc hG.out.size _
        have hnew := heap_alloc_new wr (.cells #[.int .i64 tk, .string (tx tt), .int .i64 (tp : Int)] 33)
        have m0 := cells_t hnew 0 _ rfl
        have m1 := cells_t hnew 1 _ rfl
        have m2 := cells_t hnew 2 _ rfl
        obtain ⟨x3, t3, rfl, ht3, d0, d1, d2⟩ := (H3.out.2.2.1.later hB2).at (k := i) hlt
        obtain rfl : (⟨tk, tt, tp⟩ : Tk) = t3 := by
          have := joined_lo (B := B) (m := a.length + 1) (by have := HE.out.1; omega) HTK.out
          rw [this] at ht3
          exact Option.some.inj ht3
        simp only at d0 d1 d2
        have y1 := tx_list tt
        have HB2 := Lib.hid hB2
        clear hB2 hnew ht3 c0 c1' c2' hG
        generalize hgz : wr.heap.size = gz at *
        generalize (wr.alloc (.cells #[.int .i64 tk, .string (tx tt), .int .i64 (tp : Int)] 33)) = W2 at *
        clear hgz
        go_quiet (fail)
        go_wp2
        exact ⟨⟨i + 1, by omega, by go_num, Lib.hid (below_drewN HB2.out _)⟩, by simp [RowKit.intOf]; omega⟩
      · have h4 : ¬ (i : Int) < (n1 : Int) - 1 := by omega
        obtain ⟨j, hj⟩ : ∃ j, j + n1 = i + 1 := ⟨i + 1 - n1, by omega⟩
        have hjn : j < n2 := by omega
        have hjn2 : (j : Int) < (n2 : Int) := by omega
        have f1 : (i : Int) - (n1 : Int) + 1 = (j : Int) := by omega
        obtain ⟨x2, t, rfl, ht, c0, c1', c2'⟩ := (H3.out.2.1.later (hG.out.alloc hG.out.size (.cells #[.int .i64 0, .string ⟨#[]⟩, .int .i64 0] 33))).at (k := j) hjn
        obtain ⟨tk, tt, tp⟩ := t
        simp only at c0 c1' c2'
        have hpp : tp ≤ 300 := HPB.out _ (List.mem_of_getElem? ht)
        obtain ⟨q, hq⟩ : ∃ q : Nat, q = tp + (a.length + 1) := ⟨_, rfl⟩
        have f2 : (tp : Int) + (a.length : Int) + 1 = (q : Int) := by omega
        have HTK := Lib.hid (And.intro ht (And.intro hj hq))
        clear ht hq
        go_upto_region 18 with fail
        have hB2 : Below w3.heap.size w3 (wr.alloc (.cells #[.int .i64 tk, .string (tx tt), .int .i64 (q : Int)] 33)) := hG.out.alloc hG.out.size _
        have hnew := heap_alloc_new wr (.cells #[.int .i64 tk, .string (tx tt), .int .i64 (q : Int)] 33)
        have m0 := cells_t hnew 0 _ rfl
        have m1 := cells_t hnew 1 _ rfl
        have m2 := cells_t hnew 2 _ rfl
        obtain ⟨x3, t3, rfl, ht3, d0, d1, d2⟩ := (H3.out.2.2.1.later hB2).at (k := i) hlt
        obtain rfl : (⟨tk, tt, q⟩ : Tk) = t3 := by
          have := joined_hi (A := A) (i := i) (j := j) (m := a.length + 1) (by have := HE.out.1; omega) HE.out.2.2.1 (by have := HE.out.1; have := HTK.out.2.1; omega) HTK.out.1
          rw [this] at ht3
          have := Option.some.inj ht3
          rw [← this, HTK.out.2.2]
          rfl
        simp only at d0 d1 d2
        have y1 := tx_list tt
        have HB2 := Lib.hid hB2
        clear hB2 hnew ht3 c0 c1' c2' hG
        generalize hgz : wr.heap.size = gz at *
        generalize (wr.alloc (.cells #[.int .i64 tk, .string (tx tt), .int .i64 (q : Int)] 33)) = W2 at *
        clear hgz
        go_quiet (fail)
        go_wp2
        exact ⟨⟨i + 1, by omega, by go_num, Lib.hid (below_drewN HB2.out _)⟩, by simp [RowKit.intOf]; omega⟩
    · have h3 : ¬ (i : Int) < (n3 : Int) := by omega
      go_wp2_with (go_at_call 8; refine (awake_lex HK.out _ (HT.out.later (H3.out.2.2.2.trans (hG.out.mono H3.out.2.2.2.size)))).mono ?_; rintro e w' ⟨rfl, hb8⟩; have H9 := Lib.hid ((H3.out.2.2.2.trans (hG.out.mono H3.out.2.2.2.size)).trans (hb8.mono (Nat.le_trans H3.out.2.2.2.size hG.out.size))); clear hb8)
      go_ret
      exact ⟨rfl, H9.out⟩
theorem joins_lexS (K : LexK) (a b : ByteArray) (w : World) (ht : SgW w) : Calls Tryd.prog 5 #[.string a, .string b] w fun e w' => e = .returned (.bool true) ∧ Below w.heap.size w w' := by
  obtain ⟨a, rfl⟩ : ∃ l, a = tx l := ⟨_, tx_of rfl⟩
  obtain ⟨b, rfl⟩ : ∃ l, b = tx l := ⟨_, tx_of rfl⟩
  exact joins_lex K a b w ht

end Go.Proofs.YtcefcfipomfpkaaDoor
