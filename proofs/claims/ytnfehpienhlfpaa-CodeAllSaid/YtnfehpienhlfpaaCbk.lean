/- Texts; CodeBack, walked. Numbers and types by name. -/
import Derived.Test.YtnfehpienhlfpaaCcu
namespace Go.Proofs.Ytnfehpienhlfpaa
open Go.RowKit Go.Lib

theorem text_inj {s t : ByteArray} (h : s.toList = t.toList) : s = t := by
  rw [ByteArray.toList_eq, ByteArray.toList_eq] at h
  obtain ⟨⟨a⟩⟩ := s
  obtain ⟨⟨b⟩⟩ := t
  simp only at h
  rw [h]

/-- What Texts tells. -/
def SameTold (L M : List ByteArray) (w : World) (e : Ending) (w' : World) : Prop := ∃ b k, e = .returned (.bool b) ∧ w' = w.drewN k ∧ (b = true ↔ L = M)

theorem Texts.drewN {w : World} {v : Value} {n : Nat} {L : List ByteArray} (h : Texts w v n L) (k : Nat) : Texts (w.drewN k) v n L := h

theorem texts_same (v1 v2 : Value) (n m : Nat) (L M : List ByteArray) (w : World) (h1 : Texts w v1 n L) (h2 : Texts w v2 m M) :
    Calls Try.prog 18 #[v1, v2] w (SameTold L M w) := by
  obtain ⟨a1, c1, rfl⟩ := h1.shape
  obtain ⟨a2, c2, rfl⟩ := h2.shape
  have H1 := Lib.hid h1
  have H2 := Lib.hid h2
  have hm := h1.2.2.1
  have hm2 := h2.2.2.1
  unfold maxLen at hm hm2
  clear h1 h2
  by_cases hne : n = m
  · subst hne
    clear hm2
    go_enter Try.func18, Try.ntmps18
    go_wp2_with fail
    go_loopw [5] (fun i wr => ∃ k q : Nat, k ≤ n ∧ i = .int .i64 k ∧ wr = w.drewN q ∧ Hid (L.take k = M.take k))
      (fun i _ => n - (intOf i).toNat)
    case atStart => exact ⟨0, 0, Nat.zero_le _, rfl, rfl, Lib.hid rfl⟩
    case round =>
      obtain ⟨k, q, hk, rfl, rfl, hs⟩ := hrel
      by_cases h1 : k < n
      · have h3 : (k : Int) < (n : Int) := by omega
        obtain ⟨x1, s1, rfl, e1, hc1, hz1⟩ := H1.out.at h1
        obtain ⟨x2, s2, rfl, e2, hc2, hz2⟩ := H2.out.at h1
        have HE := Lib.hid (And.intro e1 e2)
        have hd1 : ∀ q, (w.drewN q).cell? (x1.add k) = some (.string s1) := fun _ => hc1
        have hd2 : ∀ q, (w.drewN q).cell? (x2.add k) = some (.string s2) := fun _ => hc2
        clear hz1 hz2 hc1 hc2
        cases hs12 : (s1.toList == s2.toList) with
        | true =>
          have hst : s1 = s2 := text_inj (by simpa using hs12)
          have hs' := hs.out
          have HN : Hid (L.take (k + 1) = M.take (k + 1)) := Lib.hid (by rw [take_next e1, take_next e2, hs', hst])
          clear e1 e2 HE hs' hst
          go_wp2_with fail
          go_quiet (fail)
          go_wp2
          exact ⟨⟨k + 1, q + nq, by omega, by simp, rfl, HN⟩, by simp [intOf]; omega⟩
        | false =>
          have hst : s1 ≠ s2 := by rintro rfl; simp at hs12
          have HN : Hid (L ≠ M) := Lib.hid (by rintro rfl; rw [e1] at e2; exact hst (Option.some.inj e2))
          clear e1 e2 HE hst
          go_wp2_with fail
          go_quiet (fail)
          go_wp2
          go_ret
          exact ⟨false, q + nq, rfl, by rw [World.drewN_drewN], ⟨(fun h => by cases h), fun h => absurd h HN.out⟩⟩
      · have h3 : ¬ (k : Int) < (n : Int) := by omega
        obtain rfl : k = n := by omega
        go_wp2_with fail
        go_ret
        refine ⟨true, q, rfl, rfl, ?_⟩
        have h5 := hs.out
        rw [List.take_of_length_le (by have := H1.out.1; omega), List.take_of_length_le (by have := H2.out.1; omega)] at h5
        simp [h5]
  · have h3 : ¬ (n : Int) = (m : Int) := by omega
    have h4 : ((n : Int) != (m : Int)) = true := by simpa using h3
    go_enter Try.func18, Try.ntmps18
    go_wp2_with fail
    go_ret
    refine ⟨false, 0, rfl, rfl, ?_⟩
    constructor
    · intro h; cases h
    · intro h; exact absurd (by have := H1.out.1; have := H2.out.1; rw [h] at *; omega) hne

theorem below_drewN {B : Nat} {w w' : World} (h : Below B w w') (k : Nat) : Below B w (w'.drewN k) := ⟨h.os, h.tape, h.output, h.size, h.block⟩

/-- Great, of two lists. -/
theorem back_walk (v1 v2 : Value) (n m : Nat) (L M : List ByteArray) (w : World) (h1 : Texts w v1 n L) (h2 : Texts w v2 m M) :
    Calls Try.prog 4 #[v1, v2] w fun e w' => e = .returned (.bool true) ∧ Below w.heap.size w w' := by
  obtain ⟨a1, c1, rfl⟩ := h1.shape
  obtain ⟨a2, c2, rfl⟩ := h2.shape
  have H1 := Lib.hid h1
  have H2 := Lib.hid h2
  clear h1 h2
  go_enter Try.func4, Try.ntmps4
  go_wp2_with fail
  refine (great_any _ n L w H1.out).mono ?_
  rintro e w1 ⟨b, rfl, rfl, hb⟩
  cases b with
  | true =>
    clear hb
    go_wp2_with (go_at_call 9; refine (awake_any _).mono ?_; rintro e w' ⟨rfl, hb9⟩)
    go_ret
    exact ⟨rfl, hb9⟩
  | false =>
    have HB := Lib.hid (hb rfl)
    clear hb
    go_wp2_with fail
    refine (great_any _ m M w H2.out).mono ?_
    rintro e w1 ⟨b, rfl, rfl, hb⟩
    cases b with
    | true =>
      clear hb
      go_wp2_with (go_at_call 9; refine (awake_any _).mono ?_; rintro e w' ⟨rfl, hb9⟩)
      go_ret
      exact ⟨rfl, hb9⟩
    | false =>
      have HB2 := Lib.hid (hb rfl)
      clear hb
      go_wp2_with fail
      refine (encode_any _ n L w H1.out (by have := HB.out; omega)).mono ?_
      rintro e w2 ⟨a3, c3, rfl, hown2, hb2⟩
      have HX := Lib.hid (And.intro hown2 hb2)
      clear hown2 hb2
      go_wp2_with fail
      refine (encode_any _ m M w2 (H2.out.below HX.out.2) (by have := HB2.out; omega)).mono ?_
      rintro e w3 ⟨a4, c4, rfl, hown3, hb3⟩
      have HY := Lib.hid (And.intro hown3 hb3)
      clear hown3 hb3
      have hlx := enc_length L
      have hly := enc_length M
      have hbx := bulk_length L
      have hby := bulk_length M
      have hx1 : (enc L).length ≤ 50000 := by have := HB.out; omega
      have hy1 : (enc M).length ≤ 50000 := by have := HB2.out; omega
      have hx0 : 4 ≤ (enc L).length := by omega
      have hy0 : 4 ≤ (enc M).length := by omega
      clear hlx hly hbx hby
      have RX := Lib.hid (HX.out.1.reads.later (Grow.of_below HY.out.2 (Nat.le_refl _)))
      have RY := Lib.hid HY.out.1.reads
      obtain ⟨ax, rfl⟩ := HX.out.1.some (by omega)
      obtain ⟨ay, rfl⟩ := HY.out.1.some (by omega)
      have HPRE : Hid (∀ s, enc M = enc L ++ s → L = M) := Lib.hid fun s e => enc_prefix L M (by have := HB.out; omega) (by have := HB2.out; omega) s e
      have HDEC : Hid (dec (enc L) = some L) := Lib.hid (dec_enc L (by have := HB.out; omega))
      have HLM : Hid (L = M → enc L = enc M) := Lib.hid fun e => by rw [e]
      have B3 := Lib.hid (HX.out.2.trans (HY.out.2.mono HX.out.2.size))
      clear HB HB2 HX HY
      generalize hX : enc L = X at *
      generalize hY : enc M = Y at *
      clear hX hY
      generalize hp : X.length = p at *
      generalize hq : Y.length = q at *
      have HP := Lib.hid (And.intro hp hq)
      clear hp hq
      go_wp2_with fail
      refine (decode_any _ p X w3 RX.out HP.out.1.symm (Lib.hid (by omega))).mono ?_
      rintro e w4 ⟨hb4, ⟨K, a5, c5, hK, rfl, hT⟩ | ⟨hK, _⟩⟩
      rotate_left
      · rw [HDEC.out] at hK; cases hK
      obtain rfl : L = K := by rw [HDEC.out] at hK; exact Option.some.inj hK
      have RX4 := Lib.hid (RX.out.later hb4)
      have RY4 := Lib.hid (RY.out.later hb4)
      have B4 := Lib.hid (B3.out.trans (hb4.mono B3.out.size))
      have HT := Lib.hid hT
      clear hb4 hK hT RX RY
      go_wp2_with fail
      refine (texts_same _ _ n m L M w4 (H1.out.below B4.out) (H2.out.below B4.out)).mono ?_
      rintro e w5 ⟨same, k5, rfl, hw5, hsame⟩
      have HS := Lib.hid hsame
      have RX5 : Hid (Reads w5 _ _) := Lib.hid (by rw [hw5]; exact RX4.out)
      have RY5 : Hid (Reads w5 _ _) := Lib.hid (by rw [hw5]; exact RY4.out)
      have B5 : Hid (Below w.heap.size w w5) := Lib.hid (by rw [hw5]; exact below_drewN B4.out k5)
      have HT5 : Hid (Texts w5 _ _ L) := Lib.hid (by rw [hw5]; exact HT.out)
      clear hsame RX4 RY4 B4 HT hw5
      go_wp2_with fail
      have hq4 : q ≤ c4 := by
        obtain ⟨_, _, e, h0, _⟩ := RY5.out
        simp only [Value.slice.injEq, bv_length] at e h0
        have := HP.out.2
        omega
      by_cases hpq : p ≤ q
      · have z1 : (p : Int) ≤ (q : Int) := by omega
        have z1' : decide ((p : Int) ≤ (q : Int)) = true := decide_eq_true z1
        have z2 : (p : Int) ≤ (c4 : Int) := by omega
        have z3 : p ≤ c4 := by omega
        have hbeg : (Y.take p == X) = same := by
          have h := HS.out
          have hp := HP.out
          cases hs : same with
          | true =>
            have := HLM.out (h.1 hs)
            rw [← this, ← hp.1, List.take_length]
            simp
          | false =>
            have hne : ¬ L = M := fun e => by have := h.2 e; rw [hs] at this; cases this
            have : ¬ Y.take p = X := fun e => hne (HPRE.out (Y.drop p) (by rw [← e, List.take_append_drop]))
            simpa using this
        have cvX : ∀ n, (convert 22 9 (.slice (some ax) p c3)).run Try.prog (w5.drewN n) = .ok (.string ⟨X.toArray⟩) (w5.drewN n) := fun n => conv_reads (w := w5.drewN n) RX5.out
        have cvY : ∀ n, (convert 22 9 (.slice (some ay) p c4)).run Try.prog (w5.drewN n) = .ok (.string ⟨(Y.take p).toArray⟩) (w5.drewN n) := fun n => conv_reads (w := w5.drewN n) (RY5.out.take p hpq)
        go_quiet (fail)
        go_wp2_with (go_at_call 19; refine (num_any _ _).mono ?_; rintro e w' ⟨rfl, rfl⟩)
        refine (texts_same _ _ L.length n L L (w5.drewN nq) (HT5.out.drewN nq) ((H1.out.below B5.out).drewN nq)).mono ?_
        rintro e w6 ⟨b6, k6, rfl, hw6, h6⟩
        obtain rfl : b6 = true := h6.2 rfl
        have B6 : Hid (Below w.heap.size w w6) := Lib.hid (by rw [hw6]; exact below_drewN (below_drewN B5.out nq) k6)
        clear hw6 h6
        go_wp2_with (go_at_call 9; refine (awake_any _).mono ?_; rintro e w' ⟨rfl, hb9⟩)
        go_ret
        exact ⟨rfl, B6.out.trans (hb9.mono B6.out.size)⟩
      · have z1 : ¬ (p : Int) ≤ (q : Int) := by omega
        have z1' : decide ((p : Int) ≤ (q : Int)) = false := decide_eq_false z1
        have hsame : same = false := by
          cases hs : same with
          | false => rfl
          | true => have := HLM.out (HS.out.1 hs); have h := HP.out; rw [this] at h; omega
        subst hsame
        go_quiet (fail)
        go_wp2_with (go_at_call 19; refine (num_any _ _).mono ?_; rintro e w' ⟨rfl, rfl⟩)
        refine (texts_same _ _ L.length n L L (w5.drewN nq) (HT5.out.drewN nq) ((H1.out.below B5.out).drewN nq)).mono ?_
        rintro e w6 ⟨b6, k6, rfl, hw6, h6⟩
        obtain rfl : b6 = true := h6.2 rfl
        have B6 : Hid (Below w.heap.size w w6) := Lib.hid (by rw [hw6]; exact below_drewN (below_drewN B5.out nq) k6)
        clear hw6 h6
        go_wp2_with (go_at_call 9; refine (awake_any _).mono ?_; rintro e w' ⟨rfl, hb9⟩)
        go_ret
        exact ⟨rfl, B6.out.trans (hb9.mono B6.out.size)⟩

end Go.Proofs.Ytnfehpienhlfpaa
