/- LexLong, walked over what is asked of the code's lexer. Numbers and types by name. -/
import Derived.Test.YtcefcfipomfpkaaDoorLxt
namespace Go.Proofs.YtcefcfipomfpkaaDoor
open Go.RowKit Go.Lib
set_option maxRecDepth 100000

/-- '= ', so many of one byte, a blank. -/
def longT (c : UInt8) (k : Nat) : List UInt8 := [61, 32] ++ List.replicate k c ++ [32]
theorem runL_more {p : UInt8 → Bool} {c : UInt8} (h : p c = true) (r : List UInt8) : runL p (c :: r) = 1 + runL p r := by
  unfold runL
  rw [List.takeWhile_cons, if_pos h, List.length_cons, Nat.add_comm]
theorem run_same {p : UInt8 → Bool} {c : UInt8} (h : p c = true) (h2 : p 32 = false) : ∀ k, runL p (List.replicate k c ++ [32]) = k
  | 0 => by
    unfold runL
    simp [h2]
  | k + 1 => by
    rw [List.replicate_succ, List.cons_append, runL_more h, run_same h h2 k, Nat.add_comm]
theorem long_gen (c : UInt8) (k m : Nat) (K : Int) (hs : stepL (c :: (List.replicate k c ++ [32])) = if m < k + 1 then .bad 9 else .tok K (k + 1)) :
    lexA 0 (longT c (k + 1)) = if m < k + 1 then ⟨[], 9, 2⟩ else ⟨[⟨4, [61], 0⟩, ⟨K, List.replicate (k + 1) c, 2⟩, ⟨0, [], k + 4⟩], 0, 0⟩ := by
  have e0 : longT c (k + 1) = 61 :: 32 :: (c :: (List.replicate k c ++ [32])) := by
    unfold longT
    rw [List.replicate_succ]
    rfl
  have s1 : stepL (61 :: 32 :: (c :: (List.replicate k c ++ [32]))) = .tok 4 1 := rfl
  have s2 : stepL (32 :: (c :: (List.replicate k c ++ [32]))) = .skip 1 := rfl
  rw [e0, lexA_tok s1, List.drop_succ_cons, List.drop_zero, lexA_skip s2, List.drop_succ_cons, List.drop_zero]
  by_cases h : m < k + 1
  · rw [if_pos h] at hs ⊢
    rw [lexA_bad hs]
    rfl
  · rw [if_neg h] at hs ⊢
    rw [lexA_tok hs]
    have d1 : (c :: (List.replicate k c ++ [32])).drop (k + 1) = [32] := by
      rw [List.drop_succ_cons, List.drop_left' (by simp)]
    have d2 : (c :: (List.replicate k c ++ [32])).take (k + 1) = List.replicate (k + 1) c := by
      rw [List.take_succ_cons, List.take_left' (by simp), List.replicate_succ]
    rw [d1, d2, lexA_skip (c := 32) (r := []) (n := 1) rfl]
    show consL _ (consL _ (lexA (0 + 1 + 1 + (k + 1) + 1) [])) = _
    rw [lexA_nil, show 0 + 1 + 1 + (k + 1) + 1 = k + 4 by omega]
    rfl
theorem long_y (k : Nat) : lexA 0 (longT 121 (k + 1)) = if 20 < k + 1 then ⟨[], 9, 2⟩ else ⟨[⟨4, [61], 0⟩, ⟨1, List.replicate (k + 1) 121, 2⟩, ⟨0, [], k + 4⟩], 0, 0⟩ := by
  refine long_gen 121 k 20 1 ?_
  show stepC 121 (List.replicate k 121 ++ [32]) = _
  unfold stepC
  rw [if_neg (by decide), if_neg (by decide), if_pos (by decide), run_same (by decide) (by decide), Nat.add_comm 1 k]
  by_cases h : 20 < k + 1
  · rw [if_pos h, if_pos h]
  · rw [if_neg h, if_neg h, if_neg]
    rw [List.take_succ_cons, List.take_left' (by simp), ← List.replicate_succ]
    -- no key word is made of this letter alone
    intro hc
    have hm : List.replicate (k + 1) 121 ∈ keysL := by simpa using hc
    have : ∀ t ∈ keysL, (t.all (· == 121)) = false := by decide
    have := this _ hm
    simp at this
theorem long_d (k : Nat) : lexA 0 (longT 55 (k + 1)) = if 9 < k + 1 then ⟨[], 9, 2⟩ else ⟨[⟨4, [61], 0⟩, ⟨2, List.replicate (k + 1) 55, 2⟩, ⟨0, [], k + 4⟩], 0, 0⟩ := by
  refine long_gen 55 k 9 2 ?_
  show stepC 55 (List.replicate k 55 ++ [32]) = _
  unfold stepC
  rw [if_neg (by decide), if_neg (by decide), if_neg (by decide), if_pos (by decide), run_same (by decide) (by decide), Nat.add_comm 1 k]
  by_cases h : 9 < k + 1
  · rw [if_pos h, if_pos h]
  · rw [if_neg h, if_neg h, if_neg]
    rw [List.drop_left' (by simp)]
    intro hc
    rcases hc with ⟨_, hc⟩ | hc
    · exact absurd hc (by decide)
    · cases hc
theorem tx_more (c : UInt8) (i : Nat) (d : ByteArray) (hd : d = tx [c]) : tx (List.replicate i c) ++ d = tx (List.replicate (i + 1) c) := by
  rw [hd, tx_append, ← List.replicate_succ']
theorem tx_long (c : UInt8) (k : Nat) : (⟨#[61, 32]⟩ : ByteArray) ++ tx (List.replicate k c) ++ (⟨#[32]⟩ : ByteArray) = tx (longT c k) := by
  rw [show (⟨#[61, 32]⟩ : ByteArray) = tx [61, 32] from rfl, show (⟨#[32]⟩ : ByteArray) = tx [32] from rfl, tx_append, tx_append]
  rfl
theorem long_len (c : UInt8) (k : Nat) : (longT c k).length = k + 3 := by
  unfold longT
  simp

/-- What the two texts are told. -/
def LongE (e p k m : Nat) : Prop := (k ≤ m ∧ e = 0) ∨ (m < k ∧ e = 9 ∧ p = 2)

set_option maxHeartbeats 8000000 in
theorem long_lex (K : LexK) (n c : UInt8) (w : World) (ht : SgW w) : Calls Tryd.prog 6 #[.int .u8 (n.toNat : Int), .int .u8 (c.toNat : Int)] w fun e w' => e = .returned (.bool true) ∧ Below w.heap.size w w' := by
  have HK := Lib.hid K
  have HT := Lib.hid ht
  have HC := Lib.hid (c.toNat_lt)
  obtain ⟨j, hj⟩ : ∃ j, j = n.toNat % 30 := ⟨_, rfl⟩
  have hn : n.toNat < 256 := n.toNat_lt
  have hz : ((n.toNat : Int)) % 30 = (j : Int) := by omega
  have hj30 : j < 30 := by omega
  obtain ⟨k, hk⟩ : ∃ k, k = j + 1 := ⟨_, rfl⟩
  have hk2 : 1 + (j : Int) = (k : Int) := by omega
  obtain ⟨N, hN⟩ : ∃ N : Nat, N = 8193 := ⟨_, rfl⟩
  have hNz : (8193 : Int) = (N : Int) := by omega
  have HZ : Hid (N ≤ 140737488355328) := Lib.hid (by omega)
  have HN := Lib.hid (And.intro hN hNz)
  have Hj := Lib.hid hk
  have hk30 : k ≤ 30 := by omega
  clear K ht hj hN hNz hk
  go_enter Tryd.func6, Tryd.ntmps6
  go_wp2_with fail
  try rw [hz]
  clear hz hk2
  go_loopw [6, 7, 8] (fun x y v wr => ∃ i : Nat, i ≤ k ∧ x = .string (tx (List.replicate i 121)) ∧ y = .string (tx (List.replicate i 55)) ∧ v = .int .i64 i ∧ w = wr)
    (fun _ _ v _ => k - (RowKit.intOf v).toNat)
  case atStart => exact ⟨0, Nat.zero_le _, rfl, rfl, rfl, rfl⟩
  case round =>
    obtain ⟨i, hi, rfl, rfl, rfl, rfl⟩ := hrel
    have z1 : (tx (List.replicate i 121)).size = i := by rw [tx_size, List.length_replicate]
    have z2 : (tx (List.replicate i 55)).size = i := by rw [tx_size, List.length_replicate]
    by_cases hlt : i < k
    · have h3 : (i : Int) < (k : Int) := by omega
      have t1 := tx_more 121 i ⟨#[121]⟩ rfl
      have t2 := tx_more 55 i ⟨#[55]⟩ rfl
      go_wp2_with fail
      exact ⟨⟨i + 1, by omega, rfl, rfl, by go_num, by first | rfl | trivial⟩, by simp [RowKit.intOf]; omega⟩
    · have h3 : ¬ (i : Int) < (k : Int) := by omega
      obtain rfl : i = k := by omega
      have t1 := tx_long 121 i
      have t2 := tx_long 55 i
      have hil : i ≤ 30 := by omega
      have P1 := HK.out.lex (longT 121 i) w HT.out
      have P2 := fun w' hw => HK.out.lex (longT 55 i) w' hw
      rw [lexP_small (by rw [long_len]; omega), Hj.out, long_y, ← Hj.out] at P1
      rw [lexP_small (by rw [long_len]; omega), Hj.out, long_d, ← Hj.out] at P2
      obtain ⟨R1, hR1⟩ : ∃ R : LexR, R = if 20 < i then ⟨[], 9, 2⟩ else ⟨[⟨4, [61], 0⟩, ⟨1, List.replicate i 121, 2⟩, ⟨0, [], j + 4⟩], 0, 0⟩ := ⟨_, rfl⟩
      obtain ⟨R2, hR2⟩ : ∃ R : LexR, R = if 9 < i then ⟨[], 9, 2⟩ else ⟨[⟨4, [61], 0⟩, ⟨2, List.replicate i 55, 2⟩, ⟨0, [], j + 4⟩], 0, 0⟩ := ⟨_, rfl⟩
      rw [← hR1] at P1
      rw [← hR2] at P2
      have HR := Lib.hid (And.intro hR1 hR2)
      clear hR1 hR2
      obtain ⟨L1, e1, p1⟩ := R1
      obtain ⟨L2, e2, p2⟩ := R2
      have HP2 := Lib.hid P2
      clear P2
      go_wp2_with fail
      refine P1.mono ?_
      rintro e w1 ⟨a1, n1, c1, rfl, hT1, hb1⟩
      have H1 := Lib.hid hb1
      clear hT1 hb1 P1 t1
      go_wp2_with fail
      refine (HP2.out w1 (HT.out.later H1.out)).mono ?_
      rintro e w2 ⟨a2, n2, c2, rfl, hT2, hb2⟩
      have H2 := Lib.hid (H1.out.trans (hb2.mono H1.out.size))
      clear hT2 hb2 HP2 t2 H1
      go_wp2_with (at_make; refine wpList_make_zeros rfl (.const (.int .i64 8193)) (.const (.int .i64 8193)) rfl w2.heap.size N 8193 8193 rfl rfl HN.out.2 HN.out.2 HZ (Nat.le_refl _) ?_; intro w3 hown3 hb3)
      have H3 := Lib.hid (And.intro hown3 hb3)
      clear hown3 hb3
      go_loopw [16] (fun v wr => ∃ q : Nat, q ≤ N ∧ v = .int .i64 q ∧ Hid (∃ bl, Bs wr w2.heap.size (.slice (some ⟨w2.heap.size, 0, none⟩) N N) N bl ∧ Below w2.heap.size w2 wr))
        (fun v _ => N - (RowKit.intOf v).toNat)
      case atStart => exact ⟨0, Nat.zero_le _, rfl, Lib.hid ⟨_, H3.out⟩⟩
      case round =>
        obtain ⟨q, hq, rfl, hG⟩ := hrel
        obtain ⟨bl, hbs, hbl⟩ := hG.out
        have hsz2 := hbl.size
        have hlen := hbs.1
        have HNN : Hid (N = 8193) := Lib.hid HN.out.1
        clear hG H3
        by_cases hlt : q < N
        · have h3 : (q : Int) < (N : Int) := by omega
          obtain ⟨x, hx⟩ : ∃ x, bl[q]? = some x := ⟨_, List.getElem?_eq_getElem (by omega)⟩
          have hcell := hbs.cell hx
          have cd := hcell.1
          have fd := hcell.2
          have HB := Lib.hid (And.intro (hbs.set q hlt 32) hbl)
          have HN5 : Hid (N ≤ 10000) := Lib.hid (by have := HNN.out; omega)
          have hN5 := HN5.out
          clear hcell hbs hbl hx hlen
          go_wp2_with fail
          exact ⟨⟨q + 1, by omega, by go_num, Lib.hid ⟨_, HB.out.1, below_set HB.out.2 (Nat.le_refl _) _ _⟩⟩, by simp [RowKit.intOf]; omega⟩
        · have h3 : ¬ (q : Int) < (N : Int) := by omega
          obtain rfl : q = N := by omega
          have hnq : n.toNat < q := by have := HNN.out; omega
          obtain ⟨x, hx⟩ : ∃ x, bl[n.toNat]? = some x := ⟨_, List.getElem?_eq_getElem (by omega)⟩
          have hcell := hbs.cell hx
          have cd := hcell.1
          have fd := hcell.2
          have hset := hbs.set n.toNat hnq c
          have hb3 := below_set hbl (Nat.le_refl _) n.toNat (.int .u8 (c.toNat : Int))
          have hconv : ∀ wz, wz = wr.setCell ⟨w2.heap.size, n.toNat, none⟩ (.int .u8 (c.toNat : Int)) → (convert 35 9 (.slice (some ⟨w2.heap.size, 0, none⟩) q q)).run Tryd.prog wz = .ok (.string (tx (bl.set n.toNat c))) wz := fun wz hz => by
            rw [hz]
            exact conv_reads hset.reads
          have hcv := hconv _ rfl
          have hsl : (bl.set n.toNat c).length = q := by rw [List.length_set]; omega
          have P3 := fun w' hw => HK.out.lex (bl.set n.toNat c) w' hw
          rw [show lexP (bl.set n.toNat c) = ⟨[], 9, 8192⟩ from if_pos (by rw [hsl]; have := HNN.out; omega)] at P3
          have H2' := Lib.hid (H2.out.trans (hb3.mono H2.out.size))
          have HP3 := Lib.hid P3
          clear P3 hcell hbs hbl hx hlen hset hconv hb3 hsl
          generalize bl.set n.toNat c = B at *
          have hN5 : q ≤ 10000 := by have := HNN.out; omega
          go_wp2_with fail
          generalize wr.setCell ⟨w2.heap.size, n.toNat, none⟩ (.int .u8 (c.toNat : Int)) = w4 at *
          refine (HP3.out w4 (HT.out.later H2'.out)).mono ?_
          rintro e w5 ⟨a5, n5, c5, rfl, hT5, hb5⟩
          have H5 := Lib.hid (H2'.out.trans (hb5.mono H2'.out.size))
          clear hT5 hb5 HP3 hcv cd fd hsz2 hnq
          obtain ⟨hR1, hR2⟩ := HR.out
          by_cases h20 : 20 < i
          · rw [if_pos h20] at hR1
            rw [if_pos (by omega)] at hR2
            simp only [LexR.mk.injEq] at hR1 hR2
            obtain ⟨_, rfl, rfl⟩ := hR1
            obtain ⟨_, rfl, rfl⟩ := hR2
            have y1 : ¬ (i : Int) ≤ 20 := by omega
            have y2 : ¬ (i : Int) ≤ 9 := by omega
            have y3 : (20 : Int) < (i : Int) := by omega
            have y4 : (9 : Int) < (i : Int) := by omega
            go_wp2_with (first | (go_at_call 12; refine (lnum_at _ _).mono ?_; rintro e w' ⟨rfl, rfl⟩) | (go_at_call 8; refine (awake_lex HK.out _ (HT.out.later H5.out)).mono ?_; rintro e w' ⟨rfl, hb9⟩; have H9 := Lib.hid (H5.out.trans (hb9.mono H5.out.size)); clear hb9))
            go_ret
            exact ⟨rfl, H9.out⟩
          · rw [if_neg h20] at hR1
            have y1 : (i : Int) ≤ 20 := by omega
            by_cases h9 : 9 < i
            · rw [if_pos h9] at hR2
              simp only [LexR.mk.injEq] at hR1 hR2
              obtain ⟨_, rfl, rfl⟩ := hR1
              obtain ⟨_, rfl, rfl⟩ := hR2
              have y2 : ¬ (i : Int) ≤ 9 := by omega
              have y4 : (9 : Int) < (i : Int) := by omega
              go_wp2_with (first | (go_at_call 12; refine (lnum_at _ _).mono ?_; rintro e w' ⟨rfl, rfl⟩) | (go_at_call 8; refine (awake_lex HK.out _ (HT.out.later H5.out)).mono ?_; rintro e w' ⟨rfl, hb9⟩; have H9 := Lib.hid (H5.out.trans (hb9.mono H5.out.size)); clear hb9))
              go_ret
              exact ⟨rfl, H9.out⟩
            · rw [if_neg h9] at hR2
              simp only [LexR.mk.injEq] at hR1 hR2
              obtain ⟨_, rfl, rfl⟩ := hR1
              obtain ⟨_, rfl, rfl⟩ := hR2
              have y2 : (i : Int) ≤ 9 := by omega
              go_wp2_with (first | (go_at_call 12; refine (lnum_at _ _).mono ?_; rintro e w' ⟨rfl, rfl⟩) | (go_at_call 8; refine (awake_lex HK.out _ (HT.out.later H5.out)).mono ?_; rintro e w' ⟨rfl, hb9⟩; have H9 := Lib.hid (H5.out.trans (hb9.mono H5.out.size)); clear hb9))
              go_ret
              exact ⟨rfl, H9.out⟩
theorem u8_of (z : Int) (h : 0 ≤ z ∧ z ≤ 255) : ∃ n : UInt8, z = (n.toNat : Int) := ⟨UInt8.ofNat z.toNat, by rw [UInt8.toNat_ofNat']; omega⟩
theorem long_lexI (K : LexK) (z0 z1 : Int) (h0 : 0 ≤ z0 ∧ z0 ≤ 255) (h1 : 0 ≤ z1 ∧ z1 ≤ 255) (w : World) (ht : SgW w) : Calls Tryd.prog 6 #[.int .u8 z0, .int .u8 z1] w fun e w' => e = .returned (.bool true) ∧ Below w.heap.size w w' := by
  obtain ⟨n, rfl⟩ := u8_of z0 h0
  obtain ⟨c, rfl⟩ := u8_of z1 h1
  exact long_lex K n c w ht

end Go.Proofs.YtcefcfipomfpkaaDoor
