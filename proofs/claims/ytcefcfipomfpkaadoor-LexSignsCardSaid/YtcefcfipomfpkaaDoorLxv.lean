/- LexSigns, walked over what is asked of the code's lexer. Numbers and types by name. -/
import Derived.Test.YtcefcfipomfpkaaDoorLxu
namespace Go.Proofs.YtcefcfipomfpkaaDoor
open Go.RowKit Go.Lib
set_option maxRecDepth 100000

/-- A byte from 128 on is none of any. -/
theorem high_step {c : UInt8} (h : 128 ≤ c.toNat) (r : List UInt8) : stepL (c :: r) = .bad 10 := by
  have ne : ∀ d : UInt8, d.toNat < 128 → (c == d) = false := fun d hd => by
    rw [beq_eq_false_iff_ne]
    rintro rfl
    omega
  have n2 : ∀ d : UInt8, d.toNat < 128 → c ≠ d := fun d hd => by
    rintro rfl
    omega
  show stepC c r = _
  unfold stepC
  have e1 : isSpc c = false := by
    unfold isSpc
    rw [ne 32 (by decide), ne 9 (by decide), ne 10 (by decide), ne 13 (by decide)]
    rfl
  have e2 : isLet c = false := by
    unfold isLet
    rw [decide_eq_false (p := c.toNat ≤ 122) (by omega), Bool.and_false]
  have e3 : isDig c = false := by
    unfold isDig
    rw [decide_eq_false (p := c.toNat ≤ 57) (by omega), Bool.and_false]
  have e4 : oneL c = false := by
    unfold oneL
    rw [ne 40 (by decide), ne 41 (by decide), ne 123 (by decide), ne 125 (by decide), ne 44 (by decide), ne 59 (by decide), ne 58 (by decide), ne 46 (by decide), ne 61 (by decide), ne 60 (by decide), ne 43 (by decide), ne 45 (by decide), ne 42 (by decide), ne 47 (by decide), ne 37 (by decide), ne 33 (by decide)]
    rfl
  have e5 : signL (c :: r) = 0 := by
    cases r with
    | nil =>
      show (if oneL c = true then 1 else 0) = 0
      rw [e4]
      rfl
    | cons d r =>
      have e6 : twoL c d = false := by
        unfold twoL
        rw [ne 61 (by decide), ne 60 (by decide), ne 45 (by decide)]
        rfl
      show (if twoL c d = true then 2 else if oneL c = true then 1 else 0) = 0
      rw [e4, e6]
      rfl
  rw [e1, e2, e3, e5, if_neg (by simp), if_neg (n2 35 (by decide)), if_neg (by simp), if_neg (by simp), if_pos rfl]
theorem high_lex {c : UInt8} (h : 128 ≤ c.toNat) : lexP [97, 32, c, 32, 98] = ⟨[], 10, 2⟩ := by
  rw [lexP_small (by simp), lexA_tok (n := 1) (k := 1) rfl]
  show consL _ (lexA (0 + 1) [32, c, 32, 98]) = _
  rw [lexA_skip (n := 1) rfl]
  show consL _ (lexA (0 + 1 + 1) [c, 32, 98]) = _
  rw [lexA_bad (high_step h _)]
  rfl
theorem high_or (c : UInt8) : ∃ d : UInt8, d = c ||| 128 ∧ 128 ≤ d.toNat := by
  refine ⟨_, rfl, ?_⟩
  rw [UInt8.toNat_or]
  exact Nat.right_le_or

theorem bits_or_u8 (x y : UInt8) : bits .or .u8 (x.toNat : Int) (y.toNat : Int) = ((x ||| y).toNat : Int) := by
  have hw : ∀ n : Int, 0 ≤ n → n < 256 → IntKind.u8.wrap n = n := by
    intro n h0 h1
    simp [IntKind.wrap, IntKind.bits, IntKind.signed]
    omega
  have hx := x.toNat_lt
  have hy := y.toNat_lt
  rw [UInt8.toNat_or]
  generalize x.toNat = a at *
  generalize y.toNat = b at *
  have hx2 : a ||| b < 2 ^ 8 := Nat.or_lt_two_pow hx hy
  have h1 : (BitVec.ofInt 8 (a : Int)).toNat = a := by
    rw [BitVec.ofInt_natCast, BitVec.toNat_ofNat]; exact Nat.mod_eq_of_lt hx
  have h2 : (BitVec.ofInt 8 (b : Int)).toNat = b := by
    rw [BitVec.ofInt_natCast, BitVec.toNat_ofNat]; exact Nat.mod_eq_of_lt hy
  show IntKind.u8.wrap ((BitVec.ofInt 8 (a : Int) ||| BitVec.ofInt 8 (b : Int)).toNat : Int) = _
  rw [BitVec.toNat_or, h1, h2]
  exact hw _ (by omega) (by omega)

theorem slice_txOne (p q : UInt8) (w : World) : Sem.run Tryd.prog (Instr.slice 9 (.string (tx [p, q])) none (some (.int .i64 1)) none) w = .ok (.string (tx [p])) w := by
  rw [run_slice_string_to_if w _ _ _ _ (by kernel_rfl), if_pos ⟨by omega, by rw [tx_size]; simp⟩, tx_cut]
  rfl
theorem slice_txTwo (p q : UInt8) (w : World) : Sem.run Tryd.prog (Instr.slice 9 (.string (tx [p, q])) (some (.int .i64 1)) none none) w = .ok (.string (tx [q])) w := by
  rw [run_slice_string_from_if w _ _ _ _ (by kernel_rfl), if_pos ⟨by omega, by rw [tx_size]; simp⟩, tx_cut]
  rfl
set_option maxHeartbeats 8000000 in
theorem signs_at (K : LexK) (n c : UInt8) (m : Nat) (p q : UInt8) (hm : n.toNat % 3 = m) (hm3 : m < 3) (hcell : ∀ w : World, (w.alloc (.cells #[.string ⟨#[61, 61]⟩, .string ⟨#[60, 61]⟩, .string ⟨#[45, 62]⟩] 9)).cell? ⟨w.heap.size, m, none⟩ = some (.string (tx [p, q])))
    (h1 : lexP [97, p, q, 98] = ⟨[⟨1, [97], 0⟩, ⟨4, [p, q], 1⟩, ⟨1, [98], 3⟩, ⟨0, [], 4⟩], 0, 0⟩) (R2 : LexR) (h2 : lexP [97, p, 32, q, 98] = R2) (ok : (m < 2 ∧ R2.e = 0 ∧ R2.l.length = 5) ∨ (¬ m < 2 ∧ R2.e = 10))
    (w : World) (ht : SgW w) : Calls Tryd.prog 7 #[.int .u8 (n.toNat : Int), .int .u8 (c.toNat : Int)] w fun e w' => e = .returned (.bool true) ∧ Below w.heap.size w w' := by
  have HK := Lib.hid K
  have HT := Lib.hid ht
  have hz : ((n.toNat : Int)) % 3 = (m : Int) := by omega
  have hm4 : (m : Int) < 3 := by omega
  have hcl := hcell w
  have H1 := Lib.hid (And.intro h1 (And.intro h2 ok))
  have hn : n.toNat < 256 := n.toNat_lt
  clear K ht h1 h2 ok hm hcell
  go_enter Tryd.func7, Tryd.ntmps7
  have t1 : (⟨#[97]⟩ : ByteArray) ++ tx [p, q] ++ (⟨#[98]⟩ : ByteArray) = tx [97, p, q, 98] := by
    rw [show (⟨#[97]⟩ : ByteArray) = tx [97] from rfl, show (⟨#[98]⟩ : ByteArray) = tx [98] from rfl, tx_append, tx_append]
    rfl
  go_wp2_with fail
  have hB1 : Below w.heap.size w (w.alloc (.cells #[.string ⟨#[61, 61]⟩, .string ⟨#[60, 61]⟩, .string ⟨#[45, 62]⟩] 9)) := (Below.refl _ w).alloc (Nat.le_refl _) _
  generalize (w.alloc (.cells #[.string ⟨#[61, 61]⟩, .string ⟨#[60, 61]⟩, .string ⟨#[45, 62]⟩] 9)) = w1 at *
  have HB1 := Lib.hid hB1
  refine (HK.out.lex [97, p, q, 98] w1 (HT.out.later hB1)).mono ?_
  rw [H1.out.1]
  rintro e w2 ⟨a2, n2, c2, rfl, hT2, hb2⟩
  have H2 := Lib.hid (And.intro hT2 (hB1.trans (hb2.mono hB1.size)))
  obtain rfl : n2 = 4 := hT2.1
  clear hB1 hT2 hb2 hcl t1
  have s1 := slice_txOne p q
  have s2 := slice_txTwo p q
  have t2 : (⟨#[97]⟩ : ByteArray) ++ tx [p] ++ (⟨#[32]⟩ : ByteArray) ++ tx [q] ++ (⟨#[98]⟩ : ByteArray) = tx [97, p, 32, q, 98] := by
    rw [show (⟨#[97]⟩ : ByteArray) = tx [97] from rfl, show (⟨#[98]⟩ : ByteArray) = tx [98] from rfl, show (⟨#[32]⟩ : ByteArray) = tx [32] from rfl, tx_append, tx_append, tx_append, tx_append]
    rfl
  have zz1 := tx_size [p]
  have zz2 := tx_size [q]
  go_wp2_with fail
  refine wp_region_mv [(0, 8, true), (8, 1, false), (9, 7, true)] (by kernel_rfl) (by kernel_rfl) ?_
  simp only [mvAll, mvSeg, List.drop_succ_cons, List.drop_zero, List.cons_append, List.nil_append, Nat.reduceAdd]
  iterate 8
    refine wpLin_still ?_ (fun w' hG K hK => ?_) (fun K hK => ?_)
    rotate_left
    · unfold mvVal
      go_simp
      try exact hK
    go_simp
    refine hK _ ?_
    clear hK K
  obtain ⟨L2, e2, p2⟩ := R2
  have HD2 : Hid (Below w.heap.size w w2.drew) := Lib.hid (below_drewN H2.out.2 1)
  refine wpLin_call (fun K hK => ?_)
  unfold mvRun
  go_simp
  simp only [mvUpon]
  refine (HK.out.lex [97, p, 32, q, 98] w2.drew (HT.out.later HD2.out)).mono ?_
  rw [H1.out.2.1]
  rintro e w3 ⟨a3, n3, c3, rfl, hT3, hb3⟩
  have H3 := Lib.hid (And.intro (H2.out.1.later (show Grow w2 w3 from (below_drewN (Below.refl _ w2) 1).trans hb3)) (And.intro hT3 (HD2.out.trans (hb3.mono HD2.out.size))))
  refine ⟨_, rfl, ?_⟩
  go_simp
  refine hK _ _ hb3 ?_
  clear hK K hT3 hb3
  iterate 7
    refine wpLin_still ?_ (fun w' hG K hK => ?_) (fun K hK => ?_)
    rotate_left
    · unfold mvVal
      go_simp
      try exact hK
    go_simp
    refine hK _ ?_
    clear hK K
  refine wpLin_nil ?_
  obtain ⟨d, hd, hd128⟩ := high_or c
  have hbit : bits .or .u8 (c.toNat : Int) 128 = (d.toNat : Int) := by rw [hd]; exact bits_or_u8 c 128
  have hcv : (convert 35 9 (.slice (some ⟨w3.heap.size, 0, none⟩) 1 1)).run Tryd.prog (w3.alloc (.cells #[.int .u8 (d.toNat : Int)] 5)) = .ok (.string (tx [d])) (w3.alloc (.cells #[.int .u8 (d.toNat : Int)] 5)) :=
    conv_reads (l := [d]) (Reads.lit w3 (bv [d]) 5 (0, 0) 1 rfl)
  have t3 : (⟨#[97, 32]⟩ : ByteArray) ++ tx [d] ++ (⟨#[32, 98]⟩ : ByteArray) = tx [97, 32, d, 32, 98] := by
    rw [show (⟨#[97, 32]⟩ : ByteArray) = tx [97, 32] from rfl, show (⟨#[32, 98]⟩ : ByteArray) = tx [32, 98] from rfl, tx_append, tx_append]
    rfl
  have zz3 := tx_size [d]
  clear t2 zz1 zz2 s1 s2 hd
  go_wp2_with fail
  have hB4 : Below w.heap.size w (w3.alloc (.cells #[.int .u8 (d.toNat : Int)] 5)) := H3.out.2.2.alloc H3.out.2.2.size _
  have hG4 : Grow w3 (w3.alloc (.cells #[.int .u8 (d.toNat : Int)] 5)) := (Below.refl _ w3).alloc (Nat.le_refl _) _
  have H4 := Lib.hid (And.intro (H3.out.1.later hG4) (And.intro (H3.out.2.1.later hG4) hB4))
  clear hcv t3 zz3 hbit hB4 hG4
  generalize (w3.alloc (.cells #[.int .u8 (d.toNat : Int)] 5)) = w4 at *
  refine (HK.out.lex [97, 32, d, 32, 98] w4 (HT.out.later H4.out.2.2)).mono ?_
  rw [high_lex hd128]
  rintro e w5 ⟨a5, n5, c5, rfl, hT5, hb5⟩
  have H5 := Lib.hid (And.intro (H4.out.1.later hb5) (And.intro (H4.out.2.1.later hb5) (H4.out.2.2.trans (hb5.mono H4.out.2.2.size))))
  clear hT5 hb5
  obtain ⟨x2, o2, rfl, ho2, f0, f1, f2⟩ := H5.out.1.at (k := 1) (by omega)
  obtain rfl : o2 = ⟨4, [p, q], 1⟩ := by simpa using ho2.symm
  have hn3 := H5.out.2.1.1
  have f3 : w5.cell? ⟨x2.block, x2.off + 3 + 1, none⟩ = some (.string (tx [p, q])) := f1
  have yq := tx_list [p, q]
  have f4 : w5.cell? ⟨x2.block, x2.off + 1 * 3 + 1, none⟩ = some (.string (tx [p, q])) := f1
  have hor := H1.out.2.2
  try simp only at hor
  try simp only at hn3
  clear f0 f2 ho2
  rcases hor with ⟨hm2, rfl, hl2⟩ | ⟨hm2, rfl⟩
  · have hm5 : (m : Int) < 2 := by omega
    obtain rfl : n3 = 5 := by omega
    clear hl2 hn3 hm2
    go_wp2_with (first | (go_at_call 12; refine (lnum_at _ _).mono ?_; rintro e w' ⟨rfl, rfl⟩) | (go_at_call 8; refine (awake_lex HK.out _ (HT.out.later H5.out.2.2)).mono ?_; rintro e w' ⟨rfl, hb9⟩; have H9 := Lib.hid (H5.out.2.2.trans (hb9.mono H5.out.2.2.size)); clear hb9))
    go_ret
    exact ⟨rfl, H9.out⟩
  · have hm5 : ¬ (m : Int) < 2 := by omega
    clear hn3 hm2
    go_wp2_with (first | (go_at_call 12; refine (lnum_at _ _).mono ?_; rintro e w' ⟨rfl, rfl⟩) | (go_at_call 8; refine (awake_lex HK.out _ (HT.out.later H5.out.2.2)).mono ?_; rintro e w' ⟨rfl, hb9⟩; have H9 := Lib.hid (H5.out.2.2.trans (hb9.mono H5.out.2.2.size)); clear hb9))
    go_ret
    exact ⟨rfl, H9.out⟩

theorem signs_lex (K : LexK) (n c : UInt8) (w : World) (ht : SgW w) : Calls Tryd.prog 7 #[.int .u8 (n.toNat : Int), .int .u8 (c.toNat : Int)] w fun e w' => e = .returned (.bool true) ∧ Below w.heap.size w w' := by
  have h3 : n.toNat % 3 < 3 := Nat.mod_lt _ (by decide)
  rcases (by omega : n.toNat % 3 = 0 ∨ n.toNat % 3 = 1 ∨ n.toNat % 3 = 2) with h | h | h
  · exact signs_at K n c 0 61 61 h (by decide) (fun w => by rw [World.cell?_alloc_mark]; rfl) (by decide) _ rfl (.inl ⟨by decide, by decide, by decide⟩) w ht
  · exact signs_at K n c 1 60 61 h (by decide) (fun w => by rw [World.cell?_alloc_mark]; rfl) (by decide) _ rfl (.inl ⟨by decide, by decide, by decide⟩) w ht
  · exact signs_at K n c 2 45 62 h (by decide) (fun w => by rw [World.cell?_alloc_mark]; rfl) (by decide) _ rfl (.inr ⟨by decide, by decide⟩) w ht
theorem signs_lexI (K : LexK) (z0 z1 : Int) (h0 : 0 ≤ z0 ∧ z0 ≤ 255) (h1 : 0 ≤ z1 ∧ z1 ≤ 255) (w : World) (ht : SgW w) : Calls Tryd.prog 7 #[.int .u8 z0, .int .u8 z1] w fun e w' => e = .returned (.bool true) ∧ Below w.heap.size w w' := by
  obtain ⟨n, rfl⟩ := u8_of z0 h0
  obtain ⟨c, rfl⟩ := u8_of z1 h1
  exact signs_lex K n c w ht

end Go.Proofs.YtcefcfipomfpkaaDoor
