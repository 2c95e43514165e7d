/- ParseBlanks, walked over what is asked of the code's lexer and parser. Numbers and types by name. -/
import Derived.Test.YtfcfbdemfbkgmaaDoorPwd
import Derived.Test.YtfcfbdemfbkgmaaDoorPgl
import Derived.Test.YtfcfbdemfbkgmaaDoorSam
namespace Go.Proofs.YtfcfbdemfbkgmaaDoor
open Go.RowKit Go.Lib
set_option maxRecDepth 100000

theorem glueL_snoc : ∀ (l : List Tk) (q : Nat) (t : Tk), glueL q (l ++ [t]) = glueL q l ++ sepL ((q + l.length) % 4) ++ t.text
  | [], q, t => by
    show sepL (q % 4) ++ t.text ++ [] = [] ++ sepL ((q + 0) % 4) ++ t.text
    simp
  | x :: l, q, t => by
    show sepL (q % 4) ++ x.text ++ glueL (q + 1) (l ++ [t]) = sepL (q % 4) ++ x.text ++ glueL (q + 1) l ++ sepL ((q + (l.length + 1)) % 4) ++ t.text
    rw [glueL_snoc l (q + 1) t, show q + 1 + l.length = q + (l.length + 1) by omega]
    simp only [List.append_assoc]
theorem sepL_len (q : Nat) : (sepL q).length ≤ 8 :=
  match q with
  | 0 => by decide
  | 1 => by decide
  | 2 => by decide
  | n + 3 => (show 3 ≤ 8 by decide)
def sepA : Array Value := #[.string ⟨#[32]⟩, .string ⟨#[10]⟩, .string ⟨#[32, 35, 32, 105, 102, 32, 120, 10]⟩, .string ⟨#[9, 13, 10]⟩]
theorem sepA_at (k : Nat) (hk : k < 4) : sepA[k]? = some (.string (tx (sepL k))) := by
  match k, hk with
  | 0, _ => rfl
  | 1, _ => rfl
  | 2, _ => rfl
  | 3, _ => rfl
theorem signL_two : ∀ l : List UInt8, signL l ≤ 2
  | [] => Nat.zero_le _
  | [c] => by
    show (if oneL c = true then 1 else 0) ≤ 2
    split <;> omega
  | c :: d :: r => by
    show (if twoL c d = true then 2 else if oneL c = true then 1 else 0) ≤ 2
    split
    · omega
    · split <;> omega
theorem stepL_len {c : UInt8} {r : List UInt8} {k : Int} {n : Nat} (h : stepL (c :: r) = .tok k n) : n ≤ 20 := by
  have h4 := signL_two (c :: r)
  change stepC c r = .tok k n at h
  unfold stepC at h
  split at h
  · cases h
  split at h
  · cases h
  split at h
  · split at h
    · cases h
    · simp only [LStep.tok.injEq] at h
      omega
  split at h
  · split at h
    · cases h
    split at h
    · cases h
    · simp only [LStep.tok.injEq] at h
      omega
  split at h
  · cases h
  · simp only [LStep.tok.injEq] at h
    omega
theorem lexP_text {a : List UInt8} (ha : a.length ≤ 1000) (h : (lexP a).e = 0) : ∀ t ∈ (lexP a).l, t.text.length ≤ 1000 := by
  have e : lexP a = lexA 0 a := if_neg (by omega)
  rw [e] at h ⊢
  obtain ⟨M, j, e2, h3⟩ := lexA_tokS _ 0 a (Nat.le_refl _) h
  intro t ht
  rw [e2] at ht
  rcases List.mem_append.1 ht with ht | ht
  · obtain ⟨c, r, h5, _⟩ := h3 t ht
    have := stepL_len h5
    omega
  · rw [List.mem_singleton] at ht
    subst ht
    exact Nat.zero_le _
theorem parseP_lexerr {a : List UInt8} (h : (lexP a).e ≠ 0) : (parseP a).2.1 = (lexP a).e := by
  unfold parseP
  rw [if_pos h]

set_option maxHeartbeats 16000000 in
theorem blanks_walk (K : ParseK) (KL : LexK) (a : List UInt8) (q : UInt8) (w : World) (ht : SgW w) : Calls Tryd.prog 3 #[.string (tx a), .int .u8 (q.toNat : Int)] w fun e w' => e = .returned (.bool true) ∧ Below w.heap.size w w' := by
  have HK := Lib.hid (And.intro K KL)
  have HT := Lib.hid ht
  have z1 := tx_size a
  by_cases hA : 1000 < a.length
  · have y1 : (1000 : Int) < (a.length : Int) := by omega
    clear K KL ht
    go_enter Tryd.func3, Tryd.ntmps3
    go_wp2_with (first | (go_at_call 8; refine (lnum_at _ _).mono ?_; rintro e w' ⟨rfl, rfl⟩) | (go_at_call 5; refine (awake_par HK.out.1 _ HT.out).mono ?_; rintro e w' ⟨rfl, hb9⟩; have H9 := Lib.hid (hb9); clear hb9))
    go_ret
    exact ⟨rfl, H9.out⟩
  have y1 : ¬ (1000 : Int) < (a.length : Int) := by omega
  have hq256 : q.toNat < 256 := q.toNat_lt
  have P1 := K.mod a w ht
  have FT := fun h => lexP_text (a := a) (by omega) h
  have FE := fun h => parseP_lexerr (a := a) h
  have FG := fun h hl => parse_glue a q.toNat h hl
  have PA := fun (w : World) (h : SgW w) => KL.lex a w h
  generalize lexP a = RA at *
  obtain ⟨L, xa, pa⟩ := RA
  obtain ⟨RP, hRP⟩ : ∃ R, parseP a = R := ⟨_, rfl⟩
  rw [hRP] at P1
  simp only [hRP] at FE FG
  obtain ⟨md, x, y⟩ := RP
  simp only at FT FE FG
  have HF := Lib.hid (And.intro FT (And.intro FE FG))
  have HP := Lib.hid PA
  clear K KL ht FT FE FG hRP PA hA
  go_enter Tryd.func3, Tryd.ntmps3
  go_wp2_with fail
  refine P1.mono ?_
  rintro e w1 ⟨vI, vV, vP, rfl, hv, hb1⟩
  obtain ⟨⟨aI, nI, cI, rfl⟩, ⟨aV, nV, cV, rfl⟩, ⟨aP, nP, cP, rfl⟩⟩ := modV_shapes hv
  obtain ⟨nm, mp, mi, mv, mq⟩ := md
  have hb2 := hb1.alloc hb1.size (.cells #[.string (tx nm), .int .i64 (mp : Int), .slice aI nI cI, .slice aV nV cV, .slice aP nP cP] 27)
  have hg1 : Grow w1 (w1.alloc (.cells #[.string (tx nm), .int .i64 (mp : Int), .slice aI nI cI, .slice aV nV cV, .slice aP nP cP] 27)) := (Below.refl _ w1).alloc (Nat.le_refl _) _
  have hm1 := (hv.toT false).later hg1
  have hc1 := heap_alloc_new w1 (.cells #[.string (tx nm), .int .i64 (mp : Int), .slice aI nI cI, .slice aV nV cV, .slice aP nP cP] 27)
  obtain ⟨w2, hw2⟩ : ∃ w2, w1.alloc (.cells #[.string (tx nm), .int .i64 (mp : Int), .slice aI nI cI, .slice aV nV cV, .slice aP nP cP] 27) = w2 := ⟨_, rfl⟩
  rw [hw2] at hb2 hm1 hc1
  have H2 := Lib.hid (And.intro hb2 (And.intro hm1 hc1))
  clear hv hb1 hb2 hm1 hc1 hg1 P1
  go_wp2_with fail
  clear hw2
  generalize w1.heap.size = B1 at *
  refine (HP.out w2 (HT.out.later H2.out.1)).mono ?_
  rintro e w3 ⟨ao, n, c, rfl, hT, hb3⟩
  have H3 := Lib.hid (And.intro (H2.out.1.trans (hb3.mono H2.out.1.size)) (And.intro (H2.out.2.1.later hb3) ((hb3.block _ (Array.getElem?_eq_some_iff.1 H2.out.2.2).1).trans H2.out.2.2)))
  have HR := Lib.hid hT
  clear hT hb3 H2 HP
  simp only at HR
  by_cases hxa : xa = 0
  case neg =>
    have hx : x = xa := HF.out.2.1 hxa
    subst hx
    clear HF
    go_wp2_with (first | (go_at_call 8; refine (lnum_at _ _).mono ?_; rintro e w' ⟨rfl, rfl⟩) | (go_at_call 5; refine (awake_par HK.out.1 _ (HT.out.later H3.out.1)).mono ?_; rintro e w' ⟨rfl, hb9⟩; have H9 := Lib.hid (H3.out.1.trans (hb9.mono H3.out.1.size)); clear hb9))
    go_ret
    exact ⟨rfl, H9.out⟩
  subst hxa
  have HFT := Lib.hid (HF.out.1 rfl)
  have HFG := Lib.hid (HF.out.2.2 rfl)
  clear HF
  go_wp2_with (first | (go_at_call 8; refine (lnum_at _ _).mono ?_; rintro e w' ⟨rfl, rfl⟩))
  go_loopw [11, 12] (fun u v wr => ∃ i : Nat, i ≤ n ∧ v = .int .i64 i ∧ ∃ T : List UInt8, u = .string (tx T) ∧ Hid (T = glueL q.toNat (L.take i)) ∧ T.length ≤ 10000 ∧ Hid (Grow w3 wr))
    (fun _ v _ => n - (RowKit.intOf v).toNat)
  case atStart => exact ⟨0, Nat.zero_le _, rfl, [], rfl, Lib.hid rfl, Nat.zero_le _, Lib.hid (Grow.refl w3)⟩
  case round =>
    obtain ⟨i, hi, rfl, T, rfl, hT, hl, hG⟩ := hrel
    have hn5 : n ≤ 100000 := HR.out.2.1
    have zT := tx_size T
    by_cases hlt : i < n
    · have h3 : (i : Int) < (n : Int) := by omega
      by_cases h8 : T.length < 8000
      · have h9 : (T.length : Int) < 8000 := by omega
        have hR2 : Tkr wr (.slice ao n c) n L := HR.out.later hG.out
        obtain ⟨a1, o, rfl, ho, c0, c1, c2⟩ := hR2.at hlt
        have hR3 : Tkr (wr.alloc (.cells sepA 9)) (.slice (some a1) n c) n L := HR.out.later (hG.out.trans ((Below.refl _ wr).alloc (Nat.le_refl _) _))
        obtain ⟨a2, o2, e2, ho2, f0, f1, f2⟩ := hR3.at hlt
        cases e2
        rw [ho] at ho2
        cases ho2
        obtain ⟨k, hk⟩ : ∃ k, (i + q.toNat) % 4 = k := ⟨_, rfl⟩
        have hk4 : k < 4 := by omega
        have hk5 : ((i : Int) + (q.toNat : Int)) % 4 = (k : Int) := by omega
        have hk6 : (k : Int) < 4 := by omega
        have g0 : (wr.alloc (.cells sepA 9)).cell? ⟨wr.heap.size, k, none⟩ = some (.string (tx (sepL k))) := cellsN (heap_alloc_new _ _) k _ (sepA_at k hk4)
        have hot : o.text.length ≤ 1000 := HFT.out o (List.mem_of_getElem? ho)
        have hsl := sepL_len k
        have HN : Hid (T ++ sepL k ++ o.text = glueL q.toNat (L.take (i + 1))) := Lib.hid (by
          rw [take_next ho, glueL_snoc, ← hT.out, List.length_take, Nat.min_eq_left (by have : n = L.length := HR.out.1; omega), Nat.add_comm q.toNat i, hk])
        have hcat : tx T ++ tx (sepL k) ++ tx o.text = tx (T ++ sepL k ++ o.text) := by rw [tx_cat, tx_cat]
        have hlen : (T ++ sepL k ++ o.text).length ≤ 10000 := by
          rw [List.length_append, List.length_append]
          omega
        obtain ⟨kd, tt, pp⟩ := o
        simp only at c0 c1 c2 f0 f1 f2 hcat hot HN hlen
        have zt := tx_size tt
        have zs := tx_size (sepL k)
        have HGN : Hid (Grow w3 (wr.alloc (.cells sepA 9))) := Lib.hid (hG.out.trans ((Below.refl _ wr).alloc (Nat.le_refl _) _))
        unfold sepA at g0 f0 f1 f2 HGN
        clear ho c0 c2 f0 f2 hk hR2 hR3
        go_wp2_with fail
        go_region
        go_wp2_with fail
        exact ⟨⟨i + 1, by omega, by go_num, _, by rw [List.append_assoc], HN, hlen, Lib.hid (HGN.out.trans (grow_drew _))⟩, by simp [RowKit.intOf]; omega⟩
      · have h9 : ¬ (T.length : Int) < 8000 := by omega
        have h10 : (8000 : Int) ≤ (T.length : Int) := by omega
        have HBW := Lib.hid (H3.out.1.trans (hG.out.mono H3.out.1.size))
        clear HFT HFG
        go_wp2_with (first | (go_at_call 8; refine (lnum_at _ _).mono ?_; rintro e w' ⟨rfl, rfl⟩) | (go_at_call 5; refine (awake_par HK.out.1 _ (HT.out.later HBW.out)).mono ?_; rintro e w' ⟨rfl, hb9⟩; have H9 := Lib.hid (HBW.out.trans (hb9.mono HBW.out.size)); clear hb9))
        go_ret
        exact ⟨rfl, H9.out⟩
    · have h3 : ¬ (i : Int) < (n : Int) := by omega
      obtain rfl : i = n := by omega
      have HBW := Lib.hid (H3.out.1.trans (hG.out.mono H3.out.1.size))
      by_cases h8 : T.length < 8000
      · have h9 : (T.length : Int) < 8000 := by omega
        have h10 : ¬ (8000 : Int) ≤ (T.length : Int) := by omega
        have P2 := HK.out.1.mod T wr (HT.out.later HBW.out)
        have hTL : T = glueL q.toNat L := by
          have := hT.out
          rwa [List.take_of_length_le (by have : i = L.length := HR.out.1; omega)] at this
        obtain ⟨f1, f2⟩ := HFG.out (by rw [← hTL]; omega)
        rw [← hTL] at f1 f2
        generalize parseP T = R2 at *
        obtain ⟨md2, x2, y2⟩ := R2
        simp only at f1 f2
        subst f1
        obtain ⟨nm2, mp2, mi2, mv2, mq2⟩ := md2
        have HER := Lib.hid f2
        have c0 := (hG.out.block _ (Array.getElem?_eq_some_iff.1 H3.out.2.2).1).trans H3.out.2.2
        have hmw := H3.out.2.1.later hG.out
        have HMW := Lib.hid (And.intro hmw c0)
        clear hmw c0 f2 HFT HFG hTL hT
        go_wp2_with fail
        refine P2.mono ?_
        rintro e w5 ⟨vI2, vV2, vP2, rfl, hv2, hb5⟩
        have hvt := hv2.toT false
        obtain ⟨⟨aI2, nI2, cI2, rfl⟩, ⟨aV2, nV2, cV2, rfl⟩, ⟨aP2, nP2, cP2, rfl⟩⟩ := modV_shapes hv2
        have hg6 : Grow w5 (w5.alloc (.cells #[.string (tx nm2), .int .i64 (mp2 : Int), .slice aI2 nI2 cI2, .slice aV2 nV2 cV2, .slice aP2 nP2 cP2] 27)) := (Below.refl _ w5).alloc (Nat.le_refl _) _
        have hc6 := heap_alloc_new w5 (.cells #[.string (tx nm2), .int .i64 (mp2 : Int), .slice aI2 nI2 cI2, .slice aV2 nV2 cV2, .slice aP2 nP2 cP2] 27)
        obtain ⟨w6, hw6⟩ : ∃ w6, w5.alloc (.cells #[.string (tx nm2), .int .i64 (mp2 : Int), .slice aI2 nI2 cI2, .slice aV2 nV2 cV2, .slice aP2 nP2 cP2] 27) = w6 := ⟨_, rfl⟩
        rw [hw6] at hg6 hc6
        have hgr : Grow wr w6 := Grow.trans hb5 hg6
        have k1 := (hgr.block _ (Array.getElem?_eq_some_iff.1 HMW.out.2).1).trans HMW.out.2
        have m0 : w6.cell? ⟨B1, 0, none⟩ = some (.string (tx nm)) := cellsN k1 0 _ rfl
        have m1 : w6.cell? ⟨B1, 1, none⟩ = some (.int .i64 (mp : Int)) := cellsN k1 1 _ rfl
        have m2 : w6.cell? ⟨B1, 2, none⟩ = some (.slice aI nI cI) := cellsN k1 2 _ rfl
        have m3 : w6.cell? ⟨B1, 3, none⟩ = some (.slice aV nV cV) := cellsN k1 3 _ rfl
        have m4 : w6.cell? ⟨B1, 4, none⟩ = some (.slice aP nP cP) := cellsN k1 4 _ rfl
        have n0 : w6.cell? ⟨w5.heap.size, 0, none⟩ = some (.string (tx nm2)) := cellsN hc6 0 _ rfl
        have n1 : w6.cell? ⟨w5.heap.size, 1, none⟩ = some (.int .i64 (mp2 : Int)) := cellsN hc6 1 _ rfl
        have n2 : w6.cell? ⟨w5.heap.size, 2, none⟩ = some (.slice aI2 nI2 cI2) := cellsN hc6 2 _ rfl
        have n3 : w6.cell? ⟨w5.heap.size, 3, none⟩ = some (.slice aV2 nV2 cV2) := cellsN hc6 3 _ rfl
        have n4 : w6.cell? ⟨w5.heap.size, 4, none⟩ = some (.slice aP2 nP2 cP2) := cellsN hc6 4 _ rfl
        have HS := Lib.hid (ref_Same _ _ _ _ w6 (HMW.out.1.later hgr) (hvt.later hg6))
        have H6 := Lib.hid (HBW.out.trans (hgr.mono HBW.out.size))
        clear hv2 hvt hb5 hg6 hc6 hgr k1 P2
        go_wp2_with (first | (go_at_call 8; refine (lnum_at _ _).mono ?_; rintro e w' ⟨rfl, rfl⟩))
        clear hw6
        generalize w5.heap.size = B2 at *
        refine HS.out.mono ?_
        rintro e w7 ⟨b7, rfl, hb7, hg7⟩
        rw [hb7.2 HER.out.symm]
        have H7 := Lib.hid (H6.out.trans (hg7.mono H6.out.size))
        clear m0 m1 m2 m3 m4 n0 n1 n2 n3 n4 HS hb7 hg7
        go_wp2_with (first | (go_at_call 8; refine (lnum_at _ _).mono ?_; rintro e w' ⟨rfl, rfl⟩) | (go_at_call 5; refine (awake_par HK.out.1 _ (HT.out.later H7.out)).mono ?_; rintro e w' ⟨rfl, hb9⟩; have H9 := Lib.hid (H7.out.trans (hb9.mono H7.out.size)); clear hb9))
        go_ret
        exact ⟨rfl, H9.out⟩
      · have h9 : ¬ (T.length : Int) < 8000 := by omega
        have h10 : (8000 : Int) ≤ (T.length : Int) := by omega
        clear HFT HFG
        go_wp2_with (first | (go_at_call 8; refine (lnum_at _ _).mono ?_; rintro e w' ⟨rfl, rfl⟩) | (go_at_call 5; refine (awake_par HK.out.1 _ (HT.out.later HBW.out)).mono ?_; rintro e w' ⟨rfl, hb9⟩; have H9 := Lib.hid (HBW.out.trans (hb9.mono HBW.out.size)); clear hb9))
        go_ret
        exact ⟨rfl, H9.out⟩

theorem blanks_int (K : ParseK) (KL : LexK) (a : ByteArray) (z : Int) (x : 0 ≤ z ∧ z ≤ 255) (w : World) (ht : SgW w) : Calls Tryd.prog 3 #[.string a, .int .u8 z] w fun e w' => e = .returned (.bool true) ∧ Below w.heap.size w w' := by
  have := blanks_walk K KL a.data.toList (UInt8.ofNat z.toNat) w ht
  have e : (((UInt8.ofNat z.toNat).toNat : Nat) : Int) = z := by
    have : (UInt8.ofNat z.toNat).toNat = z.toNat % 256 := by simp
    omega
  rw [e] at this
  exact this

end Go.Proofs.YtfcfbdemfbkgmaaDoor
