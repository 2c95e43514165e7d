/- ParseDeep, walked over what is asked of the code's parser. Numbers and types by name. -/
import Derived.Test.YtlofkmoeilikkaaDoorQpt
import Derived.Test.YtlofkmoeilikkaaDoorPam
/- The document's example in stage 12's laws: labels a < b < c. Numbers and types by name. -/
namespace Go.Proofs.YtlofkmoeilikkaaDoor
open Go.RowKit Go.Lib
set_option maxRecDepth 100000

def labEx : List UInt8 := [108, 97, 98, 101, 108, 115, 32, 97, 32, 60, 32, 98, 32, 60, 32, 99, 59]
theorem lab_ex : labelsP labEx = ([⟨[97], [98], 11⟩, ⟨[98], [99], 15⟩], 0, 0) := by decide +kernel

theorem awake_par (K : ParseK) (w : World) (ht : SgW w) : Calls Tryd.prog 9 #[] w fun e w' => e = .returned (.bool true) ∧ Below w.heap.size w w' := by
  have P := K.lab labEx w ht
  clear ht
  rw [lab_ex] at P
  change Calls _ _ #[.string ⟨#[108, 97, 98, 101, 108, 115, 32, 97, 32, 60, 32, 98, 32, 60, 32, 99, 59]⟩] _ _ at P
  go_enter Tryd.func9, Tryd.ntmps9
  go_wp2_with fail
  refine P.mono ?_
  rintro e w1 ⟨ao, m, c, rfl, hT, hb⟩
  have H := Lib.hid hb
  obtain rfl : m = 2 := hT.1
  obtain ⟨_, _, _, cs, ⟨ao', cap, e, _, _, hz, hat⟩, c1, d1, rfl, _, rfl, c2, d2, rfl, _, rfl, rfl⟩ := hT
  cases e
  obtain ⟨a, rfl⟩ : ∃ a, ao = some a := by
    cases ao with
    | none => exact absurd (hz rfl).1 (by simp)
    | some a => exact ⟨a, rfl⟩
  have d1 : w1.cell? ⟨a.block, a.off + 3, none⟩ = some (.string ⟨#[98]⟩) := hat a rfl 3 _ rfl
  have d2 : w1.cell? ⟨a.block, a.off + 3 + 1, none⟩ = some (.string ⟨#[99]⟩) := hat a rfl 4 _ rfl
  clear hb hz hat P
  go_wp2_with (go_at_call 12; refine (lnum_at _ _).mono ?_; rintro e w' ⟨rfl, rfl⟩)
  go_ret
  exact ⟨rfl, H.out⟩

end Go.Proofs.YtlofkmoeilikkaaDoor

/- Texts of ParseDeep: so deep and no deeper, told by the model. -/
namespace Go.Proofs.YtlofkmoeilikkaaDoor
open Go.RowKit Go.Lib
set_option maxRecDepth 100000

def deepB : List UInt8 := [109, 111, 100, 117, 108, 101, 32, 109, 32, 59, 32, 112, 114, 111, 99, 32, 112, 32, 40, 32, 41, 32, 112, 99, 32, 97, 32, 117, 115, 101, 115, 32, 123, 32, 125, 32, 123]
def deepA : List UInt8 := deepB ++ [32, 114, 101, 115, 117, 108, 116, 32, 61]
def ahead (m : Nat) : List UInt8 := if m = 0 then [40] else if m = 1 then [45] else [33]
def behind (m : Nat) : List UInt8 := if m = 0 then [41] else []
def rep (k : Nat) (x : List UInt8) : List UInt8 := (List.replicate k x).flatten
theorem rep_succ (k : Nat) (x : List UInt8) : rep (k + 1) x = rep k x ++ x := by
  unfold rep
  rw [List.replicate_succ', List.flatten_append]
  simp
def deepS (k m : Nat) : List UInt8 := deepA ++ rep k (32 :: ahead m) ++ [32, 49] ++ rep k (32 :: behind m) ++ [32, 59, 32, 125]
def deepT (k : Nat) : List UInt8 := deepB ++ rep k [32, 119, 104, 105, 108, 101, 32, 49, 32, 123] ++ rep k [32, 125] ++ [32, 125]
theorem deepS_few : ∀ m : Fin 3, ∀ k : Fin 40, (parseP (deepS k m)).2.1 = 0 := by decide +kernel
theorem deepS_deep : ∀ m : Fin 3, ∀ k : Fin 21, (parseP (deepS (40 + k) m)).2.1 = 12 ∧ (parseP (deepS (40 + k) m)).2.2 = 125 := by decide +kernel
theorem deepT_few : ∀ k : Fin 40, (parseP (deepT k)).2.1 = 0 := by decide +kernel
theorem deepT_deep : ∀ k : Fin 21, (parseP (deepT (40 + k))).2.1 = 12 ∧ (parseP (deepT (40 + k))).2.2 = 436 := by decide +kernel

end Go.Proofs.YtlofkmoeilikkaaDoor

namespace Go.Proofs.YtlofkmoeilikkaaDoor
open Go.RowKit Go.Lib
set_option maxRecDepth 100000

theorem tx_cat (a b : List UInt8) : tx a ++ tx b = tx (a ++ b) := by
  unfold tx
  apply ByteArray.ext
  simp
theorem rep_len (k : Nat) (x : List UInt8) : (rep k x).length = k * x.length := by
  unfold rep
  simp
theorem ahead_len (m : Nat) : (ahead m).length = 1 := by
  unfold ahead
  split
  · rfl
  · split <;> rfl
theorem behind_len (m : Nat) : (behind m).length = if m = 0 then 1 else 0 := by
  unfold behind
  split <;> rfl
def SA (m i : Nat) : List UInt8 := deepA ++ rep i (32 :: ahead m)
def SB (m k i : Nat) : List UInt8 := deepA ++ rep k (32 :: ahead m) ++ [32, 49] ++ rep i (32 :: behind m)
def SC (i : Nat) : List UInt8 := deepB ++ rep i [32, 119, 104, 105, 108, 101, 32, 49, 32, 123]
def SD (k i : Nat) : List UInt8 := deepB ++ rep k [32, 119, 104, 105, 108, 101, 32, 49, 32, 123] ++ rep i [32, 125]
theorem sa_more (m i : Nat) : tx (SA m i) ++ ⟨#[32]⟩ ++ tx (ahead m) = tx (SA m (i + 1)) := by
  rw [show (⟨#[32]⟩ : ByteArray) = tx [32] from rfl, tx_cat, tx_cat]
  unfold SA
  rw [rep_succ]
  simp
theorem sa_size (m i : Nat) : (tx (SA m i)).size = 46 + 2 * i := by
  rw [tx_size]
  unfold SA
  rw [List.length_append, rep_len, List.length_cons, ahead_len, show deepA.length = 46 from rfl]
  omega
theorem sb_zero (m k : Nat) : tx (SA m k) ++ ⟨#[32, 49]⟩ = tx (SB m k 0) := by
  rw [show (⟨#[32, 49]⟩ : ByteArray) = tx [32, 49] from rfl, tx_cat]
  unfold SA SB rep
  simp
theorem sb_more (m k i : Nat) : tx (SB m k i) ++ ⟨#[32]⟩ ++ tx (behind m) = tx (SB m k (i + 1)) := by
  rw [show (⟨#[32]⟩ : ByteArray) = tx [32] from rfl, tx_cat, tx_cat]
  unfold SB
  rw [rep_succ]
  simp
theorem sb_size (m k i : Nat) : (tx (SB m k i)).size = 48 + 2 * k + i * ((behind m).length + 1) := by
  rw [tx_size]
  unfold SB
  simp only [List.length_append, rep_len, List.length_cons, ahead_len, show deepA.length = 46 from rfl, List.length_nil]
  omega
theorem sb_last (m k : Nat) : tx (SB m k k) ++ ⟨#[32, 59, 32, 125]⟩ = tx (deepS k m) := by
  rw [show (⟨#[32, 59, 32, 125]⟩ : ByteArray) = tx [32, 59, 32, 125] from rfl, tx_cat]
  rfl
theorem sc_more (i : Nat) : tx (SC i) ++ ⟨#[32, 119, 104, 105, 108, 101, 32, 49, 32, 123]⟩ = tx (SC (i + 1)) := by
  rw [show (⟨#[32, 119, 104, 105, 108, 101, 32, 49, 32, 123]⟩ : ByteArray) = tx [32, 119, 104, 105, 108, 101, 32, 49, 32, 123] from rfl, tx_cat]
  unfold SC
  rw [rep_succ]
  simp
theorem sc_size (i : Nat) : (tx (SC i)).size = 37 + 10 * i := by
  rw [tx_size]
  unfold SC
  rw [List.length_append, rep_len, show deepB.length = 37 from rfl]
  simp
  omega
theorem sd_zero (k : Nat) : tx (SC k) = tx (SD k 0) := by
  unfold SC SD rep
  simp
theorem sd_more (k i : Nat) : tx (SD k i) ++ ⟨#[32, 125]⟩ = tx (SD k (i + 1)) := by
  rw [show (⟨#[32, 125]⟩ : ByteArray) = tx [32, 125] from rfl, tx_cat]
  unfold SD
  rw [rep_succ]
  simp
theorem sd_size (k i : Nat) : (tx (SD k i)).size = 37 + 10 * k + 2 * i := by
  rw [tx_size]
  unfold SD
  simp only [List.length_append, rep_len, show deepB.length = 37 from rfl, List.length_cons, List.length_nil]
  omega
theorem sd_last (k : Nat) : tx (SD k k) ++ ⟨#[32, 125]⟩ = tx (deepT k) := by
  rw [show (⟨#[32, 125]⟩ : ByteArray) = tx [32, 125] from rfl, tx_cat]
  rfl
def aheadA : Array Value := #[.string ⟨#[40]⟩, .string ⟨#[45]⟩, .string ⟨#[33]⟩]
def behindA : Array Value := #[.string ⟨#[41]⟩, .string ⟨#[]⟩, .string ⟨#[]⟩]
theorem aheadA_at (m : Nat) (h : m < 3) : aheadA[m]? = some (.string (tx (ahead m))) := by
  match m, h with
  | 0, _ => rfl
  | 1, _ => rfl
  | 2, _ => rfl
theorem behindA_at (m : Nat) (h : m < 3) : behindA[m]? = some (.string (tx (behind m))) := by
  match m, h with
  | 0, _ => rfl
  | 1, _ => rfl
  | 2, _ => rfl

set_option maxHeartbeats 8000000 in
theorem deep_walk (K : ParseK) (n c : UInt8) (w : World) (ht : SgW w) : Calls Tryd.prog 5 #[.int .u8 (n.toNat : Int), .int .u8 (c.toNat : Int)] w fun e w' => e = .returned (.bool true) ∧ Below w.heap.size w w' := by
  obtain ⟨m, hm⟩ : ∃ m, c.toNat % 3 = m := ⟨_, rfl⟩
  have hm3 : m < 3 := by omega
  obtain ⟨j, hj⟩ : ∃ j, n.toNat % 60 = j := ⟨_, rfl⟩
  obtain ⟨k, hk⟩ : ∃ k, 1 + j = k := ⟨_, rfl⟩
  have hk60 : k ≤ 60 := by omega
  have F1 : (k < 40 ∧ (parseP (deepS k m)).2.1 = 0) ∨ (40 ≤ k ∧ (parseP (deepS k m)).2.1 = 12 ∧ (parseP (deepS k m)).2.2 = 125) := by
    by_cases h : k < 40
    · exact .inl ⟨h, deepS_few ⟨m, hm3⟩ ⟨k, h⟩⟩
    · have := deepS_deep ⟨m, hm3⟩ ⟨k - 40, by omega⟩
      simp only [show 40 + (k - 40) = k by omega] at this
      exact .inr ⟨by omega, this.1, this.2⟩
  have F2 : (k < 40 ∧ (parseP (deepT k)).2.1 = 0) ∨ (40 ≤ k ∧ (parseP (deepT k)).2.1 = 12 ∧ (parseP (deepT k)).2.2 = 436) := by
    by_cases h : k < 40
    · exact .inl ⟨h, deepT_few ⟨k, h⟩⟩
    · have := deepT_deep ⟨k - 40, by omega⟩
      simp only [show 40 + (k - 40) = k by omega] at this
      exact .inr ⟨by omega, this.1, this.2⟩
  obtain ⟨w1, hw1⟩ : ∃ w1, w.alloc (.cells aheadA 9) = w1 := ⟨_, rfl⟩
  obtain ⟨w2, hw2⟩ : ∃ w2, w1.alloc (.cells behindA 9) = w2 := ⟨_, rfl⟩
  have g1 : w1.cell? ⟨w.heap.size, m, none⟩ = some (.string (tx (ahead m))) := by
    rw [← hw1]
    exact cellsN (heap_alloc_new _ _) m _ (aheadA_at m hm3)
  have g2 : w2.cell? ⟨w1.heap.size, m, none⟩ = some (.string (tx (behind m))) := by
    rw [← hw2]
    exact cellsN (heap_alloc_new _ _) m _ (behindA_at m hm3)
  have hb2 : Below w.heap.size w w2 := by
    rw [← hw2, ← hw1]
    exact ((Below.refl _ w).alloc (Nat.le_refl _) _).alloc (by simp) _
  have HK := Lib.hid (And.intro K (And.intro (ht.later hb2) hb2))
  have HF := Lib.hid (And.intro F1 F2)
  have hz : ((n.toNat : Int)) % 60 = (j : Int) := by omega
  have hz2 : 1 + (j : Int) = (k : Int) := by omega
  have hz3 : ((c.toNat : Int)) % 3 = (m : Int) := by omega
  have hm4 : (m : Int) < 3 := by omega
  have hn : n.toNat < 256 := n.toNat_lt
  have hc : c.toNat < 256 := c.toNat_lt
  have hal := ahead_len m
  have hbl : (behind m).length ≤ 1 := by
    rw [behind_len]
    split <;> omega
  unfold aheadA at hw1
  unfold behindA at hw2
  clear K ht hb2 hk hj hm F1 F2
  go_enter Tryd.func5, Tryd.ntmps5
  go_wp2_with fail
  clear hz hz2 hz3 g1 g2 hw1 hw2
  go_loopw [9, 10] (fun x v wr => ∃ i : Nat, i ≤ k ∧ x = .string (tx (SA m i)) ∧ v = .int .i64 i ∧ w2 = wr)
    (fun _ v _ => k - (RowKit.intOf v).toNat)
  case atStart => exact ⟨0, Nat.zero_le _, rfl, rfl, rfl⟩
  case round =>
    obtain ⟨i, hi, rfl, rfl, rfl⟩ := hrel
    have z1 := sa_size m i
    have z2 := tx_size (ahead m)
    by_cases hlt : i < k
    · have h3 : (i : Int) < (k : Int) := by omega
      have t1 := sa_more m i
      go_wp2_with fail
      exact ⟨⟨i + 1, by omega, rfl, by go_num, by first | rfl | trivial⟩, by simp [RowKit.intOf]; omega⟩
    · have h3 : ¬ (i : Int) < (k : Int) := by omega
      obtain rfl : i = k := by omega
      have t1 := sb_zero m i
      go_wp2_with fail
      clear z1 z2 t1 h3 hlt hi
      go_loopw [9, 11] (fun x v wr => ∃ q : Nat, q ≤ i ∧ x = .string (tx (SB m i q)) ∧ v = .int .i64 q ∧ w2 = wr)
        (fun _ v _ => i - (RowKit.intOf v).toNat)
      case atStart => exact ⟨0, Nat.zero_le _, rfl, rfl, rfl⟩
      case round =>
        obtain ⟨q, hi, rfl, rfl, rfl⟩ := hrel
        have z1 := sb_size m i q
        have z2 := tx_size (behind m)
        have zq : q * ((behind m).length + 1) ≤ 60 * 2 := Nat.mul_le_mul (by omega) (by omega)
        by_cases hlt : q < i
        · have h3 : (q : Int) < (i : Int) := by omega
          have t1 := sb_more m i q
          generalize q * ((behind m).length + 1) = qq at *
          go_wp2_with fail
          exact ⟨⟨q + 1, by omega, rfl, by go_num, by first | rfl | trivial⟩, by simp [RowKit.intOf]; omega⟩
        · have h3 : ¬ (q : Int) < (i : Int) := by omega
          obtain rfl : q = i := by omega
          have t1 := sb_last m q
          have P1 := HK.out.1.mod (deepS q m) w2 HK.out.2.1
          generalize q * ((behind m).length + 1) = qq at *
          go_wp2_with fail
          refine P1.mono ?_
          obtain ⟨R, hR⟩ : ∃ R, parseP (deepS q m) = R := ⟨_, rfl⟩
          rw [hR]
          have HF1 := HF.out.1
          rw [hR] at HF1
          obtain ⟨md, x1, p1⟩ := R
          simp only at HF1
          obtain ⟨nm, mp, mi, mv, mq⟩ := md
          rintro e w3 ⟨vI, vV, vP, rfl, hv, hb3⟩
          obtain ⟨⟨aI, nI, cI, rfl⟩, ⟨aV, nV, cV, rfl⟩, ⟨aP, nP, cP, rfl⟩⟩ := modV_shapes hv
          have hb4 := hb3.alloc hb3.size (.cells #[.string (tx nm), .int .i64 (mp : Int), .slice aI nI cI, .slice aV nV cV, .slice aP nP cP] 27)
          have H3 := Lib.hid (And.intro HK.out.1 (And.intro (HK.out.2.1.later hb4) (HK.out.2.2.trans (hb4.mono HK.out.2.2.size))))
          have HF2 := Lib.hid (And.intro HF1 HF.out.2)
          clear hv hb3 hb4 HK P1 hR HF HF1 z1 z2 zq t1
          obtain ⟨w4, hw4⟩ : ∃ w4, w3.alloc (.cells #[.string (tx nm), .int .i64 (mp : Int), .slice aI nI cI, .slice aV nV cV, .slice aP nP cP] 27) = w4 := ⟨_, rfl⟩
          rw [hw4] at H3
          go_wp2_with fail
          clear hw4
          go_loopw [15, 16] (fun x v wr => ∃ i : Nat, i ≤ q ∧ x = .string (tx (SC i)) ∧ v = .int .i64 i ∧ w4 = wr)
            (fun _ v _ => q - (RowKit.intOf v).toNat)
          case atStart => exact ⟨0, Nat.zero_le _, rfl, rfl, rfl⟩
          case round =>
            obtain ⟨i, hi, rfl, rfl, rfl⟩ := hrel
            have z1 := sc_size i
            by_cases hlt : i < q
            · have h3 : (i : Int) < (q : Int) := by omega
              have t1 := sc_more i
              go_wp2_with fail
              exact ⟨⟨i + 1, by omega, rfl, by go_num, by first | rfl | trivial⟩, by simp [RowKit.intOf]; omega⟩
            · have h3 : ¬ (i : Int) < (q : Int) := by omega
              obtain rfl : i = q := by omega
              have t0 := sd_zero i
              go_wp2_with fail
              clear z1 h3 hlt hi
              go_loopw [15, 17] (fun x v wr => ∃ g : Nat, g ≤ i ∧ x = .string (tx (SD i g)) ∧ v = .int .i64 g ∧ w4 = wr)
                (fun _ v _ => i - (RowKit.intOf v).toNat)
              case atStart => exact ⟨0, Nat.zero_le _, by rw [← t0], rfl, rfl⟩
              case round =>
                obtain ⟨g, hi, rfl, rfl, rfl⟩ := hrel
                have z1 := sd_size i g
                by_cases hlt : g < i
                · have h3 : (g : Int) < (i : Int) := by omega
                  have t1 := sd_more i g
                  go_wp2_with fail
                  exact ⟨⟨g + 1, by omega, rfl, by go_num, by first | rfl | trivial⟩, by simp [RowKit.intOf]; omega⟩
                · have h3 : ¬ (g : Int) < (i : Int) := by omega
                  obtain rfl : g = i := by omega
                  have t1 := sd_last g
                  have P2 := H3.out.1.mod (deepT g) w4 H3.out.2.1
                  clear t0
                  go_wp2_with fail
                  refine P2.mono ?_
                  obtain ⟨R, hR⟩ : ∃ R, parseP (deepT g) = R := ⟨_, rfl⟩
                  rw [hR]
                  have HF3 := HF2.out
                  rw [hR] at HF3
                  obtain ⟨md, x2, p2⟩ := R
                  simp only at HF3
                  obtain ⟨nm2, mp2, mi2, mv2, mq2⟩ := md
                  rintro e w5 ⟨vI2, vV2, vP2, rfl, hv, hb3⟩
                  obtain ⟨⟨aI2, nI2, cI2, rfl⟩, ⟨aV2, nV2, cV2, rfl⟩, ⟨aP2, nP2, cP2, rfl⟩⟩ := modV_shapes hv
                  have hb4 := hb3.alloc hb3.size (.cells #[.string (tx nm2), .int .i64 (mp2 : Int), .slice aI2 nI2 cI2, .slice aV2 nV2 cV2, .slice aP2 nP2 cP2] 27)
                  have H4 := Lib.hid (And.intro H3.out.1 (And.intro (H3.out.2.1.later hb4) (H3.out.2.2.trans (hb4.mono H3.out.2.2.size))))
                  clear hv hb3 hb4 H3 P2 hR HF2 z1 t1
                  obtain ⟨w6, hw6⟩ : ∃ w6, w5.alloc (.cells #[.string (tx nm2), .int .i64 (mp2 : Int), .slice aI2 nI2 cI2, .slice aV2 nV2 cV2, .slice aP2 nP2 cP2] 27) = w6 := ⟨_, rfl⟩
                  rw [hw6] at H4
                  by_cases h40 : g < 40
                  · have y1 : (g : Int) < 40 := by omega
                    obtain rfl : x1 = 0 := by
                      rcases HF3.1 with h | h
                      · exact h.2
                      · omega
                    obtain rfl : x2 = 0 := by
                      rcases HF3.2 with h | h
                      · exact h.2
                      · omega
                    clear HF3
                    go_wp2_with (first | (go_at_call 12; refine (lnum_at _ _).mono ?_; rintro e w' ⟨rfl, rfl⟩) | (go_at_call 9; refine (awake_par H4.out.1 _ H4.out.2.1).mono ?_; rintro e w' ⟨rfl, hb9⟩; have H9 := Lib.hid (H4.out.2.2.trans (hb9.mono H4.out.2.2.size)); clear hb9))
                    go_ret
                    exact ⟨rfl, H9.out⟩
                  · have y1 : ¬ (g : Int) < 40 := by omega
                    obtain ⟨rfl, rfl⟩ : x1 = 12 ∧ p1 = 125 := by
                      rcases HF3.1 with h | h
                      · omega
                      · exact h.2
                    obtain ⟨rfl, rfl⟩ : x2 = 12 ∧ p2 = 436 := by
                      rcases HF3.2 with h | h
                      · omega
                      · exact h.2
                    clear HF3
                    go_wp2_with (first | (go_at_call 12; refine (lnum_at _ _).mono ?_; rintro e w' ⟨rfl, rfl⟩) | (go_at_call 9; refine (awake_par H4.out.1 _ H4.out.2.1).mono ?_; rintro e w' ⟨rfl, hb9⟩; have H9 := Lib.hid (H4.out.2.2.trans (hb9.mono H4.out.2.2.size)); clear hb9))
                    go_ret
                    exact ⟨rfl, H9.out⟩

theorem u8_at (z : Int) (h : 0 ≤ z ∧ z ≤ 255) : ∃ n : UInt8, z = (n.toNat : Int) := ⟨UInt8.ofNat z.toNat, by rw [UInt8.toNat_ofNat']; omega⟩
theorem deep_int (K : ParseK) (z0 z1 : Int) (h0 : 0 ≤ z0 ∧ z0 ≤ 255) (h1 : 0 ≤ z1 ∧ z1 ≤ 255) (w : World) (ht : SgW w) : Calls Tryd.prog 5 #[.int .u8 z0, .int .u8 z1] w fun e w' => e = .returned (.bool true) ∧ Below w.heap.size w w' := by
  obtain ⟨n, rfl⟩ := u8_at z0 h0
  obtain ⟨c, rfl⟩ := u8_at z1 h1
  exact deep_walk K n c w ht

end Go.Proofs.YtlofkmoeilikkaaDoor
