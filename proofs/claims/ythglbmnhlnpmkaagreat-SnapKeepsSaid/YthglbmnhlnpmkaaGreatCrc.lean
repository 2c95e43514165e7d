/- A checksum's steps: plain facts. Numbers and types by name. -/
import Derived.Test.YthglbmnhlnpmkaaGreatBe4
import Derived.Test.YthglbmnhlnpmkaaGreatRdp
import Derived.Laws.BitsLemmas
import Derived.Test.YthglbmnhlnpmkaaGreatCel
/- The reference's U32 and Get. Numbers and types by name. -/
namespace Go.Proofs.YthglbmnhlnpmkaaGreat
open Go.RowKit Go.Lib

theorem next_of {α : Type} {L : List α} {k : Nat} {s : α} (h : L[k]? = some s) : L.take (k + 1) = L.take k ++ [s] := by rw [List.take_add_one, h]; rfl

theorem bs_lit (w : World) (base : Nat) (l : List UInt8) (n : Nat) (hn : n = l.length) (hb : base ≤ w.heap.size) (hm : n ≤ maxLen) : Bs (w.alloc (.cells (bv l).toArray 5)) base (.slice (some ⟨w.heap.size, 0, none⟩) n n) n l := by
  subst hn
  refine ⟨rfl, by rw [bv_length, Nat.mul_one], .inr ⟨w.heap.size, l.length, (bv l).toArray, rfl, hb, heap_alloc_new w _, Nat.le_refl _, hm, by simp [bv], ?_⟩⟩
  rw [Nat.mul_one, ← bv_length l]
  simp

theorem ref_u32 (n : Int) (w : World) :
    Calls Tryz.prog 77 #[.int .i64 n] w fun e w' => ∃ ao c, e = .returned (.slice ao 4 c) ∧ Bs w' w.heap.size (.slice ao 4 c) 4 (be4 n) ∧ Below w.heap.size w w' := by
  have HB := Lib.hid (bv_be4 n)
  go_enter Tryz.func77, Tryz.ntmps77
  go_wp2_with fail
  go_ret
  refine ⟨_, _, rfl, ?_, (Below.refl _ w).alloc (Nat.le_refl _) _⟩
  have := bs_lit w w.heap.size (be4 n) 4 rfl (Nat.le_refl _) (by unfold maxLen; decide)
  rw [HB.out] at this
  exact this

theorem or_at (s : Nat) (x y : Int) (h0 : 0 ≤ x) (h1 : x < 4611686018427387904) (hx : x % 2 ^ s = 0) (y0 : 0 ≤ y) (y1 : y < 2 ^ s) (y2 : y < 4611686018427387904) : bits .or .i64 x y = x + y := by
  have hp : (2 : Int) ^ 62 = 4611686018427387904 := by decide
  exact bits_join .i64 62 (by decide) (fun m _ _ => by rw [IntKind.wrap_i64]; omega) s x y h0 hx (by omega) y0 y1 (by omega)

theorem ref_get_inL (v : Value) (m : Nat) (l : List UInt8) (k : Nat) (w : World) (hr : Reads w v (bv l)) (hm : m = l.length) (hl : Hid (m ≤ maxLen)) (hk : k + 4 ≤ m) :
    Calls Tryz.prog 80 #[v, .int .i64 k] w fun e w' => e = .returned (.tuple #[.int .i64 (numOf ((l.drop k).take 4)), .bool true]) ∧ ∃ j, w' = w.drewN j := by
  obtain ⟨ao, cap, rfl, hcap, hn, hc⟩ := hr
  rw [bv_length, ← hm] at hcap ⊢
  have hL : m ≤ 9223372036854775807 := by have := hl.out; unfold maxLen at this; omega
  obtain ⟨a, rfl⟩ : ∃ a, ao = some a := by
    cases ao with
    | some a => exact ⟨a, rfl⟩
    | none => have := (hn rfl).1; have : l = [] := by simpa [bv] using this
              subst this; simp at hm; omega
  have hcell : ∀ j (x : UInt8), l[j]? = some x → ∀ w', Grow w.drew w' → w'.cell? (a.add j) = some (.int .u8 (x.toNat : Int)) := fun j x hx w' hg => by
    have h := hc a rfl j _ (by simp [bv, hx] : (bv l)[j]? = some (.int .u8 (x.toNat : Int)))
    rw [World.cell?_of_block (hg.block _ (World.block_lt_of_cell? w _ h))]
    exact h
  have at_ : ∀ j, j < m → ∃ x, l[j]? = some x := fun j hj => ⟨l[j], List.getElem?_eq_getElem (by omega)⟩
  obtain ⟨x0, e0⟩ := at_ k (by omega)
  obtain ⟨x1, e1⟩ := at_ (k + 1) (by omega)
  obtain ⟨x2, e2⟩ := at_ (k + 2) (by omega)
  obtain ⟨x3, e3⟩ := at_ (k + 3) (by omega)
  have hnum : numOf ((l.drop k).take 4) = (x0.toNat : Int) * 16777216 + (x1.toNat : Int) * 65536 + (x2.toNat : Int) * 256 + (x3.toNat : Int) := by
    have : (l.drop k).take 4 = [x0, x1, x2, x3] := by
      rw [show (4 : Nat) = 0 + 1 + 1 + 1 + 1 from rfl, next_of (L := l.drop k) (s := x3) (by simpa using e3), next_of (L := l.drop k) (s := x2) (by simpa using e2), next_of (L := l.drop k) (s := x1) (by simpa using e1), next_of (L := l.drop k) (s := x0) (by simpa using e0)]
      rfl
    rw [this]
    simp only [numOf, List.foldl_cons, List.foldl_nil]
    omega
  have c0 := hcell _ _ e0
  have c1 := hcell _ _ e1
  have c2 := hcell _ _ e2
  have c3 := hcell _ _ e3
  have b0 := x0.toNat_lt
  have b1 := x1.toNat_lt
  have b2 := x2.toNat_lt
  have b3 := x3.toNat_lt
  rw [hnum]
  clear hcell at_ e0 e1 e2 e3 hnum hc hn hm
  generalize x0.toNat = y0 at *
  generalize x1.toNat = y1 at *
  generalize x2.toNat = y2 at *
  generalize x3.toNat = y3 at *
  obtain ⟨k1, hk1⟩ : ∃ k1, k1 = k + 1 := ⟨_, rfl⟩
  obtain ⟨k2, hk2⟩ : ∃ k2, k2 = k + 2 := ⟨_, rfl⟩
  obtain ⟨k3, hk3⟩ : ∃ k3, k3 = k + 3 := ⟨_, rfl⟩
  rw [← hk1] at c1
  rw [← hk2] at c2
  rw [← hk3] at c3
  have q1 : IntKind.i64.wrap ((k : Int) + 1) = (k1 : Int) := by rw [IntKind.wrap_i64]; omega
  have q2 : IntKind.i64.wrap ((k : Int) + 2) = (k2 : Int) := by rw [IntKind.wrap_i64]; omega
  have q3 : IntKind.i64.wrap ((k : Int) + 3) = (k3 : Int) := by rw [IntKind.wrap_i64]; omega
  have g0 : (k : Int) < (m : Int) := by omega
  have g1 : (k1 : Int) < (m : Int) := by omega
  have g2 : (k2 : Int) < (m : Int) := by omega
  have g3 : (k3 : Int) < (m : Int) := by omega
  have g0' : k < m := by omega
  have g1' : k1 < m := by omega
  have g2' : k2 < m := by omega
  have g3' : k3 < m := by omega
  have r0 : IntKind.i64.wrap (y0 : Int) = (y0 : Int) := by rw [IntKind.wrap_i64]; omega
  have r1 : IntKind.i64.wrap (y1 : Int) = (y1 : Int) := by rw [IntKind.wrap_i64]; omega
  have r2 : IntKind.i64.wrap (y2 : Int) = (y2 : Int) := by rw [IntKind.wrap_i64]; omega
  have r3 : IntKind.i64.wrap (y3 : Int) = (y3 : Int) := by rw [IntKind.wrap_i64]; omega
  have s0 : IntKind.i64.wrap ((y0 : Int) * 16777216) = (y0 : Int) * 16777216 := by rw [IntKind.wrap_i64]; omega
  have s1 : IntKind.i64.wrap ((y1 : Int) * 65536) = (y1 : Int) * 65536 := by rw [IntKind.wrap_i64]; omega
  have s2 : IntKind.i64.wrap ((y2 : Int) * 256) = (y2 : Int) * 256 := by rw [IntKind.wrap_i64]; omega
  have o1 : bits .or .i64 ((y0 : Int) * 16777216) ((y1 : Int) * 65536) = (y0 : Int) * 16777216 + (y1 : Int) * 65536 := or_at 24 _ _ (by omega) (by omega) (by simp) (by omega) (by simp; omega) (by omega)
  have o2 : bits .or .i64 ((y0 : Int) * 16777216 + (y1 : Int) * 65536) ((y2 : Int) * 256) = (y0 : Int) * 16777216 + (y1 : Int) * 65536 + (y2 : Int) * 256 := or_at 16 _ _ (by omega) (by omega) (by omega) (by omega) (by simp; omega) (by omega)
  have o3 : bits .or .i64 ((y0 : Int) * 16777216 + (y1 : Int) * 65536 + (y2 : Int) * 256) (y3 : Int) = (y0 : Int) * 16777216 + (y1 : Int) * 65536 + (y2 : Int) * 256 + (y3 : Int) := or_at 8 _ _ (by omega) (by omega) (by omega) (by omega) (by simp; omega) (by omega)
  have n1 : ¬ ((k : Int) < 0) := by omega
  have n2 : ¬ ((m : Int) - 4 < (k : Int)) := by omega
  have n3 : wrap64 ((m : Int) - 4) = (m : Int) - 4 := wrap64_id _ (by omega)
  clear hL hk1 hk2 hk3 b0 b1 b2 b3 hk hcap
  go_enter Tryz.func80, Tryz.ntmps80
  go_wp2_with fail
  refine wp_region_mv [(0, 31, true)] (by kernel_rfl) (by kernel_rfl) ?_
  simp only [mvAll, mvSeg, List.drop_zero, List.cons_append, List.nil_append, Nat.reduceAdd]
  iterate 31
    refine wpLin_still ?_ (fun w' hG K hK => ?_) (fun K hK => ?_)
    rotate_left
    · unfold mvVal
      go_simp
      try exact hK
    go_simp
    refine hK _ ?_
    clear hK K
  refine wpLin_nil ?_
  go_wp2
  go_ret2
  exact ⟨rfl, 1, rfl⟩

theorem ref_get_outL (v : Value) (m : Nat) (l : List UInt8) (k : Int) (w : World) (hr : Reads w v (bv l)) (hm : m = l.length) (hl : Hid (m ≤ maxLen)) (hk : ¬ (0 ≤ k ∧ k + 4 ≤ m)) :
    Calls Tryz.prog 80 #[v, .int .i64 k] w fun e w' => e = .returned (.tuple #[.int .i64 0, .bool false]) ∧ w' = w := by
  obtain ⟨ao, cap, rfl, _⟩ := hr
  rw [bv_length, ← hm]
  have n3 : wrap64 ((m : Int) - 4) = (m : Int) - 4 := wrap64_id _ (by have := hl.out; unfold maxLen at this; omega)
  by_cases n1 : k < 0
  · clear n3 hk
    go_enter Tryz.func80, Tryz.ntmps80
    go_wp2_with fail
    go_ret2
    exact ⟨rfl, rfl⟩
  · have n2 : (m : Int) - 4 < k := by omega
    clear hk hm
    go_enter Tryz.func80, Tryz.ntmps80
    go_wp2_with fail
    go_ret2
    exact ⟨rfl, rfl⟩

theorem ref_get_in (v : Value) (m : Nat) (l : List UInt8) (k : Nat) (w : World) (hr : Reads w v (bv l)) (hm : m = l.length) (hl : Hid (m ≤ 1000000000)) (hk : k + 4 ≤ m) :
    Calls Tryz.prog 80 #[v, .int .i64 k] w fun e w' => e = .returned (.tuple #[.int .i64 (numOf ((l.drop k).take 4)), .bool true]) ∧ ∃ j, w' = w.drewN j := ref_get_inL v m l k w hr hm (hid_small hl) hk
theorem ref_get_out (v : Value) (m : Nat) (l : List UInt8) (k : Int) (w : World) (hr : Reads w v (bv l)) (hm : m = l.length) (hl : Hid (m ≤ 1000000000)) (hk : ¬ (0 ≤ k ∧ k + 4 ≤ m)) :
    Calls Tryz.prog 80 #[v, .int .i64 k] w fun e w' => e = .returned (.tuple #[.int .i64 0, .bool false]) ∧ w' = w := ref_get_outL v m l k w hr hm (hid_small hl) hk

end Go.Proofs.YthglbmnhlnpmkaaGreat

/- The reference's Encode. Numbers and types by name. -/
namespace Go.Proofs.YthglbmnhlnpmkaaGreat
open Go.RowKit Go.Lib

theorem ref_encode (v : Value) (n : Nat) (L : List ByteArray) (w : World) (hr : Texts w v n L) (hb : bulk L ≤ 4000000) :
    Calls Tryz.prog 50 #[v] w fun e w' => ∃ ao c, e = .returned (.slice ao (enc L).length c) ∧ Bs w' w.heap.size (.slice ao (enc L).length c) (enc L).length (enc L) ∧ Below w.heap.size w w' := by
  obtain ⟨ao, c, rfl⟩ := hr.shape
  have HR := Lib.hid hr
  have hn := hr.1
  have hlen := encs_length L
  have hnb := bulk_length L
  have HL : Hid ((encs L).length ≤ 20000000 ∧ n = L.length ∧ (enc L).length = 4 + (encs L).length ∧ n ≤ 4000000) := Lib.hid ⟨by omega, hn, by simp [enc, be4_length], by omega⟩
  have hn1 : n ≤ 4000000 := HL.out.2.2.2
  clear hr hlen hnb hb hn
  go_enter Tryz.func50, Tryz.ntmps50
  go_wp2_with fail
  refine (ref_u32 _ _).mono ?_
  rintro e w1 ⟨ao1, c1, rfl, hown1, hb1⟩
  have HB := Lib.hid (And.intro hown1 hb1)
  clear hown1 hb1
  go_wp2_with fail
  go_loopw [3, 4] (fun v i wr => ∃ j : Nat, j ≤ n ∧ i = .int .i64 j ∧ Hid (∃ ao m c, v = .slice ao m c ∧ Bs wr w.heap.size (.slice ao m c) m (be4 n ++ encs (L.take j)) ∧ Below w.heap.size w wr))
    (fun _ i _ => n - (intOf i).toNat)
  case atStart => exact ⟨0, Nat.zero_le _, rfl, Lib.hid ⟨_, _, _, rfl, by simpa [encs] using HB.out.1, HB.out.2⟩⟩
  case round =>
    obtain ⟨j, hj, rfl, hrel⟩ := hrel
    obtain ⟨ao2, m, c2, rfl, hown, hbel⟩ := hrel.out
    clear HB hrel
    have hm : m = 4 + (encs (L.take j)).length := by rw [hown.1]; simp [be4_length]
    have hle := encs_take_le L j
    by_cases h1 : j < n
    · have h3 : (j : Int) < (n : Int) := by omega
      obtain ⟨a, s, rfl, hs, hc0, hsz⟩ := HR.out.at h1
      have HCELL : Hid (∀ w', Below w.heap.size w w' → w'.cell? (a.add j) = some (.string s)) := Lib.hid fun w' hg => by
        rw [World.cell?_of_block (hg.block _ (World.block_lt_of_cell? w _ hc0))]
        exact hc0
      have hc := HCELL.out wr hbel
      clear hc0
      have hT := encs_take hs
      have hle3 := encs_take_le L (j + 1)
      have hsz2 : (encs (L.take (j + 1))).length = (encs (L.take j)).length + 4 + s.size := by rw [hT]; simp [be4_length]; omega
      have hl5 := HL.out.1
      have HT := Lib.hid hT
      have F1 : Hid (m + 4 ≤ maxLen) := Lib.hid (by unfold maxLen; omega)
      have F2 : Hid ((m + 4) * 1 ≤ 140737488355328) := Lib.hid (by omega)
      have HM : Hid (m + 4 + s.size ≤ maxLen) := Lib.hid (by unfold maxLen; omega)
      have HM2 : Hid (m + 4 + s.size ≤ 140737488355328) := Lib.hid (by omega)
      have HO := Lib.hid (And.intro hown hbel)
      clear hs hT hsz hown hbel hle hle3 hsz2 hm hl5
      go_wp2_with (first | (go_at_call 77; refine (ref_u32 _ _).mono ?_; rintro e w2 ⟨ao3, c3, rfl, hown3, hb3⟩) | (at_builtin; refine wpList_append_bytes rfl (.tmp 14) (.tmp 20) rfl w.heap.size (.slice ao2 m c2) m _ rfl (HO.out.1.below hb3 (Nat.le_refl _)) (.slice ao3 4 c3) 4 _ rfl rfl hown3.reads (m + 4) rfl F1 F2 (Nat.le_trans HO.out.2.size hb3.size) ?_; intro ao4 c4 w4 hown4 hb4; have hc4 := HCELL.out w4 ((HO.out.2.trans (hb3.mono HO.out.2.size)).trans hb4)) | (at_builtin; refine wpList_append_text rfl (.tmp 22) (.tmp 26) rfl w.heap.size (.slice ao4 (m + 4) c4) (m + 4) _ rfl hown4 s rfl (m + 4 + s.size) rfl HM HM2 ((HO.out.2.trans (hb3.mono HO.out.2.size)).trans hb4).size ?_; intro ao5 c5 w5 hown5 hb5))
      refine ⟨⟨j + 1, by omega, by simp, Lib.hid ⟨ao5, _, c5, rfl, ?_, ((HO.out.2.trans (hb3.mono HO.out.2.size)).trans hb4).trans hb5⟩⟩, by simp [intOf]; omega⟩
      rw [HT.out]
      simpa [List.append_assoc] using hown5
    · have h3 : ¬ (j : Int) < (n : Int) := by omega
      obtain rfl : j = n := by omega
      have hkL : L.take j = L := List.take_of_length_le (by have := HL.out.2.1; omega)
      rw [hkL] at hown hm hle
      go_wp2_with fail
      go_ret
      have hE := HL.out.2.2.1
      have hjl : j = L.length := HL.out.2.1
      rw [← hE] at hm
      subst hm
      refine ⟨ao2, c2, ?_, ?_, hbel⟩
      · simp [hE]
      · show Bs wr _ _ _ (be4 L.length ++ encs L)
        rw [← hjl]
        exact hown

end Go.Proofs.YthglbmnhlnpmkaaGreat

namespace Go.Proofs.YthglbmnhlnpmkaaGreat
open Go.RowKit Go.Lib

def poly : BitVec 32 := 0xedb88320#32
/-- One step. -/
def sh (c : BitVec 32) : BitVec 32 := if c.getLsbD 0 = true then (c >>> 1) ^^^ poly else c >>> 1

theorem sh_xor (c d : BitVec 32) : sh (c ^^^ d) = sh c ^^^ sh d := by
  unfold sh
  rw [BitVec.getLsbD_xor, BitVec.ushiftRight_xor_distrib]
  cases h1 : c.getLsbD 0 <;> cases h2 : d.getLsbD 0 <;> simp
  · ac_rfl
  · ac_rfl
  · rw [show c >>> 1 ^^^ poly ^^^ (d >>> 1 ^^^ poly) = (c >>> 1 ^^^ d >>> 1) ^^^ (poly ^^^ poly) by ac_rfl]
    simp

theorem sh_zero : sh 0 = 0 := by decide

theorem sh_nonzero {c : BitVec 32} (h : c ≠ 0) : sh c ≠ 0 := by
  intro e
  apply h
  unfold sh at e
  have hc := c.isLt
  split at e
  · have e2 : c >>> 1 = poly := by
      have := congrArg (· ^^^ poly) e
      simp only [BitVec.xor_assoc, BitVec.xor_self, BitVec.xor_zero, BitVec.zero_xor] at this
      exact this
    have e3 := congrArg BitVec.toNat e2
    simp [poly, Nat.shiftRight_eq_div_pow] at e3
    omega
  · next hl =>
    have e3 := congrArg BitVec.toNat e
    simp [Nat.shiftRight_eq_div_pow] at e3
    have h0 : c.toNat % 2 = 0 := by
      have : c.getLsbD 0 = false := by simpa using hl
      rw [BitVec.getLsbD, Nat.testBit_zero] at this
      simpa using this
    apply BitVec.eq_of_toNat_eq
    simp
    omega

/-- A bit. -/
def bfeed (c : BitVec 32) (b : Bool) : BitVec 32 := sh (c ^^^ (if b then 1 else 0))
def bcrc (c : BitVec 32) (l : List Bool) : BitVec 32 := l.foldl bfeed c

theorem bfeed_xor (c d : BitVec 32) (x y : Bool) : bfeed (c ^^^ d) (x ^^ y) = bfeed c x ^^^ bfeed d y := by
  unfold bfeed
  rw [← sh_xor]
  congr 1
  cases x <;> cases y <;> simp
  · ac_rfl
  · ac_rfl
  · rw [show c ^^^ 1#32 ^^^ (d ^^^ 1#32) = (c ^^^ d) ^^^ (1#32 ^^^ 1#32) by ac_rfl]; simp

theorem bcrc_xor : ∀ (l m : List Bool) (c d : BitVec 32), l.length = m.length → bcrc (c ^^^ d) (List.zipWith (· ^^ ·) l m) = bcrc c l ^^^ bcrc d m
  | [], [], _, _, _ => rfl
  | x :: l, y :: m, c, d, h => by
    show bcrc (bfeed (c ^^^ d) (x ^^ y)) _ = bcrc (bfeed c x) l ^^^ bcrc (bfeed d y) m
    rw [bfeed_xor]
    exact bcrc_xor l m _ _ (by simpa using h)
  | [], _ :: _, _, _, h => by simp at h
  | _ :: _, [], _, _, h => by simp at h

theorem bcrc_append (c : BitVec 32) (l m : List Bool) : bcrc c (l ++ m) = bcrc (bcrc c l) m := List.foldl_append

def shs : Nat → BitVec 32 → BitVec 32
  | 0, c => c
  | n + 1, c => shs n (sh c)

theorem shs_xor : ∀ (n : Nat) (c d : BitVec 32), shs n (c ^^^ d) = shs n c ^^^ shs n d
  | 0, _, _ => rfl
  | n + 1, c, d => by show shs n (sh (c ^^^ d)) = _; rw [sh_xor, shs_xor n]; rfl
theorem shs_nonzero : ∀ (n : Nat) {c : BitVec 32}, c ≠ 0 → shs n c ≠ 0
  | 0, _, h => h
  | n + 1, _, h => shs_nonzero n (sh_nonzero h)
theorem shs_zero : ∀ n, shs n 0 = 0
  | 0 => rfl
  | n + 1 => by show shs n (sh 0) = 0; rw [sh_zero]; exact shs_zero n

/-- The number that bits are, the lowest first. -/
def pack : List Bool → Nat
  | [] => 0
  | b :: t => b.toNat + 2 * pack t

theorem pack_lt : ∀ l : List Bool, pack l < 2 ^ l.length
  | [] => by simp [pack]
  | b :: t => by
    have := pack_lt t
    have hb : b.toNat ≤ 1 := Bool.toNat_le b
    rw [pack, List.length_cons, Nat.pow_succ]
    omega

theorem xor_low (b : Bool) (p : Nat) : b.toNat + 2 * p = b.toNat ^^^ (2 * p) := by
  cases b with
  | false => simp
  | true =>
    apply Nat.eq_of_testBit_eq
    intro i
    cases i with
    | zero => rw [Nat.testBit_xor, Nat.testBit_zero, Nat.testBit_zero, Nat.testBit_zero]; simp [Nat.add_mod, Nat.mul_mod]
    | succ i =>
      rw [Nat.testBit_xor, Nat.testBit_succ, Nat.testBit_succ, Nat.testBit_succ]
      have h1 : (true.toNat + 2 * p) / 2 = p := by simp; omega
      have h2 : true.toNat / 2 = 0 := rfl
      have h3 : 2 * p / 2 = p := by omega
      rw [h1, h2, h3]
      simp

theorem sh_double (p : Nat) (hp : p < 2 ^ 31) : sh (BitVec.ofNat 32 (2 * p)) = BitVec.ofNat 32 p := by
  unfold sh
  have h0 : (BitVec.ofNat 32 (2 * p)).getLsbD 0 = false := by
    simp [BitVec.getLsbD, Nat.testBit_zero]
  rw [if_neg (by rw [h0]; simp)]
  apply BitVec.eq_of_toNat_eq
  simp [Nat.shiftRight_eq_div_pow]
  omega

/-- Up to 32 bits, one by one, are as one number at once. -/
theorem bcrc_pack : ∀ (l : List Bool) (c : BitVec 32), l.length ≤ 32 → bcrc c l = shs l.length (c ^^^ BitVec.ofNat 32 (pack l))
  | [], c, _ => by simp [bcrc, shs, pack]
  | b :: t, c, h => by
    have ht : t.length ≤ 31 := by simpa using h
    have hp : pack t < 2 ^ 31 := Nat.lt_of_lt_of_le (pack_lt t) (Nat.pow_le_pow_right (by decide) ht)
    show bcrc (bfeed c b) t = shs t.length (sh (c ^^^ BitVec.ofNat 32 (b.toNat + 2 * pack t)))
    rw [bcrc_pack t _ (by omega), xor_low, BitVec.ofNat_xor, ← BitVec.xor_assoc, sh_xor, sh_double _ hp]
    congr 2
    unfold bfeed
    cases b <;> simp

theorem bcrc_zeros : ∀ (n : Nat) (c : BitVec 32), bcrc c (List.replicate n false) = shs n c
  | 0, _ => rfl
  | n + 1, c => by
    rw [List.replicate_succ]
    show bcrc (bfeed c false) _ = shs n (sh c)
    rw [bcrc_zeros n]
    simp [bfeed]

/-- Bits side by side, up to 32 of them, not all of them none, make a sum that is not none. -/
theorem burst (n m : Nat) (l : List Bool) (hl : l.length ≤ 32) (h : pack l ≠ 0) : bcrc 0 (List.replicate n false ++ l ++ List.replicate m false) ≠ 0 := by
  rw [bcrc_append, bcrc_append, bcrc_zeros, bcrc_zeros, shs_zero, bcrc_pack l _ hl]
  refine shs_nonzero _ (shs_nonzero _ ?_)
  intro e
  have e2 := congrArg BitVec.toNat e
  have hp := Nat.lt_of_lt_of_le (pack_lt l) (Nat.pow_le_pow_right (n := 2) (by decide) hl)
  simp at e2
  omega

/-- A byte's bits, the lowest first. -/
def bitsOf (x : UInt8) : List Bool := (List.range 8).map fun i => x.toNat.testBit i
def feed (c : BitVec 32) (x : UInt8) : BitVec 32 := shs 8 (c ^^^ BitVec.ofNat 32 x.toNat)
def crc (c : BitVec 32) (l : List UInt8) : BitVec 32 := l.foldl feed c

theorem pack_bits (x : UInt8) : pack (bitsOf x) = x.toNat := by
  have all : ∀ n : Fin 256, pack ((List.range 8).map fun i => n.val.testBit i) = n.val := by decide +kernel
  exact all ⟨x.toNat, x.toNat_lt⟩

theorem feed_bits (c : BitVec 32) (x : UInt8) : feed c x = bcrc c (bitsOf x) := by
  rw [bcrc_pack _ _ (by simp [bitsOf]), pack_bits]
  rfl
theorem crc_bits : ∀ (l : List UInt8) (c : BitVec 32), crc c l = bcrc c (l.flatMap bitsOf)
  | [], _ => rfl
  | x :: l, c => by
    show crc (feed c x) l = _
    rw [crc_bits l, feed_bits, List.flatMap_cons, bcrc_append]

theorem crc_append (c : BitVec 32) (l m : List UInt8) : crc c (l ++ m) = crc (crc c l) m := List.foldl_append

/-! The machine's words for them. -/
theorem bits_xor_nat (k : IntKind) (j : Nat) (hj : j ≤ k.bits) (hk : ∀ n : Int, 0 ≤ n → n < 2 ^ j → k.wrap n = n) (a b : Nat) (ha : a < 2 ^ j) (hb : b < 2 ^ j) :
    bits .xor k a b = ((a ^^^ b : Nat) : Int) := by
  have hp : 2 ^ j ≤ 2 ^ k.bits := Nat.pow_le_pow_right (by decide) hj
  have ha' : a % 2 ^ k.bits = a := Nat.mod_eq_of_lt (Nat.lt_of_lt_of_le ha hp)
  have hb' : b % 2 ^ k.bits = b := Nat.mod_eq_of_lt (Nat.lt_of_lt_of_le hb hp)
  have cast : ∀ n : Nat, n < 2 ^ j → ((n : Nat) : Int) < 2 ^ j := fun n h => by exact_mod_cast h
  simp only [bits, BitVec.ofInt_natCast, BitVec.toNat_xor, BitVec.toNat_ofNat, ha', hb']
  exact hk _ (Int.natCast_nonneg _) (cast _ (Nat.xor_lt_two_pow ha hb))

theorem wrap_u32_small (n : Int) (h0 : 0 ≤ n) (h1 : n < 2 ^ 32) : IntKind.u32.wrap n = n := by
  have : (2 : Int) ^ 32 = 4294967296 := by decide
  simp [IntKind.wrap, IntKind.bits, IntKind.signed]
  omega
theorem wrap_i64_small (n : Int) (h0 : 0 ≤ n) (h1 : n < 2 ^ 62) : IntKind.i64.wrap n = n := by
  have : (2 : Int) ^ 62 = 4611686018427387904 := by decide
  rw [IntKind.wrap_i64]
  omega

theorem bits_xor_u32 (c d : BitVec 32) : bits .xor .u32 (c.toNat : Int) (d.toNat : Int) = ((c ^^^ d).toNat : Int) := by
  rw [bits_xor_nat .u32 32 (by decide) wrap_u32_small _ _ c.isLt d.isLt, BitVec.toNat_xor]
theorem bits_xor_i64 (c d : BitVec 32) : bits .xor .i64 (c.toNat : Int) (d.toNat : Int) = ((c ^^^ d).toNat : Int) := by
  rw [bits_xor_nat .i64 62 (by decide) wrap_i64_small _ _ (Nat.lt_of_lt_of_le c.isLt (by decide)) (Nat.lt_of_lt_of_le d.isLt (by decide)), BitVec.toNat_xor]
theorem bits_and_u32 (c d : BitVec 32) : bits .and .u32 (c.toNat : Int) (d.toNat : Int) = ((c &&& d).toNat : Int) := by
  rw [(bits_nat .u32 32 (by decide) wrap_u32_small _ _ c.isLt d.isLt).1, BitVec.toNat_and]
theorem bits_and_i64 (c d : BitVec 32) : bits .and .i64 (c.toNat : Int) (d.toNat : Int) = ((c &&& d).toNat : Int) := by
  rw [(bits_nat .i64 62 (by decide) wrap_i64_small _ _ (Nat.lt_of_lt_of_le c.isLt (by decide)) (Nat.lt_of_lt_of_le d.isLt (by decide))).1, BitVec.toNat_and]

theorem shs_succ : ∀ (n : Nat) (c : BitVec 32), shs (n + 1) c = sh (shs n c)
  | 0, _ => rfl
  | n + 1, c => by show shs (n + 1) (sh c) = sh (shs n (sh c)); exact shs_succ n (sh c)

/-- The state that a sum begins with. -/
def ones : BitVec 32 := 0xffffffff#32
def begun (s : Int) : BitVec 32 := BitVec.ofInt 32 s ^^^ ones
/-- The sum of l behind s. -/
def sumOf (s : Int) (l : List UInt8) : Int := ((crc (begun s) l ^^^ ones).toNat : Int)

theorem ofInt_mod (s : Int) : ((BitVec.ofInt 32 s).toNat : Int) = s % 4294967296 := by
  rw [BitVec.toNat_ofInt]
  have : ((2 ^ 32 : Nat) : Int) = 4294967296 := by decide
  rw [this]
  exact Int.toNat_of_nonneg (Int.emod_nonneg _ (by decide))

/-- Which arm is taken. -/
theorem low_one {c : BitVec 32} (h : c.getLsbD 0 = true) : bits .and .u32 (c.toNat : Int) 1 = 1 := by
  have := bits_and_u32 c 1
  have e : c &&& 1 = 1 := by
    apply BitVec.eq_of_toNat_eq
    rw [BitVec.getLsbD, Nat.testBit_zero] at h
    simp only [decide_eq_true_eq] at h
    simp [Nat.and_one_is_mod, h]
  rw [e] at this
  exact this
theorem low_none {c : BitVec 32} (h : c.getLsbD 0 = false) : bits .and .u32 (c.toNat : Int) 1 = 0 := by
  have := bits_and_u32 c 1
  have e : c &&& 1 = 0 := by
    apply BitVec.eq_of_toNat_eq
    rw [BitVec.getLsbD, Nat.testBit_zero] at h
    simp only [decide_eq_false_iff_not] at h
    simp [Nat.and_one_is_mod]
    omega
  rw [e] at this
  exact this
theorem half_nat (c : BitVec 32) : (c.toNat : Int) / (2 : Int) = ((c >>> 1).toNat : Int) := by
  simp [Nat.shiftRight_eq_div_pow]
theorem step_one {c : BitVec 32} (h : c.getLsbD 0 = true) : bits .xor .u32 ((c.toNat : Int) / (2 : Int)) 3988292384 = ((sh c).toNat : Int) := by
  rw [half_nat]
  have := bits_xor_u32 (c >>> 1) poly
  unfold sh
  rw [if_pos h]
  exact this
theorem step_none {c : BitVec 32} (h : c.getLsbD 0 = false) : (c.toNat : Int) / (2 : Int) = ((sh c).toNat : Int) := by
  rw [half_nat]
  unfold sh
  rw [if_neg (by rw [h]; simp)]
theorem byte_xor (c : BitVec 32) (x : UInt8) : bits .xor .u32 (c.toNat : Int) (x.toNat : Int) = ((c ^^^ BitVec.ofNat 32 x.toNat).toNat : Int) := by
  have := bits_xor_u32 c (BitVec.ofNat 32 x.toNat)
  have e : (BitVec.ofNat 32 x.toNat).toNat = x.toNat := by
    have := x.toNat_lt
    simp
  rw [e] at this
  exact this
theorem begun_xor (s : Int) : bits .xor .u32 (s % 4294967296) 4294967295 = ((begun s).toNat : Int) := by
  rw [← ofInt_mod]
  exact bits_xor_u32 (BitVec.ofInt 32 s) ones
theorem ended_xor (c : BitVec 32) : bits .xor .u32 (c.toNat : Int) 4294967295 = ((c ^^^ ones).toNat : Int) := bits_xor_u32 c ones

theorem begun_not (s : Int) : bits .xor .u32 IntKind.u32.max (s % 4294967296) = ((begun s).toNat : Int) := by
  rw [← ofInt_mod]
  have := bits_xor_u32 ones (BitVec.ofInt 32 s)
  rw [BitVec.xor_comm] at this
  exact this
theorem ended_not (c : BitVec 32) : bits .xor .u32 IntKind.u32.max (c.toNat : Int) = ((c ^^^ ones).toNat : Int) := by
  have := bits_xor_u32 ones c
  rw [BitVec.xor_comm] at this
  exact this

theorem sumOf_bound (s : Int) (l : List UInt8) : 0 ≤ sumOf s l ∧ sumOf s l < 4294967296 := by
  have := (crc (begun s) l ^^^ ones).isLt
  unfold sumOf
  omega
theorem begun_sum (s : Int) (l : List UInt8) : begun (sumOf s l) = crc (begun s) l := by
  show BitVec.ofInt 32 (((crc (begun s) l ^^^ ones).toNat : Nat) : Int) ^^^ ones = _
  rw [BitVec.ofInt_natCast, BitVec.ofNat_toNat, BitVec.setWidth_eq, BitVec.xor_assoc, BitVec.xor_self, BitVec.xor_zero]
/-- The sum of one text and then another. -/
theorem sumOf_append (s : Int) (a b : List UInt8) : sumOf (sumOf s a) b = sumOf s (a ++ b) := by
  show ((crc (begun (sumOf s a)) b ^^^ ones).toNat : Int) = _
  rw [begun_sum, ← crc_append]
  rfl
theorem sumOf_nil (s : Int) (h : 0 ≤ s ∧ s < 4294967296) : sumOf s [] = s := by
  show ((begun s ^^^ ones).toNat : Int) = s
  unfold begun
  rw [BitVec.xor_assoc, BitVec.xor_self, BitVec.xor_zero, ofInt_mod]
  omega

theorem feed_xor (c d : BitVec 32) (x y : UInt8) : feed (c ^^^ d) (x ^^^ y) = feed c x ^^^ feed d y := by
  unfold feed
  rw [← shs_xor, UInt8.toNat_xor, BitVec.ofNat_xor]
  congr 1
  ac_rfl
theorem crc_xor : ∀ (l m : List UInt8) (c d : BitVec 32), l.length = m.length → crc (c ^^^ d) (List.zipWith (· ^^^ ·) l m) = crc c l ^^^ crc d m
  | [], [], _, _, _ => rfl
  | x :: l, y :: m, c, d, h => by
    show crc (feed (c ^^^ d) (x ^^^ y)) _ = crc (feed c x) l ^^^ crc (feed d y) m
    rw [feed_xor]
    exact crc_xor l m _ _ (by simpa using h)
  | [], _ :: _, _, _, h => by simp at h
  | _ :: _, [], _, _, h => by simp at h

/-- Three lists turned together. -/
def three (a b c : List UInt8) : List UInt8 := List.zipWith (· ^^^ ·) (List.zipWith (· ^^^ ·) a b) c

theorem sum_three (a b c : List UInt8) (h1 : a.length = b.length) (h2 : a.length = c.length) :
    bits .xor .i64 (bits .xor .i64 (sumOf 0 a) (sumOf 0 b)) (sumOf 0 c) = sumOf 0 (three a b c) := by
  have hz : begun 0 ^^^ begun 0 ^^^ begun 0 = begun 0 := by rw [BitVec.xor_self, BitVec.zero_xor]
  have e : crc (begun 0) (three a b c) = crc (begun 0) a ^^^ crc (begun 0) b ^^^ crc (begun 0) c := by
    unfold three
    conv => lhs; rw [← hz]
    rw [crc_xor _ _ _ _ (by simp; omega), crc_xor _ _ _ _ h1]
  unfold sumOf
  rw [e, bits_xor_i64, bits_xor_i64]
  congr 2
  rw [show crc (begun 0) a ^^^ ones ^^^ (crc (begun 0) b ^^^ ones) ^^^ (crc (begun 0) c ^^^ ones) = crc (begun 0) a ^^^ crc (begun 0) b ^^^ crc (begun 0) c ^^^ ones ^^^ (ones ^^^ ones) by ac_rfl, BitVec.xor_self, BitVec.xor_zero]

theorem bits_xor_u8 (x y : UInt8) : bits .xor .u8 (x.toNat : Int) (y.toNat : Int) = ((x ^^^ y).toNat : Int) := by
  have hw : ∀ n : Int, 0 ≤ n → n < 2 ^ 8 → IntKind.u8.wrap n = n := by
    intro n h0 h1
    have : (2 : Int) ^ 8 = 256 := by decide
    simp [IntKind.wrap, IntKind.bits, IntKind.signed]
    omega
  rw [bits_xor_nat .u8 8 (by decide) hw _ _ x.toNat_lt y.toNat_lt, UInt8.toNat_xor]

end Go.Proofs.YthglbmnhlnpmkaaGreat
