/- The reference's U32, Get, Encode, Decode. Numbers and types by name. -/
import Derived.Test.YtnfehpienhlfpaaCjo
namespace Go.Proofs.Ytnfehpienhlfpaa
open Go.RowKit Go.Lib

theorem bs_lit (w : World) (base : Nat) (l : List UInt8) (n : Nat) (hn : n = l.length) (hb : base ≤ w.heap.size) (hm : n ≤ maxLen) : Bs (w.alloc (.cells (bv l).toArray 5)) base (.slice (some ⟨w.heap.size, 0, none⟩) n n) n l := by
  subst hn
  refine ⟨rfl, by rw [bv_length, Nat.mul_one], .inr ⟨w.heap.size, l.length, (bv l).toArray, rfl, hb, heap_alloc_new w _, Nat.le_refl _, hm, by simp [bv], ?_⟩⟩
  rw [Nat.mul_one, ← bv_length l]
  simp

theorem ref_u32 (n : Int) (w : World) :
    Calls Try.prog 15 #[.int .i64 n] w fun e w' => ∃ ao c, e = .returned (.slice ao 4 c) ∧ Bs w' w.heap.size (.slice ao 4 c) 4 (be4 n) ∧ Below w.heap.size w w' := by
  have HB := Lib.hid (bv_be4 n)
  go_enter Try.func15, Try.ntmps15
  go_wp2_with fail
  go_ret
  refine ⟨_, _, rfl, ?_, (Below.refl _ w).alloc (Nat.le_refl _) _⟩
  have := bs_lit w w.heap.size (be4 n) 4 rfl (Nat.le_refl _) (by unfold maxLen; decide)
  rw [HB.out] at this
  exact this

theorem or_at (s : Nat) (x y : Int) (h0 : 0 ≤ x) (h1 : x < 4611686018427387904) (hx : x % 2 ^ s = 0) (y0 : 0 ≤ y) (y1 : y < 2 ^ s) (y2 : y < 4611686018427387904) : bits .or .i64 x y = x + y := by
  have hp : (2 : Int) ^ 62 = 4611686018427387904 := by decide
  exact bits_join .i64 62 (by decide) (fun m _ _ => by rw [IntKind.wrap_i64]; omega) s x y h0 hx (by omega) y0 y1 (by omega)

theorem ref_get_in (v : Value) (m : Nat) (l : List UInt8) (k : Nat) (w : World) (hr : Reads w v (bv l)) (hm : m = l.length) (hl : Hid (m ≤ 1000000000)) (hk : k + 4 ≤ m) :
    Calls Try.prog 11 #[v, .int .i64 k] w fun e w' => e = .returned (.tuple #[.int .i64 (numOf ((l.drop k).take 4)), .bool true]) ∧ ∃ j, w' = w.drewN j := by
  obtain ⟨ao, cap, rfl, hcap, hn, hc⟩ := hr
  rw [bv_length, ← hm] at hcap ⊢
  have hL := hl.out
  obtain ⟨a, rfl⟩ : ∃ a, ao = some a := by
    cases ao with
    | some a => exact ⟨a, rfl⟩
    | none => have := (hn rfl).1; have : l = [] := by simpa [bv] using this
              subst this; simp at hm; omega
  have hcell : ∀ j (x : UInt8), l[j]? = some x → ∀ w', Grow w.drew w' → w'.cell? (a.add j) = some (.int .u8 (x.toNat : Int)) := fun j x hx w' hg => by
    have h := hc a rfl j _ (by simp [bv, hx] : (bv l)[j]? = some (.int .u8 (x.toNat : Int)))
    rw [World.cell?_of_block (hg.block _ (World.block_lt_of_cell? w _ h))]
    exact h
  have at_ : ∀ j, j < m → ∃ x, l[j]? = some x := fun j hj => ⟨l[j], List.getElem?_eq_getElem (by omega)⟩
  obtain ⟨x0, e0⟩ := at_ k (by omega)
  obtain ⟨x1, e1⟩ := at_ (k + 1) (by omega)
  obtain ⟨x2, e2⟩ := at_ (k + 2) (by omega)
  obtain ⟨x3, e3⟩ := at_ (k + 3) (by omega)
  have hnum : numOf ((l.drop k).take 4) = (x0.toNat : Int) * 16777216 + (x1.toNat : Int) * 65536 + (x2.toNat : Int) * 256 + (x3.toNat : Int) := by
    have : (l.drop k).take 4 = [x0, x1, x2, x3] := by
      rw [show (4 : Nat) = 0 + 1 + 1 + 1 + 1 from rfl, take_next (L := l.drop k) (s := x3) (by simpa using e3), take_next (L := l.drop k) (s := x2) (by simpa using e2), take_next (L := l.drop k) (s := x1) (by simpa using e1), take_next (L := l.drop k) (s := x0) (by simpa using e0)]
      rfl
    rw [this]
    simp only [numOf, List.foldl_cons, List.foldl_nil]
    omega
  have c0 := hcell _ _ e0
  have c1 := hcell _ _ e1
  have c2 := hcell _ _ e2
  have c3 := hcell _ _ e3
  have b0 := x0.toNat_lt
  have b1 := x1.toNat_lt
  have b2 := x2.toNat_lt
  have b3 := x3.toNat_lt
  rw [hnum]
  clear hcell at_ e0 e1 e2 e3 hnum hc hn hm
  generalize x0.toNat = y0 at *
  generalize x1.toNat = y1 at *
  generalize x2.toNat = y2 at *
  generalize x3.toNat = y3 at *
  obtain ⟨k1, hk1⟩ : ∃ k1, k1 = k + 1 := ⟨_, rfl⟩
  obtain ⟨k2, hk2⟩ : ∃ k2, k2 = k + 2 := ⟨_, rfl⟩
  obtain ⟨k3, hk3⟩ : ∃ k3, k3 = k + 3 := ⟨_, rfl⟩
  rw [← hk1] at c1
  rw [← hk2] at c2
  rw [← hk3] at c3
  have q1 : IntKind.i64.wrap ((k : Int) + 1) = (k1 : Int) := by rw [IntKind.wrap_i64]; omega
  have q2 : IntKind.i64.wrap ((k : Int) + 2) = (k2 : Int) := by rw [IntKind.wrap_i64]; omega
  have q3 : IntKind.i64.wrap ((k : Int) + 3) = (k3 : Int) := by rw [IntKind.wrap_i64]; omega
  have g0 : (k : Int) < (m : Int) := by omega
  have g1 : (k1 : Int) < (m : Int) := by omega
  have g2 : (k2 : Int) < (m : Int) := by omega
  have g3 : (k3 : Int) < (m : Int) := by omega
  have g0' : k < m := by omega
  have g1' : k1 < m := by omega
  have g2' : k2 < m := by omega
  have g3' : k3 < m := by omega
  have r0 : IntKind.i64.wrap (y0 : Int) = (y0 : Int) := by rw [IntKind.wrap_i64]; omega
  have r1 : IntKind.i64.wrap (y1 : Int) = (y1 : Int) := by rw [IntKind.wrap_i64]; omega
  have r2 : IntKind.i64.wrap (y2 : Int) = (y2 : Int) := by rw [IntKind.wrap_i64]; omega
  have r3 : IntKind.i64.wrap (y3 : Int) = (y3 : Int) := by rw [IntKind.wrap_i64]; omega
  have s0 : IntKind.i64.wrap ((y0 : Int) * 16777216) = (y0 : Int) * 16777216 := by rw [IntKind.wrap_i64]; omega
  have s1 : IntKind.i64.wrap ((y1 : Int) * 65536) = (y1 : Int) * 65536 := by rw [IntKind.wrap_i64]; omega
  have s2 : IntKind.i64.wrap ((y2 : Int) * 256) = (y2 : Int) * 256 := by rw [IntKind.wrap_i64]; omega
  have o1 : bits .or .i64 ((y0 : Int) * 16777216) ((y1 : Int) * 65536) = (y0 : Int) * 16777216 + (y1 : Int) * 65536 := or_at 24 _ _ (by omega) (by omega) (by simp) (by omega) (by simp; omega) (by omega)
  have o2 : bits .or .i64 ((y0 : Int) * 16777216 + (y1 : Int) * 65536) ((y2 : Int) * 256) = (y0 : Int) * 16777216 + (y1 : Int) * 65536 + (y2 : Int) * 256 := or_at 16 _ _ (by omega) (by omega) (by omega) (by omega) (by simp; omega) (by omega)
  have o3 : bits .or .i64 ((y0 : Int) * 16777216 + (y1 : Int) * 65536 + (y2 : Int) * 256) (y3 : Int) = (y0 : Int) * 16777216 + (y1 : Int) * 65536 + (y2 : Int) * 256 + (y3 : Int) := or_at 8 _ _ (by omega) (by omega) (by omega) (by omega) (by simp; omega) (by omega)
  have n1 : ¬ ((k : Int) < 0) := by omega
  have n2 : ¬ ((m : Int) - 4 < (k : Int)) := by omega
  have n3 : wrap64 ((m : Int) - 4) = (m : Int) - 4 := wrap64_id _ (by omega)
  clear hL hk1 hk2 hk3 b0 b1 b2 b3 hk hcap
  go_enter Try.func11, Try.ntmps11
  go_wp2_with fail
  refine wp_region_mv [(0, 31, true)] (by kernel_rfl) (by kernel_rfl) ?_
  simp only [mvAll, mvSeg, List.drop_zero, List.cons_append, List.nil_append, Nat.reduceAdd]
  iterate 31
    refine wpLin_still ?_ (fun w' hG K hK => ?_) (fun K hK => ?_)
    rotate_left
    · unfold mvVal
      go_simp
      try exact hK
    go_simp
    refine hK _ ?_
    clear hK K
  refine wpLin_nil ?_
  go_wp2
  go_ret2
  exact ⟨rfl, 1, rfl⟩

theorem ref_get_out (v : Value) (m : Nat) (l : List UInt8) (k : Int) (w : World) (hr : Reads w v (bv l)) (hm : m = l.length) (hl : Hid (m ≤ 1000000000)) (hk : ¬ (0 ≤ k ∧ k + 4 ≤ m)) :
    Calls Try.prog 11 #[v, .int .i64 k] w fun e w' => e = .returned (.tuple #[.int .i64 0, .bool false]) ∧ w' = w := by
  obtain ⟨ao, cap, rfl, _⟩ := hr
  rw [bv_length, ← hm]
  have n3 : wrap64 ((m : Int) - 4) = (m : Int) - 4 := wrap64_id _ (by have := hl.out; omega)
  by_cases n1 : k < 0
  · clear n3 hk
    go_enter Try.func11, Try.ntmps11
    go_wp2_with fail
    go_ret2
    exact ⟨rfl, rfl⟩
  · have n2 : (m : Int) - 4 < k := by omega
    clear hk hm
    go_enter Try.func11, Try.ntmps11
    go_wp2_with fail
    go_ret2
    exact ⟨rfl, rfl⟩

theorem ref_encode (v : Value) (n : Nat) (L : List ByteArray) (w : World) (hr : Texts w v n L) (hb : bulk L ≤ 10000) :
    Calls Try.prog 17 #[v] w fun e w' => ∃ ao c, e = .returned (.slice ao (enc L).length c) ∧ Bs w' w.heap.size (.slice ao (enc L).length c) (enc L).length (enc L) ∧ Below w.heap.size w w' := by
  obtain ⟨ao, c, rfl⟩ := hr.shape
  have HR := Lib.hid hr
  have hn := hr.1
  have hlen := encs_length L
  have hnb := bulk_length L
  have HL : Hid ((encs L).length ≤ 50000 ∧ n = L.length ∧ (enc L).length = 4 + (encs L).length ∧ n ≤ 10000) := Lib.hid ⟨by omega, hn, by simp [enc, be4_length], by omega⟩
  have hn1 : n ≤ 10000 := HL.out.2.2.2
  clear hr hlen hnb hb hn
  go_enter Try.func17, Try.ntmps17
  go_wp2_with fail
  refine (ref_u32 _ _).mono ?_
  rintro e w1 ⟨ao1, c1, rfl, hown1, hb1⟩
  have HB := Lib.hid (And.intro hown1 hb1)
  clear hown1 hb1
  go_wp2_with fail
  go_loopw [3, 4] (fun v i wr => ∃ j : Nat, j ≤ n ∧ i = .int .i64 j ∧ Hid (∃ ao m c, v = .slice ao m c ∧ Bs wr w.heap.size (.slice ao m c) m (be4 n ++ encs (L.take j)) ∧ Below w.heap.size w wr))
    (fun _ i _ => n - (intOf i).toNat)
  case atStart => exact ⟨0, Nat.zero_le _, rfl, Lib.hid ⟨_, _, _, rfl, by simpa [encs] using HB.out.1, HB.out.2⟩⟩
  case round =>
    obtain ⟨j, hj, rfl, hrel⟩ := hrel
    obtain ⟨ao2, m, c2, rfl, hown, hbel⟩ := hrel.out
    clear HB hrel
    have hm : m = 4 + (encs (L.take j)).length := by rw [hown.1]; simp [be4_length]
    have hle := encs_take_le L j
    by_cases h1 : j < n
    · have h3 : (j : Int) < (n : Int) := by omega
      obtain ⟨a, s, rfl, hs, hc0, hsz⟩ := HR.out.at h1
      have HCELL : Hid (∀ w', Below w.heap.size w w' → w'.cell? (a.add j) = some (.string s)) := Lib.hid fun w' hg => by
        rw [World.cell?_of_block (hg.block _ (World.block_lt_of_cell? w _ hc0))]
        exact hc0
      have hc := HCELL.out wr hbel
      clear hc0
      have hT := encs_take hs
      have hle3 := encs_take_le L (j + 1)
      have hsz2 : (encs (L.take (j + 1))).length = (encs (L.take j)).length + 4 + s.size := by rw [hT]; simp [be4_length]; omega
      have hl5 := HL.out.1
      have HT := Lib.hid hT
      have F1 : Hid (m + 4 ≤ maxLen) := Lib.hid (by unfold maxLen; omega)
      have F2 : Hid ((m + 4) * 1 ≤ 140737488355328) := Lib.hid (by omega)
      have HM : Hid (m + 4 + s.size ≤ maxLen) := Lib.hid (by unfold maxLen; omega)
      have HM2 : Hid (m + 4 + s.size ≤ 140737488355328) := Lib.hid (by omega)
      have HO := Lib.hid (And.intro hown hbel)
      clear hs hT hsz hown hbel hle hle3 hsz2 hm hl5
      go_wp2_with (first | (go_at_call 15; refine (ref_u32 _ _).mono ?_; rintro e w2 ⟨ao3, c3, rfl, hown3, hb3⟩) | (at_builtin; refine wpList_append_bytes rfl (.tmp 14) (.tmp 20) rfl w.heap.size (.slice ao2 m c2) m _ rfl (HO.out.1.below hb3 (Nat.le_refl _)) (.slice ao3 4 c3) 4 _ rfl rfl hown3.reads (m + 4) rfl F1 F2 (Nat.le_trans HO.out.2.size hb3.size) ?_; intro ao4 c4 w4 hown4 hb4; have hc4 := HCELL.out w4 ((HO.out.2.trans (hb3.mono HO.out.2.size)).trans hb4)) | (at_builtin; refine wpList_append_text rfl (.tmp 22) (.tmp 26) rfl w.heap.size (.slice ao4 (m + 4) c4) (m + 4) _ rfl hown4 s rfl (m + 4 + s.size) rfl HM HM2 ((HO.out.2.trans (hb3.mono HO.out.2.size)).trans hb4).size ?_; intro ao5 c5 w5 hown5 hb5))
      refine ⟨⟨j + 1, by omega, by simp, Lib.hid ⟨ao5, _, c5, rfl, ?_, ((HO.out.2.trans (hb3.mono HO.out.2.size)).trans hb4).trans hb5⟩⟩, by simp [intOf]; omega⟩
      rw [HT.out]
      simpa [List.append_assoc] using hown5
    · have h3 : ¬ (j : Int) < (n : Int) := by omega
      obtain rfl : j = n := by omega
      have hkL : L.take j = L := List.take_of_length_le (by have := HL.out.2.1; omega)
      rw [hkL] at hown hm hle
      go_wp2_with fail
      go_ret
      have hE := HL.out.2.2.1
      have hjl : j = L.length := HL.out.2.1
      rw [← hE] at hm
      subst hm
      refine ⟨ao2, c2, ?_, ?_, hbel⟩
      · simp [hE]
      · show Bs wr _ _ _ (be4 L.length ++ encs L)
        rw [← hjl]
        exact hown

end Go.Proofs.Ytnfehpienhlfpaa
