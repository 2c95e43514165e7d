/- The reference's U32 and Get. Numbers and types by name. -/
import Derived.Test.YtabmjjicplomlaaBe4
import Derived.Test.YtabmjjicplomlaaMov
import Derived.Laws.BitsLemmas
namespace Go.Proofs.Ytabmjjicplomlaa
open Go.RowKit Go.Lib

theorem next_of {α : Type} {L : List α} {k : Nat} {s : α} (h : L[k]? = some s) : L.take (k + 1) = L.take k ++ [s] := by rw [List.take_add_one, h]; rfl

theorem bs_lit (w : World) (base : Nat) (l : List UInt8) (n : Nat) (hn : n = l.length) (hb : base ≤ w.heap.size) (hm : n ≤ maxLen) : Bs (w.alloc (.cells (bv l).toArray 5)) base (.slice (some ⟨w.heap.size, 0, none⟩) n n) n l := by
  subst hn
  refine ⟨rfl, by rw [bv_length, Nat.mul_one], .inr ⟨w.heap.size, l.length, (bv l).toArray, rfl, hb, heap_alloc_new w _, Nat.le_refl _, hm, by simp [bv], ?_⟩⟩
  rw [Nat.mul_one, ← bv_length l]
  simp

theorem ref_u32 (n : Int) (w : World) :
    Calls Try.prog 43 #[.int .i64 n] w fun e w' => ∃ ao c, e = .returned (.slice ao 4 c) ∧ Bs w' w.heap.size (.slice ao 4 c) 4 (be4 n) ∧ Below w.heap.size w w' := by
  have HB := Lib.hid (bv_be4 n)
  go_enter Try.func43, Try.ntmps43
  go_wp2_with fail
  go_ret
  refine ⟨_, _, rfl, ?_, (Below.refl _ w).alloc (Nat.le_refl _) _⟩
  have := bs_lit w w.heap.size (be4 n) 4 rfl (Nat.le_refl _) (by unfold maxLen; decide)
  rw [HB.out] at this
  exact this

theorem or_at (s : Nat) (x y : Int) (h0 : 0 ≤ x) (h1 : x < 4611686018427387904) (hx : x % 2 ^ s = 0) (y0 : 0 ≤ y) (y1 : y < 2 ^ s) (y2 : y < 4611686018427387904) : bits .or .i64 x y = x + y := by
  have hp : (2 : Int) ^ 62 = 4611686018427387904 := by decide
  exact bits_join .i64 62 (by decide) (fun m _ _ => by rw [IntKind.wrap_i64]; omega) s x y h0 hx (by omega) y0 y1 (by omega)

theorem ref_get_inL (v : Value) (m : Nat) (l : List UInt8) (k : Nat) (w : World) (hr : Reads w v (bv l)) (hm : m = l.length) (hl : Hid (m ≤ maxLen)) (hk : k + 4 ≤ m) :
    Calls Try.prog 49 #[v, .int .i64 k] w fun e w' => e = .returned (.tuple #[.int .i64 (numOf ((l.drop k).take 4)), .bool true]) ∧ ∃ j, w' = w.drewN j := by
  obtain ⟨ao, cap, rfl, hcap, hn, hc⟩ := hr
  rw [bv_length, ← hm] at hcap ⊢
  have hL : m ≤ 9223372036854775807 := by have := hl.out; unfold maxLen at this; omega
  obtain ⟨a, rfl⟩ : ∃ a, ao = some a := by
    cases ao with
    | some a => exact ⟨a, rfl⟩
    | none => have := (hn rfl).1; have : l = [] := by simpa [bv] using this
              subst this; simp at hm; omega
  have hcell : ∀ j (x : UInt8), l[j]? = some x → ∀ w', Grow w.drew w' → w'.cell? (a.add j) = some (.int .u8 (x.toNat : Int)) := fun j x hx w' hg => by
    have h := hc a rfl j _ (by simp [bv, hx] : (bv l)[j]? = some (.int .u8 (x.toNat : Int)))
    rw [World.cell?_of_block (hg.block _ (World.block_lt_of_cell? w _ h))]
    exact h
  have at_ : ∀ j, j < m → ∃ x, l[j]? = some x := fun j hj => ⟨l[j], List.getElem?_eq_getElem (by omega)⟩
  obtain ⟨x0, e0⟩ := at_ k (by omega)
  obtain ⟨x1, e1⟩ := at_ (k + 1) (by omega)
  obtain ⟨x2, e2⟩ := at_ (k + 2) (by omega)
  obtain ⟨x3, e3⟩ := at_ (k + 3) (by omega)
  have hnum : numOf ((l.drop k).take 4) = (x0.toNat : Int) * 16777216 + (x1.toNat : Int) * 65536 + (x2.toNat : Int) * 256 + (x3.toNat : Int) := by
    have : (l.drop k).take 4 = [x0, x1, x2, x3] := by
      rw [show (4 : Nat) = 0 + 1 + 1 + 1 + 1 from rfl, next_of (L := l.drop k) (s := x3) (by simpa using e3), next_of (L := l.drop k) (s := x2) (by simpa using e2), next_of (L := l.drop k) (s := x1) (by simpa using e1), next_of (L := l.drop k) (s := x0) (by simpa using e0)]
      rfl
    rw [this]
    simp only [numOf, List.foldl_cons, List.foldl_nil]
    omega
  have c0 := hcell _ _ e0
  have c1 := hcell _ _ e1
  have c2 := hcell _ _ e2
  have c3 := hcell _ _ e3
  have b0 := x0.toNat_lt
  have b1 := x1.toNat_lt
  have b2 := x2.toNat_lt
  have b3 := x3.toNat_lt
  rw [hnum]
  clear hcell at_ e0 e1 e2 e3 hnum hc hn hm
  generalize x0.toNat = y0 at *
  generalize x1.toNat = y1 at *
  generalize x2.toNat = y2 at *
  generalize x3.toNat = y3 at *
  obtain ⟨k1, hk1⟩ : ∃ k1, k1 = k + 1 := ⟨_, rfl⟩
  obtain ⟨k2, hk2⟩ : ∃ k2, k2 = k + 2 := ⟨_, rfl⟩
  obtain ⟨k3, hk3⟩ : ∃ k3, k3 = k + 3 := ⟨_, rfl⟩
  rw [← hk1] at c1
  rw [← hk2] at c2
  rw [← hk3] at c3
  have q1 : IntKind.i64.wrap ((k : Int) + 1) = (k1 : Int) := by rw [IntKind.wrap_i64]; omega
  have q2 : IntKind.i64.wrap ((k : Int) + 2) = (k2 : Int) := by rw [IntKind.wrap_i64]; omega
  have q3 : IntKind.i64.wrap ((k : Int) + 3) = (k3 : Int) := by rw [IntKind.wrap_i64]; omega
  have g0 : (k : Int) < (m : Int) := by omega
  have g1 : (k1 : Int) < (m : Int) := by omega
  have g2 : (k2 : Int) < (m : Int) := by omega
  have g3 : (k3 : Int) < (m : Int) := by omega
  have g0' : k < m := by omega
  have g1' : k1 < m := by omega
  have g2' : k2 < m := by omega
  have g3' : k3 < m := by omega
  have r0 : IntKind.i64.wrap (y0 : Int) = (y0 : Int) := by rw [IntKind.wrap_i64]; omega
  have r1 : IntKind.i64.wrap (y1 : Int) = (y1 : Int) := by rw [IntKind.wrap_i64]; omega
  have r2 : IntKind.i64.wrap (y2 : Int) = (y2 : Int) := by rw [IntKind.wrap_i64]; omega
  have r3 : IntKind.i64.wrap (y3 : Int) = (y3 : Int) := by rw [IntKind.wrap_i64]; omega
  have s0 : IntKind.i64.wrap ((y0 : Int) * 16777216) = (y0 : Int) * 16777216 := by rw [IntKind.wrap_i64]; omega
  have s1 : IntKind.i64.wrap ((y1 : Int) * 65536) = (y1 : Int) * 65536 := by rw [IntKind.wrap_i64]; omega
  have s2 : IntKind.i64.wrap ((y2 : Int) * 256) = (y2 : Int) * 256 := by rw [IntKind.wrap_i64]; omega
  have o1 : bits .or .i64 ((y0 : Int) * 16777216) ((y1 : Int) * 65536) = (y0 : Int) * 16777216 + (y1 : Int) * 65536 := or_at 24 _ _ (by omega) (by omega) (by simp) (by omega) (by simp; omega) (by omega)
  have o2 : bits .or .i64 ((y0 : Int) * 16777216 + (y1 : Int) * 65536) ((y2 : Int) * 256) = (y0 : Int) * 16777216 + (y1 : Int) * 65536 + (y2 : Int) * 256 := or_at 16 _ _ (by omega) (by omega) (by omega) (by omega) (by simp; omega) (by omega)
  have o3 : bits .or .i64 ((y0 : Int) * 16777216 + (y1 : Int) * 65536 + (y2 : Int) * 256) (y3 : Int) = (y0 : Int) * 16777216 + (y1 : Int) * 65536 + (y2 : Int) * 256 + (y3 : Int) := or_at 8 _ _ (by omega) (by omega) (by omega) (by omega) (by simp; omega) (by omega)
  have n1 : ¬ ((k : Int) < 0) := by omega
  have n2 : ¬ ((m : Int) - 4 < (k : Int)) := by omega
  have n3 : wrap64 ((m : Int) - 4) = (m : Int) - 4 := wrap64_id _ (by omega)
  clear hL hk1 hk2 hk3 b0 b1 b2 b3 hk hcap
  go_enter Try.func49, Try.ntmps49
  go_wp2_with fail
  refine wp_region_mv [(0, 31, true)] (by kernel_rfl) (by kernel_rfl) ?_
  simp only [mvAll, mvSeg, List.drop_zero, List.cons_append, List.nil_append, Nat.reduceAdd]
  iterate 31
    refine wpLin_still ?_ (fun w' hG K hK => ?_) (fun K hK => ?_)
    rotate_left
    · unfold mvVal
      go_simp
      try exact hK
    go_simp
    refine hK _ ?_
    clear hK K
  refine wpLin_nil ?_
  go_wp2
  go_ret2
  exact ⟨rfl, 1, rfl⟩

theorem ref_get_outL (v : Value) (m : Nat) (l : List UInt8) (k : Int) (w : World) (hr : Reads w v (bv l)) (hm : m = l.length) (hl : Hid (m ≤ maxLen)) (hk : ¬ (0 ≤ k ∧ k + 4 ≤ m)) :
    Calls Try.prog 49 #[v, .int .i64 k] w fun e w' => e = .returned (.tuple #[.int .i64 0, .bool false]) ∧ w' = w := by
  obtain ⟨ao, cap, rfl, _⟩ := hr
  rw [bv_length, ← hm]
  have n3 : wrap64 ((m : Int) - 4) = (m : Int) - 4 := wrap64_id _ (by have := hl.out; unfold maxLen at this; omega)
  by_cases n1 : k < 0
  · clear n3 hk
    go_enter Try.func49, Try.ntmps49
    go_wp2_with fail
    go_ret2
    exact ⟨rfl, rfl⟩
  · have n2 : (m : Int) - 4 < k := by omega
    clear hk hm
    go_enter Try.func49, Try.ntmps49
    go_wp2_with fail
    go_ret2
    exact ⟨rfl, rfl⟩

theorem ref_get_in (v : Value) (m : Nat) (l : List UInt8) (k : Nat) (w : World) (hr : Reads w v (bv l)) (hm : m = l.length) (hl : Hid (m ≤ 1000000000)) (hk : k + 4 ≤ m) :
    Calls Try.prog 49 #[v, .int .i64 k] w fun e w' => e = .returned (.tuple #[.int .i64 (numOf ((l.drop k).take 4)), .bool true]) ∧ ∃ j, w' = w.drewN j := ref_get_inL v m l k w hr hm (hid_small hl) hk
theorem ref_get_out (v : Value) (m : Nat) (l : List UInt8) (k : Int) (w : World) (hr : Reads w v (bv l)) (hm : m = l.length) (hl : Hid (m ≤ 1000000000)) (hk : ¬ (0 ≤ k ∧ k + 4 ≤ m)) :
    Calls Try.prog 49 #[v, .int .i64 k] w fun e w' => e = .returned (.tuple #[.int .i64 0, .bool false]) ∧ w' = w := ref_get_outL v m l k w hr hm (hid_small hl) hk

end Go.Proofs.Ytabmjjicplomlaa
