/- An own list of lists of bytes, and append to it. Numbers and types by name. -/
import Derived.Test.YthacjeeafnblmaaGreatDoorBit
import Derived.Test.YthacjeeafnblmaaGreatDoorBe4
import Derived.Test.YthacjeeafnblmaaGreatDoorBel
import Derived.Laws.BitsLemmas
import Derived.Test.YthacjeeafnblmaaGreatDoorOpl
/- The reference's More and Sum. Numbers and types by name. -/
namespace Go.Proofs.YthacjeeafnblmaaGreatDoor
open Go.RowKit Go.Lib

theorem crc_take {l : List UInt8} {k : Nat} {x : UInt8} (c : BitVec 32) (h : l[k]? = some x) : crc c (l.take (k + 1)) = feed (crc c (l.take k)) x := by
  have : l.take (k + 1) = l.take k ++ [x] := by rw [List.take_add_one, h]; rfl
  rw [this, crc_append]
  rfl

theorem ref_more (s : Int) (v : Value) (m : Nat) (l : List UInt8) (w : World) (hr : Reads w v (bv l)) (hm : m = l.length) (hl : Hid (m ≤ 1000000000)) :
    Calls Tryz.prog 80 #[.int .i64 s, v] w fun e w' => e = .returned (.int .i64 (sumOf s l)) ∧ w' = w := by
  obtain ⟨ao, c, rfl⟩ : ∃ ao c, v = .slice ao m c := by obtain ⟨ao, c, rfl, _⟩ := hr; exact ⟨ao, c, by rw [bv_length, hm]⟩
  have hb := begun_xor s
  have hl' := hl.out
  have HR := Lib.hid (And.intro hr hm)
  clear hr hm
  go_enter Tryz.func80, Tryz.ntmps80
  go_wp2_with fail
  clear hb
  go_loopw [5, 6] (fun cv i wr => ∃ k : Nat, k ≤ m ∧ i = .int .i64 k ∧ cv = .int .u32 ((crc (begun s) (l.take k)).toNat : Int) ∧ w = wr)
    (fun _ i _ => m - (intOf i).toNat)
  case atStart => exact ⟨0, Nat.zero_le _, rfl, rfl, rfl⟩
  case round =>
    obtain ⟨k, hk, rfl, rfl, rfl⟩ := hrel
    by_cases hlt : k < m
    · have h3 : (k : Int) < (m : Int) := by omega
      obtain ⟨x, hx⟩ : ∃ x, l[k]? = some x := ⟨l[k]'(by have := HR.out.2; omega), List.getElem?_eq_getElem (by have := HR.out.2; omega)⟩
      obtain ⟨a, rfl, hc⟩ : ∃ a, ao = some a ∧ w.cell? (a.add k) = some (.int .u8 (x.toNat : Int)) := by
        obtain ⟨ao', c', e, _, hn, h2⟩ := HR.out.1
        simp only [Value.slice.injEq] at e
        obtain ⟨rfl, _, _⟩ := e
        cases ao with
        | none => have := (hn rfl).1; have : l = [] := by simpa [bv] using this
                  subst this; simp at hx
        | some a => exact ⟨a, rfl, h2 a rfl k _ (by simp [bv, hx])⟩
      have hxor := byte_xor (crc (begun s) (l.take k)) x
      have HN := Lib.hid (crc_take (begun s) hx)
      have hx256 := x.toNat_lt
      clear hx
      generalize crc (begun s) (l.take k) = c0 at *
      generalize hd : c0 ^^^ BitVec.ofNat 32 x.toNat = d at *
      have HD := Lib.hid hd
      clear hd
      go_wp2_with fail
      clear hxor hc
      go_loopw [5, 7] (fun cv i wr => ∃ j : Nat, j ≤ 8 ∧ i = .int .i64 j ∧ cv = .int .u32 ((shs j d).toNat : Int) ∧ w = wr)
        (fun _ i _ => 8 - (intOf i).toNat)
      case atStart => exact ⟨0, by omega, rfl, rfl, rfl⟩
      case round =>
        obtain ⟨j, hj, rfl, rfl, rfl⟩ := hrel
        by_cases hj8 : j < 8
        · have h4 : (j : Int) < 8 := by omega
          have hsucc := shs_succ j d
          generalize shs j d = e at *
          cases hlow : e.getLsbD 0 with
          | true =>
            have f1 := low_one hlow
            have f2 := step_one hlow
            rw [← hsucc] at f2
            have HF := Lib.hid hsucc
            clear hsucc hlow
            go_wp2_with fail
            exact ⟨⟨j + 1, by omega, by simp, rfl, trivial⟩, by simp [intOf]; omega⟩
          | false =>
            have f1 := low_none hlow
            have f2 := step_none hlow
            rw [← hsucc] at f2
            clear hsucc hlow
            go_wp2_with fail
            exact ⟨⟨j + 1, by omega, by simp, rfl, trivial⟩, by simp [intOf]; omega⟩
        · obtain rfl : j = 8 := by omega
          go_wp2_with fail
          refine ⟨⟨k + 1, by omega, by simp, ?_, trivial⟩, by simp [intOf]; omega⟩
          rw [HN.out]
          unfold feed
          rw [HD.out]
    · obtain rfl : k = m := by omega
      have h3 : ¬ (k : Int) < (k : Int) := by omega
      have hk2 : l.take k = l := List.take_of_length_le (by have := HR.out.2; omega)
      rw [hk2]
      have he := ended_xor (crc (begun s) l)
      have hbd := sumOf_bound s l
      rw [show ((crc (begun s) l ^^^ ones).toNat : Int) = sumOf s l from rfl] at he
      have hwz : wrap64 (sumOf s l) = sumOf s l := by unfold wrap64; omega
      generalize hz : sumOf s l = z at *
      have HZ := Lib.hid hz
      clear hbd hz
      go_wp2_with fail
      go_ret
      rw [HZ.out]
      exact ⟨rfl, rfl⟩

theorem ref_sum (v : Value) (m : Nat) (l : List UInt8) (w : World) (hr : Reads w v (bv l)) (hm : m = l.length) (hl : Hid (m ≤ 1000000000)) :
    Calls Tryz.prog 55 #[v] w fun e w' => e = .returned (.int .i64 (sumOf 0 l)) ∧ w' = w := by
  have G := ref_more 0 v m l w hr hm hl
  go_enter Tryz.func55, Tryz.ntmps55
  go_wp2_with (go_at_call 80; refine G.mono ?_; rintro e w' ⟨rfl, rfl⟩)
  go_ret
  first | exact rfl | exact ⟨rfl, rfl⟩

end Go.Proofs.YthacjeeafnblmaaGreatDoor

/- The reference's U32 and Get. Numbers and types by name. -/
namespace Go.Proofs.YthacjeeafnblmaaGreatDoor
open Go.RowKit Go.Lib

theorem next_of {α : Type} {L : List α} {k : Nat} {s : α} (h : L[k]? = some s) : L.take (k + 1) = L.take k ++ [s] := by rw [List.take_add_one, h]; rfl

theorem bs_lit (w : World) (base : Nat) (l : List UInt8) (n : Nat) (hn : n = l.length) (hb : base ≤ w.heap.size) (hm : n ≤ maxLen) : Bs (w.alloc (.cells (bv l).toArray 5)) base (.slice (some ⟨w.heap.size, 0, none⟩) n n) n l := by
  subst hn
  refine ⟨rfl, by rw [bv_length, Nat.mul_one], .inr ⟨w.heap.size, l.length, (bv l).toArray, rfl, hb, heap_alloc_new w _, Nat.le_refl _, hm, by simp [bv], ?_⟩⟩
  rw [Nat.mul_one, ← bv_length l]
  simp

theorem ref_u32 (n : Int) (w : World) :
    Calls Tryz.prog 79 #[.int .i64 n] w fun e w' => ∃ ao c, e = .returned (.slice ao 4 c) ∧ Bs w' w.heap.size (.slice ao 4 c) 4 (be4 n) ∧ Below w.heap.size w w' := by
  have HB := Lib.hid (bv_be4 n)
  go_enter Tryz.func79, Tryz.ntmps79
  go_wp2_with fail
  go_ret
  refine ⟨_, _, rfl, ?_, (Below.refl _ w).alloc (Nat.le_refl _) _⟩
  have := bs_lit w w.heap.size (be4 n) 4 rfl (Nat.le_refl _) (by unfold maxLen; decide)
  rw [HB.out] at this
  exact this

theorem or_at (s : Nat) (x y : Int) (h0 : 0 ≤ x) (h1 : x < 4611686018427387904) (hx : x % 2 ^ s = 0) (y0 : 0 ≤ y) (y1 : y < 2 ^ s) (y2 : y < 4611686018427387904) : bits .or .i64 x y = x + y := by
  have hp : (2 : Int) ^ 62 = 4611686018427387904 := by decide
  exact bits_join .i64 62 (by decide) (fun m _ _ => by rw [IntKind.wrap_i64]; omega) s x y h0 hx (by omega) y0 y1 (by omega)

theorem ref_get_inL (v : Value) (m : Nat) (l : List UInt8) (k : Nat) (w : World) (hr : Reads w v (bv l)) (hm : m = l.length) (hl : Hid (m ≤ maxLen)) (hk : k + 4 ≤ m) :
    Calls Tryz.prog 54 #[v, .int .i64 k] w fun e w' => e = .returned (.tuple #[.int .i64 (numOf ((l.drop k).take 4)), .bool true]) ∧ ∃ j, w' = w.drewN j := by
  obtain ⟨ao, cap, rfl, hcap, hn, hc⟩ := hr
  rw [bv_length, ← hm] at hcap ⊢
  have hL : m ≤ 9223372036854775807 := by have := hl.out; unfold maxLen at this; omega
  obtain ⟨a, rfl⟩ : ∃ a, ao = some a := by
    cases ao with
    | some a => exact ⟨a, rfl⟩
    | none => have := (hn rfl).1; have : l = [] := by simpa [bv] using this
              subst this; simp at hm; omega
  have hcell : ∀ j (x : UInt8), l[j]? = some x → ∀ w', Grow w.drew w' → w'.cell? (a.add j) = some (.int .u8 (x.toNat : Int)) := fun j x hx w' hg => by
    have h := hc a rfl j _ (by simp [bv, hx] : (bv l)[j]? = some (.int .u8 (x.toNat : Int)))
    rw [World.cell?_of_block (hg.block _ (World.block_lt_of_cell? w _ h))]
    exact h
  have at_ : ∀ j, j < m → ∃ x, l[j]? = some x := fun j hj => ⟨l[j], List.getElem?_eq_getElem (by omega)⟩
  obtain ⟨x0, e0⟩ := at_ k (by omega)
  obtain ⟨x1, e1⟩ := at_ (k + 1) (by omega)
  obtain ⟨x2, e2⟩ := at_ (k + 2) (by omega)
  obtain ⟨x3, e3⟩ := at_ (k + 3) (by omega)
  have hnum : numOf ((l.drop k).take 4) = (x0.toNat : Int) * 16777216 + (x1.toNat : Int) * 65536 + (x2.toNat : Int) * 256 + (x3.toNat : Int) := by
    have : (l.drop k).take 4 = [x0, x1, x2, x3] := by
      rw [show (4 : Nat) = 0 + 1 + 1 + 1 + 1 from rfl, next_of (L := l.drop k) (s := x3) (by simpa using e3), next_of (L := l.drop k) (s := x2) (by simpa using e2), next_of (L := l.drop k) (s := x1) (by simpa using e1), next_of (L := l.drop k) (s := x0) (by simpa using e0)]
      rfl
    rw [this]
    simp only [numOf, List.foldl_cons, List.foldl_nil]
    omega
  have c0 := hcell _ _ e0
  have c1 := hcell _ _ e1
  have c2 := hcell _ _ e2
  have c3 := hcell _ _ e3
  have b0 := x0.toNat_lt
  have b1 := x1.toNat_lt
  have b2 := x2.toNat_lt
  have b3 := x3.toNat_lt
  rw [hnum]
  clear hcell at_ e0 e1 e2 e3 hnum hc hn hm
  generalize x0.toNat = y0 at *
  generalize x1.toNat = y1 at *
  generalize x2.toNat = y2 at *
  generalize x3.toNat = y3 at *
  obtain ⟨k1, hk1⟩ : ∃ k1, k1 = k + 1 := ⟨_, rfl⟩
  obtain ⟨k2, hk2⟩ : ∃ k2, k2 = k + 2 := ⟨_, rfl⟩
  obtain ⟨k3, hk3⟩ : ∃ k3, k3 = k + 3 := ⟨_, rfl⟩
  rw [← hk1] at c1
  rw [← hk2] at c2
  rw [← hk3] at c3
  have q1 : IntKind.i64.wrap ((k : Int) + 1) = (k1 : Int) := by rw [IntKind.wrap_i64]; omega
  have q2 : IntKind.i64.wrap ((k : Int) + 2) = (k2 : Int) := by rw [IntKind.wrap_i64]; omega
  have q3 : IntKind.i64.wrap ((k : Int) + 3) = (k3 : Int) := by rw [IntKind.wrap_i64]; omega
  have g0 : (k : Int) < (m : Int) := by omega
  have g1 : (k1 : Int) < (m : Int) := by omega
  have g2 : (k2 : Int) < (m : Int) := by omega
  have g3 : (k3 : Int) < (m : Int) := by omega
  have g0' : k < m := by omega
  have g1' : k1 < m := by omega
  have g2' : k2 < m := by omega
  have g3' : k3 < m := by omega
  have r0 : IntKind.i64.wrap (y0 : Int) = (y0 : Int) := by rw [IntKind.wrap_i64]; omega
  have r1 : IntKind.i64.wrap (y1 : Int) = (y1 : Int) := by rw [IntKind.wrap_i64]; omega
  have r2 : IntKind.i64.wrap (y2 : Int) = (y2 : Int) := by rw [IntKind.wrap_i64]; omega
  have r3 : IntKind.i64.wrap (y3 : Int) = (y3 : Int) := by rw [IntKind.wrap_i64]; omega
  have s0 : IntKind.i64.wrap ((y0 : Int) * 16777216) = (y0 : Int) * 16777216 := by rw [IntKind.wrap_i64]; omega
  have s1 : IntKind.i64.wrap ((y1 : Int) * 65536) = (y1 : Int) * 65536 := by rw [IntKind.wrap_i64]; omega
  have s2 : IntKind.i64.wrap ((y2 : Int) * 256) = (y2 : Int) * 256 := by rw [IntKind.wrap_i64]; omega
  have o1 : bits .or .i64 ((y0 : Int) * 16777216) ((y1 : Int) * 65536) = (y0 : Int) * 16777216 + (y1 : Int) * 65536 := or_at 24 _ _ (by omega) (by omega) (by simp) (by omega) (by simp; omega) (by omega)
  have o2 : bits .or .i64 ((y0 : Int) * 16777216 + (y1 : Int) * 65536) ((y2 : Int) * 256) = (y0 : Int) * 16777216 + (y1 : Int) * 65536 + (y2 : Int) * 256 := or_at 16 _ _ (by omega) (by omega) (by omega) (by omega) (by simp; omega) (by omega)
  have o3 : bits .or .i64 ((y0 : Int) * 16777216 + (y1 : Int) * 65536 + (y2 : Int) * 256) (y3 : Int) = (y0 : Int) * 16777216 + (y1 : Int) * 65536 + (y2 : Int) * 256 + (y3 : Int) := or_at 8 _ _ (by omega) (by omega) (by omega) (by omega) (by simp; omega) (by omega)
  have n1 : ¬ ((k : Int) < 0) := by omega
  have n2 : ¬ ((m : Int) - 4 < (k : Int)) := by omega
  have n3 : wrap64 ((m : Int) - 4) = (m : Int) - 4 := wrap64_id _ (by omega)
  clear hL hk1 hk2 hk3 b0 b1 b2 b3 hk hcap
  go_enter Tryz.func54, Tryz.ntmps54
  go_wp2_with fail
  refine wp_region_mv [(0, 31, true)] (by kernel_rfl) (by kernel_rfl) ?_
  simp only [mvAll, mvSeg, List.drop_zero, List.cons_append, List.nil_append, Nat.reduceAdd]
  iterate 31
    refine wpLin_still ?_ (fun w' hG K hK => ?_) (fun K hK => ?_)
    rotate_left
    · unfold mvVal
      go_simp
      try exact hK
    go_simp
    refine hK _ ?_
    clear hK K
  refine wpLin_nil ?_
  go_wp2
  go_ret2
  exact ⟨rfl, 1, rfl⟩

theorem ref_get_outL (v : Value) (m : Nat) (l : List UInt8) (k : Int) (w : World) (hr : Reads w v (bv l)) (hm : m = l.length) (hl : Hid (m ≤ maxLen)) (hk : ¬ (0 ≤ k ∧ k + 4 ≤ m)) :
    Calls Tryz.prog 54 #[v, .int .i64 k] w fun e w' => e = .returned (.tuple #[.int .i64 0, .bool false]) ∧ w' = w := by
  obtain ⟨ao, cap, rfl, _⟩ := hr
  rw [bv_length, ← hm]
  have n3 : wrap64 ((m : Int) - 4) = (m : Int) - 4 := wrap64_id _ (by have := hl.out; unfold maxLen at this; omega)
  by_cases n1 : k < 0
  · clear n3 hk
    go_enter Tryz.func54, Tryz.ntmps54
    go_wp2_with fail
    go_ret2
    exact ⟨rfl, rfl⟩
  · have n2 : (m : Int) - 4 < k := by omega
    clear hk hm
    go_enter Tryz.func54, Tryz.ntmps54
    go_wp2_with fail
    go_ret2
    exact ⟨rfl, rfl⟩

theorem ref_get_in (v : Value) (m : Nat) (l : List UInt8) (k : Nat) (w : World) (hr : Reads w v (bv l)) (hm : m = l.length) (hl : Hid (m ≤ 1000000000)) (hk : k + 4 ≤ m) :
    Calls Tryz.prog 54 #[v, .int .i64 k] w fun e w' => e = .returned (.tuple #[.int .i64 (numOf ((l.drop k).take 4)), .bool true]) ∧ ∃ j, w' = w.drewN j := ref_get_inL v m l k w hr hm (hid_small hl) hk
theorem ref_get_out (v : Value) (m : Nat) (l : List UInt8) (k : Int) (w : World) (hr : Reads w v (bv l)) (hm : m = l.length) (hl : Hid (m ≤ 1000000000)) (hk : ¬ (0 ≤ k ∧ k + 4 ≤ m)) :
    Calls Tryz.prog 54 #[v, .int .i64 k] w fun e w' => e = .returned (.tuple #[.int .i64 0, .bool false]) ∧ w' = w := ref_get_outL v m l k w hr hm (hid_small hl) hk

end Go.Proofs.YthacjeeafnblmaaGreatDoor

/- The reference's Frame. Numbers and types by name. -/
namespace Go.Proofs.YthacjeeafnblmaaGreatDoor
open Go.RowKit Go.Lib

theorem ref_frame (v : Value) (m : Nat) (p : List UInt8) (w : World) (hr : Reads w v (bv p)) (hm : m = p.length) (hl : m ≤ 1048576) :
    Calls Tryz.prog 53 #[v] w fun e w' => ∃ ao c, e = .returned (.tuple #[.slice ao (m + 8) c, .int .i64 0]) ∧ Bs w' w.heap.size (.slice ao (m + 8) c) (m + 8) (frm p) ∧ Below w.heap.size w w' := by
  obtain ⟨a1, c1, rfl⟩ : ∃ ao c, v = .slice ao m c := by obtain ⟨ao, c, rfl, _⟩ := hr; exact ⟨ao, c, by rw [bv_length, hm]⟩
  have h1 : ¬ (1048576 : Int) < (m : Int) := by omega
  have L : Hid (m ≤ 1000000000) := Lib.hid (by omega)
  have F1 : Hid (8 ≤ maxLen) := Lib.hid (by unfold maxLen; omega)
  have F2 : Hid (8 * 1 ≤ 140737488355328) := Lib.hid (by omega)
  have F3 : Hid (m + 8 ≤ maxLen) := Lib.hid (by unfold maxLen; omega)
  have F4 : Hid ((m + 8) * 1 ≤ 140737488355328) := Lib.hid (by omega)
  have HR := Lib.hid (And.intro hr hm)
  clear hr hm hl
  go_enter Tryz.func53, Tryz.ntmps53
  go_wp2_with fail
  refine (ref_u32 (m : Int) w).mono ?_
  rintro e w1 ⟨ao2, c2, rfl, hown2, hb2⟩
  go_wp2_with fail
  refine (ref_sum _ m p w1 (HR.out.1.later hb2) HR.out.2 L).mono ?_
  rintro e w1' ⟨rfl, hw1⟩
  subst hw1
  go_wp2_with fail
  refine (ref_u32 (sumOf 0 p) w1').mono ?_
  rintro e w3 ⟨ao3, c3, rfl, hown3, hb3⟩
  go_wp2_with (first | (at_builtin; refine wpList_append_bytes rfl (.tmp 10) (.tmp 13) rfl w.heap.size (.slice ao2 4 c2) 4 _ rfl (hown2.below hb3 (Nat.le_refl _)) (.slice ao3 4 c3) 4 _ rfl rfl hown3.reads 8 rfl F1 F2 (Nat.le_trans hb2.size hb3.size) ?_; intro ao4 c4 w4 hown4 hb4) | (at_builtin; refine wpList_append_bytes rfl (.tmp 15) (.tmp 16) rfl w.heap.size (.slice ao4 8 c4) 8 _ rfl hown4 (.slice a1 m c1) m p HR.out.2 rfl (HR.out.1.later ((hb2.trans (hb3.mono hb2.size)).trans hb4)) (m + 8) (by omega) F3 F4 (Nat.le_trans (Nat.le_trans hb2.size hb3.size) hb4.size) ?_; intro ao5 c5 w5 hown5 hb5))
  go_ret2
  refine ⟨ao5, c5, rfl, ?_, ((hb2.trans (hb3.mono hb2.size)).trans hb4).trans hb5⟩
  have hm := HR.out.2
  unfold frm
  rw [← hm]
  exact hown5

theorem ref_frame_long (v : Value) (m : Nat) (p : List UInt8) (w : World) (hr : Reads w v (bv p)) (hm : m = p.length) (hl : ¬ m ≤ 1048576) :
    Calls Tryz.prog 53 #[v] w fun e w' => e = .returned (.tuple #[.slice none 0 0, .int .i64 9]) ∧ w' = w := by
  obtain ⟨a1, c1, rfl⟩ : ∃ ao c, v = .slice ao m c := by obtain ⟨ao, c, rfl, _⟩ := hr; exact ⟨ao, c, by rw [bv_length, hm]⟩
  have h1 : (1048576 : Int) < (m : Int) := by omega
  clear hr hm hl
  go_enter Tryz.func53, Tryz.ntmps53
  go_wp2_with fail
  go_ret2
  exact ⟨rfl, rfl⟩

end Go.Proofs.YthacjeeafnblmaaGreatDoor

namespace Go.Proofs.YthacjeeafnblmaaGreatDoor
open Go.RowKit Go.Lib

theorem info_row : (Tryz.prog.info? 24).map (fun i => (i.zero, i.size, i.bytes)) = some (some (.slice none 0 0), 1, 24) := by kernel_rfl

/-- A list of lists of bytes of the call's own; what its elements hold lies in other blocks than it. -/
def Ows (w : World) (base : Nat) (v : Value) (n : Nat) (ps : List (List UInt8)) : Prop :=
  n = ps.length ∧ ∃ vs : List Value, w.ownsRow base 24 1 v n vs ∧ ∀ (j : Nat) (p : List UInt8), ps[j]? = some p → ∃ ao c, vs[j]? = some (Value.slice ao p.length c) ∧ Reads w (.slice ao p.length c) (bv p) ∧ p.length ≤ maxLen ∧ (∀ a, ao = some a → some a.block ≠ v.ownBlock ∧ a.block < w.heap.size)

theorem Ows.rows {w : World} {base : Nat} {v : Value} {n : Nat} {ps : List (List UInt8)} (h : Ows w base v n ps) (hn : n ≤ maxLen) : Rws w v n ps := by
  obtain ⟨h1, vs, h2, h3⟩ := h
  have hl : vs.length = n := by simpa using h2.1
  refine ⟨h1, hn, vs, Reads.own (by rw [hl]; exact h2), hl, fun j p hj => ?_⟩
  obtain ⟨ao, c, e1, e2, e3, _⟩ := h3 j p hj
  exact ⟨ao, c, e1, e2, e3⟩

theorem Ows.nil (w : World) (base : Nat) : Ows w base (.slice none 0 0) 0 [] := ⟨rfl, [], World.ownsRow_nil _ _ _ _, fun j p h => by cases h⟩

theorem Ows.shape {w : World} {base : Nat} {v : Value} {n : Nat} {ps : List (List UInt8)} (h : Ows w base v n ps) : ∃ ao c, v = .slice ao n c := by
  obtain ⟨_, vs, h2, _⟩ := h
  exact owns_shape h2

/-- Behind work that lets its blocks be. -/
theorem Ows.later {w w' : World} {base : Nat} {v : Value} {n : Nat} {ps : List (List UInt8)} (h : Ows w base v n ps) (hg : Grow w w') : Ows w' base v n ps := by
  obtain ⟨h1, vs, h2, h3⟩ := h
  refine ⟨h1, vs, ⟨h2.1, h2.2.imp id ?_⟩, fun j p hj => ?_⟩
  · rintro ⟨g, cap, cur, e1, e2, e3, e4⟩
    refine ⟨g, cap, cur, e1, e2, ?_, e4⟩
    rw [hg.block g (by have := (h2.lt g (by rw [e1]; rfl)).2; omega)]
    exact e3
  · obtain ⟨ao, c, e1, e2, e3, e4⟩ := h3 j p hj
    exact ⟨ao, c, e1, e2.later hg, e3, fun a ha => ⟨(e4 a ha).1, Nat.lt_of_lt_of_le (e4 a ha).2 hg.size⟩⟩

/-- append(list, row). -/
theorem wpList_append_row {ops : Array Oper} {rest : List Oper} {o : Oper} {a : Act} {w : World} {Q : Exit → Act → World → Prop} (hgd : o.guard = none) (s x : Operand)
    (ho : o.op = .call { callee := .builtin .append, args := #[s, x], argTypes := #[58, 58] })
    (base : Nat) (v : Value) (n : Nat) (ps : List (List UInt8)) (hs : a.eval s = v) (hown : Ows w base v n ps) (ad : Addr) (p : List UInt8) (m : Nat) (ap : Option Addr) (cp : Nat) (hm : m = p.length) (hx : a.eval x = .slice (some ad) 1 1)
    (hc : w.cell? ad = some (.slice ap m cp)) (hr : Reads w (.slice ap m cp) (bv p)) (hap : ∀ a, ap = some a → some a.block ≠ v.ownBlock ∧ a.block < w.heap.size) (hpl : Hid (m ≤ maxLen))
    (q : Nat) (hq : q = n + 1) (h63 : Hid (q ≤ 1000000000)) (hbase : base ≤ w.heap.size)
    (h : ∀ ao c w', Ows w' base (.slice ao q c) q (ps ++ [p]) → Below base w w' → wpList Tryz.prog ops Q rest (a.put o.dst (.slice ao q c)) w') : wpList Tryz.prog ops Q (o :: rest) a w := by
  subst hm hq
  obtain ⟨hn, vs, h2, h3⟩ := hown
  obtain ⟨i0, hi, hz0, hz1, hz2⟩ := info_parts info_row
  have hvl : vs.length = n := by simpa using h2.1
  have hb := h63.out
  refine wpList_plain hgd fun K hK => ?_
  obtain ⟨v', w', hr', e2, e3, _, e5⟩ := run_append_own_at (P := Tryz.prog) w base 58 o.type 24 i0 (.slice none 0 0) 1 24 Tryz.underlying58 hi hz0 hz1 hz2 rfl (by decide) v n vs h2 ad 1 1 [.slice ap p.length cp] rfl
    (fun j u hj => by
      cases j with
      | zero => simp at hj; subst hj; simpa [Addr.add] using hc
      | succ j => simp at hj) (by intro u hu; simp at hu; subst hu; rfl) (by unfold maxLen; omega) (by omega) hbase
  obtain ⟨ao, c, rfl⟩ := owns_shape e2
  unfold Oper.wp execOp
  simp only [ho, resolve, invoke, builtin, Sem.run_bind, Sem.run_pure, Result.andThen_ok, List.map_toArray, List.map_cons, List.map_nil, hs, hx, hr']
  have keep : ∀ (bo : Option Addr) (k c' : Nat) (l : List UInt8), Reads w (.slice bo k c') (bv l) → (∀ a, bo = some a → some a.block ≠ v.ownBlock ∧ a.block < w.heap.size) →
      Reads w' (.slice bo k c') (bv l) ∧ ∀ a, bo = some a → some a.block ≠ (Value.slice ao (n + 1) c).ownBlock ∧ a.block < w'.heap.size := by
    intro bo k c' l hrd hbo
    refine ⟨hrd.grown e3 (fun a n c e => ?_), fun a ha => ⟨?_, Nat.lt_of_lt_of_le (hbo a ha).2 e3.size⟩⟩
    · simp only [Value.slice.injEq] at e
      exact (hbo a e.1).1
    · rcases e5 with e | e
      · rw [e]; exact (hbo a ha).1
      · rw [e]
        intro e6
        have := (hbo a ha).2
        simp only [Option.some.injEq] at e6
        omega
  refine hK _ _ (h ao c w' ⟨by rw [hn, List.length_append]; rfl, vs ++ [.slice ap p.length cp], e2, fun j q' hj => ?_⟩ (below_grown_own h2 e3 hbase))
  by_cases hjn : j < n
  · rw [List.getElem?_append_left (by omega)] at hj
    obtain ⟨bo, c', f1, f2, f3, f4⟩ := h3 j q' hj
    obtain ⟨g1, g2⟩ := keep bo _ c' q' f2 f4
    exact ⟨bo, c', by rw [List.getElem?_append_left (by omega)]; exact f1, g1, f3, g2⟩
  · have hjl := (List.getElem?_eq_some_iff.1 hj).1
    simp only [List.length_append, List.length_cons, List.length_nil] at hjl
    obtain rfl : j = n := by omega
    rw [List.getElem?_append_right (by omega)] at hj
    have h0 : j - ps.length = 0 := by omega
    rw [h0] at hj
    simp only [List.getElem?_cons_zero, Option.some.injEq] at hj
    subst hj
    obtain ⟨g1, g2⟩ := keep ap _ cp p hr hap
    refine ⟨ap, cp, ?_, g1, hpl.out, g2⟩
    rw [List.getElem?_append_right (by omega), hvl, Nat.sub_self]
    rfl

end Go.Proofs.YthacjeeafnblmaaGreatDoor
