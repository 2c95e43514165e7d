/- The reference's Scan. Numbers and types by name. -/
import Derived.Test.YthcdkggkoanjpaaGreatDoorMov
import Derived.Test.YthcdkggkoanjpaaGreatDoorFrp
import Derived.Laws.BitsLemmas
import Derived.Test.YthcdkggkoanjpaaGreatDoorCop
namespace Go.Proofs.YthcdkggkoanjpaaGreatDoor
open Go.RowKit Go.Lib
theorem crc_take {l : List UInt8} {k : Nat} {x : UInt8} (c : BitVec 32) (h : l[k]? = some x) : crc c (l.take (k + 1)) = feed (crc c (l.take k)) x := by
  have : l.take (k + 1) = l.take k ++ [x] := by rw [List.take_add_one, h]; rfl
  rw [this, crc_append]
  rfl
theorem ref_more (s : Int) (v : Value) (m : Nat) (l : List UInt8) (w : World) (hr : Reads w v (bv l)) (hm : m = l.length) (hl : Hid (m ≤ 1000000000)) :
    Calls Tryz.prog 163 #[.int .i64 s, v] w fun e w' => e = .returned (.int .i64 (sumOf s l)) ∧ w' = w := by
  obtain ⟨ao, c, rfl⟩ : ∃ ao c, v = .slice ao m c := by obtain ⟨ao, c, rfl, _⟩ := hr; exact ⟨ao, c, by rw [bv_length, hm]⟩
  have hb := begun_xor s
  have hl' := hl.out
  have HR := Lib.hid (And.intro hr hm)
  clear hr hm
  go_enter Tryz.func163, Tryz.ntmps163
  go_wp2_with fail
  clear hb
  go_loopw [5, 6] (fun cv i wr => ∃ k : Nat, k ≤ m ∧ i = .int .i64 k ∧ cv = .int .u32 ((crc (begun s) (l.take k)).toNat : Int) ∧ w = wr)
    (fun _ i _ => m - (intOf i).toNat)
  case atStart => exact ⟨0, Nat.zero_le _, rfl, rfl, rfl⟩
  case round =>
    obtain ⟨k, hk, rfl, rfl, rfl⟩ := hrel
    by_cases hlt : k < m
    · have h3 : (k : Int) < (m : Int) := by omega
      obtain ⟨x, hx⟩ : ∃ x, l[k]? = some x := ⟨l[k]'(by have := HR.out.2; omega), List.getElem?_eq_getElem (by have := HR.out.2; omega)⟩
      obtain ⟨a, rfl, hc⟩ : ∃ a, ao = some a ∧ w.cell? (a.add k) = some (.int .u8 (x.toNat : Int)) := by
        obtain ⟨ao', c', e, _, hn, h2⟩ := HR.out.1
        simp only [Value.slice.injEq] at e
        obtain ⟨rfl, _, _⟩ := e
        cases ao with
        | none => have := (hn rfl).1; have : l = [] := by simpa [bv] using this
                  subst this; simp at hx
        | some a => exact ⟨a, rfl, h2 a rfl k _ (by simp [bv, hx])⟩
      have hxor := byte_xor (crc (begun s) (l.take k)) x
      have HN := Lib.hid (crc_take (begun s) hx)
      have hx256 := x.toNat_lt
      clear hx
      generalize crc (begun s) (l.take k) = c0 at *
      generalize hd : c0 ^^^ BitVec.ofNat 32 x.toNat = d at *
      have HD := Lib.hid hd
      clear hd
      go_wp2_with fail
      clear hxor hc
      go_loopw [5, 7] (fun cv i wr => ∃ j : Nat, j ≤ 8 ∧ i = .int .i64 j ∧ cv = .int .u32 ((shs j d).toNat : Int) ∧ w = wr)
        (fun _ i _ => 8 - (intOf i).toNat)
      case atStart => exact ⟨0, by omega, rfl, rfl, rfl⟩
      case round =>
        obtain ⟨j, hj, rfl, rfl, rfl⟩ := hrel
        by_cases hj8 : j < 8
        · have h4 : (j : Int) < 8 := by omega
          have hsucc := shs_succ j d
          generalize shs j d = e at *
          cases hlow : e.getLsbD 0 with
          | true =>
            have f1 := low_one hlow
            have f2 := step_one hlow
            rw [← hsucc] at f2
            have HF := Lib.hid hsucc
            clear hsucc hlow
            go_wp2_with fail
            exact ⟨⟨j + 1, by omega, by simp, rfl, trivial⟩, by simp [intOf]; omega⟩
          | false =>
            have f1 := low_none hlow
            have f2 := step_none hlow
            rw [← hsucc] at f2
            clear hsucc hlow
            go_wp2_with fail
            exact ⟨⟨j + 1, by omega, by simp, rfl, trivial⟩, by simp [intOf]; omega⟩
        · obtain rfl : j = 8 := by omega
          go_wp2_with fail
          refine ⟨⟨k + 1, by omega, by simp, ?_, trivial⟩, by simp [intOf]; omega⟩
          rw [HN.out]
          unfold feed
          rw [HD.out]
    · obtain rfl : k = m := by omega
      have h3 : ¬ (k : Int) < (k : Int) := by omega
      have hk2 : l.take k = l := List.take_of_length_le (by have := HR.out.2; omega)
      rw [hk2]
      have he := ended_xor (crc (begun s) l)
      have hbd := sumOf_bound s l
      rw [show ((crc (begun s) l ^^^ ones).toNat : Int) = sumOf s l from rfl] at he
      have hwz : wrap64 (sumOf s l) = sumOf s l := by unfold wrap64; omega
      generalize hz : sumOf s l = z at *
      have HZ := Lib.hid hz
      clear hbd hz
      go_wp2_with fail
      go_ret
      rw [HZ.out]
      exact ⟨rfl, rfl⟩
theorem ref_sum (v : Value) (m : Nat) (l : List UInt8) (w : World) (hr : Reads w v (bv l)) (hm : m = l.length) (hl : Hid (m ≤ 1000000000)) :
    Calls Tryz.prog 122 #[v] w fun e w' => e = .returned (.int .i64 (sumOf 0 l)) ∧ w' = w := by
  have G := ref_more 0 v m l w hr hm hl
  go_enter Tryz.func122, Tryz.ntmps122
  go_wp2_with (go_at_call 163; refine G.mono ?_; rintro e w' ⟨rfl, rfl⟩)
  go_ret
  first | exact rfl | exact ⟨rfl, rfl⟩
end Go.Proofs.YthcdkggkoanjpaaGreatDoor
namespace Go.Proofs.YthcdkggkoanjpaaGreatDoor
open Go.RowKit Go.Lib
theorem next_of {α : Type} {L : List α} {k : Nat} {s : α} (h : L[k]? = some s) : L.take (k + 1) = L.take k ++ [s] := by rw [List.take_add_one, h]; rfl
theorem bs_lit (w : World) (base : Nat) (l : List UInt8) (n : Nat) (hn : n = l.length) (hb : base ≤ w.heap.size) (hm : n ≤ maxLen) : Bs (w.alloc (.cells (bv l).toArray 5)) base (.slice (some ⟨w.heap.size, 0, none⟩) n n) n l := by
  subst hn
  refine ⟨rfl, by rw [bv_length, Nat.mul_one], .inr ⟨w.heap.size, l.length, (bv l).toArray, rfl, hb, heap_alloc_new w _, Nat.le_refl _, hm, by simp [bv], ?_⟩⟩
  rw [Nat.mul_one, ← bv_length l]
  simp
theorem ref_u32 (n : Int) (w : World) :
    Calls Tryz.prog 182 #[.int .i64 n] w fun e w' => ∃ ao c, e = .returned (.slice ao 4 c) ∧ Bs w' w.heap.size (.slice ao 4 c) 4 (be4 n) ∧ Below w.heap.size w w' := by
  have HB := Lib.hid (bv_be4 n)
  go_enter Tryz.func182, Tryz.ntmps182
  go_wp2_with fail
  go_ret
  refine ⟨_, _, rfl, ?_, (Below.refl _ w).alloc (Nat.le_refl _) _⟩
  have := bs_lit w w.heap.size (be4 n) 4 rfl (Nat.le_refl _) (by unfold maxLen; decide)
  rw [HB.out] at this
  exact this
theorem or_at (s : Nat) (x y : Int) (h0 : 0 ≤ x) (h1 : x < 4611686018427387904) (hx : x % 2 ^ s = 0) (y0 : 0 ≤ y) (y1 : y < 2 ^ s) (y2 : y < 4611686018427387904) : bits .or .i64 x y = x + y := by
  have hp : (2 : Int) ^ 62 = 4611686018427387904 := by decide
  exact bits_join .i64 62 (by decide) (fun m _ _ => by rw [IntKind.wrap_i64]; omega) s x y h0 hx (by omega) y0 y1 (by omega)
theorem ref_get_inL (v : Value) (m : Nat) (l : List UInt8) (k : Nat) (w : World) (hr : Reads w v (bv l)) (hm : m = l.length) (hl : Hid (m ≤ maxLen)) (hk : k + 4 ≤ m) :
    Calls Tryz.prog 121 #[v, .int .i64 k] w fun e w' => e = .returned (.tuple #[.int .i64 (numOf ((l.drop k).take 4)), .bool true]) ∧ ∃ j, w' = w.drewN j := by
  obtain ⟨ao, cap, rfl, hcap, hn, hc⟩ := hr
  rw [bv_length, ← hm] at hcap ⊢
  have hL : m ≤ 9223372036854775807 := by have := hl.out; unfold maxLen at this; omega
  obtain ⟨a, rfl⟩ : ∃ a, ao = some a := by
    cases ao with
    | some a => exact ⟨a, rfl⟩
    | none => have := (hn rfl).1; have : l = [] := by simpa [bv] using this
              subst this; simp at hm; omega
  have hcell : ∀ j (x : UInt8), l[j]? = some x → ∀ w', Grow w.drew w' → w'.cell? (a.add j) = some (.int .u8 (x.toNat : Int)) := fun j x hx w' hg => by
    have h := hc a rfl j _ (by simp [bv, hx] : (bv l)[j]? = some (.int .u8 (x.toNat : Int)))
    rw [World.cell?_of_block (hg.block _ (World.block_lt_of_cell? w _ h))]
    exact h
  have at_ : ∀ j, j < m → ∃ x, l[j]? = some x := fun j hj => ⟨l[j], List.getElem?_eq_getElem (by omega)⟩
  obtain ⟨x0, e0⟩ := at_ k (by omega)
  obtain ⟨x1, e1⟩ := at_ (k + 1) (by omega)
  obtain ⟨x2, e2⟩ := at_ (k + 2) (by omega)
  obtain ⟨x3, e3⟩ := at_ (k + 3) (by omega)
  have hnum : numOf ((l.drop k).take 4) = (x0.toNat : Int) * 16777216 + (x1.toNat : Int) * 65536 + (x2.toNat : Int) * 256 + (x3.toNat : Int) := by
    have : (l.drop k).take 4 = [x0, x1, x2, x3] := by
      rw [show (4 : Nat) = 0 + 1 + 1 + 1 + 1 from rfl, next_of (L := l.drop k) (s := x3) (by simpa using e3), next_of (L := l.drop k) (s := x2) (by simpa using e2), next_of (L := l.drop k) (s := x1) (by simpa using e1), next_of (L := l.drop k) (s := x0) (by simpa using e0)]
      rfl
    rw [this]
    simp only [numOf, List.foldl_cons, List.foldl_nil]
    omega
  have c0 := hcell _ _ e0
  have c1 := hcell _ _ e1
  have c2 := hcell _ _ e2
  have c3 := hcell _ _ e3
  have b0 := x0.toNat_lt
  have b1 := x1.toNat_lt
  have b2 := x2.toNat_lt
  have b3 := x3.toNat_lt
  rw [hnum]
  clear hcell at_ e0 e1 e2 e3 hnum hc hn hm
  generalize x0.toNat = y0 at *
  generalize x1.toNat = y1 at *
  generalize x2.toNat = y2 at *
  generalize x3.toNat = y3 at *
  obtain ⟨k1, hk1⟩ : ∃ k1, k1 = k + 1 := ⟨_, rfl⟩
  obtain ⟨k2, hk2⟩ : ∃ k2, k2 = k + 2 := ⟨_, rfl⟩
  obtain ⟨k3, hk3⟩ : ∃ k3, k3 = k + 3 := ⟨_, rfl⟩
  rw [← hk1] at c1
  rw [← hk2] at c2
  rw [← hk3] at c3
  have q1 : IntKind.i64.wrap ((k : Int) + 1) = (k1 : Int) := by rw [IntKind.wrap_i64]; omega
  have q2 : IntKind.i64.wrap ((k : Int) + 2) = (k2 : Int) := by rw [IntKind.wrap_i64]; omega
  have q3 : IntKind.i64.wrap ((k : Int) + 3) = (k3 : Int) := by rw [IntKind.wrap_i64]; omega
  have g0 : (k : Int) < (m : Int) := by omega
  have g1 : (k1 : Int) < (m : Int) := by omega
  have g2 : (k2 : Int) < (m : Int) := by omega
  have g3 : (k3 : Int) < (m : Int) := by omega
  have g0' : k < m := by omega
  have g1' : k1 < m := by omega
  have g2' : k2 < m := by omega
  have g3' : k3 < m := by omega
  have r0 : IntKind.i64.wrap (y0 : Int) = (y0 : Int) := by rw [IntKind.wrap_i64]; omega
  have r1 : IntKind.i64.wrap (y1 : Int) = (y1 : Int) := by rw [IntKind.wrap_i64]; omega
  have r2 : IntKind.i64.wrap (y2 : Int) = (y2 : Int) := by rw [IntKind.wrap_i64]; omega
  have r3 : IntKind.i64.wrap (y3 : Int) = (y3 : Int) := by rw [IntKind.wrap_i64]; omega
  have s0 : IntKind.i64.wrap ((y0 : Int) * 16777216) = (y0 : Int) * 16777216 := by rw [IntKind.wrap_i64]; omega
  have s1 : IntKind.i64.wrap ((y1 : Int) * 65536) = (y1 : Int) * 65536 := by rw [IntKind.wrap_i64]; omega
  have s2 : IntKind.i64.wrap ((y2 : Int) * 256) = (y2 : Int) * 256 := by rw [IntKind.wrap_i64]; omega
  have o1 : bits .or .i64 ((y0 : Int) * 16777216) ((y1 : Int) * 65536) = (y0 : Int) * 16777216 + (y1 : Int) * 65536 := or_at 24 _ _ (by omega) (by omega) (by simp) (by omega) (by simp; omega) (by omega)
  have o2 : bits .or .i64 ((y0 : Int) * 16777216 + (y1 : Int) * 65536) ((y2 : Int) * 256) = (y0 : Int) * 16777216 + (y1 : Int) * 65536 + (y2 : Int) * 256 := or_at 16 _ _ (by omega) (by omega) (by omega) (by omega) (by simp; omega) (by omega)
  have o3 : bits .or .i64 ((y0 : Int) * 16777216 + (y1 : Int) * 65536 + (y2 : Int) * 256) (y3 : Int) = (y0 : Int) * 16777216 + (y1 : Int) * 65536 + (y2 : Int) * 256 + (y3 : Int) := or_at 8 _ _ (by omega) (by omega) (by omega) (by omega) (by simp; omega) (by omega)
  have n1 : ¬ ((k : Int) < 0) := by omega
  have n2 : ¬ ((m : Int) - 4 < (k : Int)) := by omega
  have n3 : wrap64 ((m : Int) - 4) = (m : Int) - 4 := wrap64_id _ (by omega)
  clear hL hk1 hk2 hk3 b0 b1 b2 b3 hk hcap
  go_enter Tryz.func121, Tryz.ntmps121
  go_wp2_with fail
  refine wp_region_mv [(0, 31, true)] (by kernel_rfl) (by kernel_rfl) ?_
  simp only [mvAll, mvSeg, List.drop_zero, List.cons_append, List.nil_append, Nat.reduceAdd]
  iterate 31
    refine wpLin_still ?_ (fun w' hG K hK => ?_) (fun K hK => ?_)
    rotate_left
    · unfold mvVal
      go_simp
      try exact hK
    go_simp
    refine hK _ ?_
    clear hK K
  refine wpLin_nil ?_
  go_wp2
  go_ret2
  exact ⟨rfl, 1, rfl⟩
theorem ref_get_outL (v : Value) (m : Nat) (l : List UInt8) (k : Int) (w : World) (hr : Reads w v (bv l)) (hm : m = l.length) (hl : Hid (m ≤ maxLen)) (hk : ¬ (0 ≤ k ∧ k + 4 ≤ m)) :
    Calls Tryz.prog 121 #[v, .int .i64 k] w fun e w' => e = .returned (.tuple #[.int .i64 0, .bool false]) ∧ w' = w := by
  obtain ⟨ao, cap, rfl, _⟩ := hr
  rw [bv_length, ← hm]
  have n3 : wrap64 ((m : Int) - 4) = (m : Int) - 4 := wrap64_id _ (by have := hl.out; unfold maxLen at this; omega)
  by_cases n1 : k < 0
  · clear n3 hk
    go_enter Tryz.func121, Tryz.ntmps121
    go_wp2_with fail
    go_ret2
    exact ⟨rfl, rfl⟩
  · have n2 : (m : Int) - 4 < k := by omega
    clear hk hm
    go_enter Tryz.func121, Tryz.ntmps121
    go_wp2_with fail
    go_ret2
    exact ⟨rfl, rfl⟩
theorem ref_get_in (v : Value) (m : Nat) (l : List UInt8) (k : Nat) (w : World) (hr : Reads w v (bv l)) (hm : m = l.length) (hl : Hid (m ≤ 1000000000)) (hk : k + 4 ≤ m) :
    Calls Tryz.prog 121 #[v, .int .i64 k] w fun e w' => e = .returned (.tuple #[.int .i64 (numOf ((l.drop k).take 4)), .bool true]) ∧ ∃ j, w' = w.drewN j := ref_get_inL v m l k w hr hm (hid_small hl) hk
theorem ref_get_out (v : Value) (m : Nat) (l : List UInt8) (k : Int) (w : World) (hr : Reads w v (bv l)) (hm : m = l.length) (hl : Hid (m ≤ 1000000000)) (hk : ¬ (0 ≤ k ∧ k + 4 ≤ m)) :
    Calls Tryz.prog 121 #[v, .int .i64 k] w fun e w' => e = .returned (.tuple #[.int .i64 0, .bool false]) ∧ w' = w := ref_get_outL v m l k w hr hm (hid_small hl) hk
end Go.Proofs.YthcdkggkoanjpaaGreatDoor
namespace Go.Proofs.YthcdkggkoanjpaaGreatDoor
open Go.RowKit Go.Lib
def Rws (w : World) (v : Value) (n : Nat) (ps : List (List UInt8)) : Prop :=
  n = ps.length ∧ n ≤ maxLen ∧ ∃ vs : List Value, Reads w v vs ∧ vs.length = n ∧ ∀ (j : Nat) (p : List UInt8), ps[j]? = some p → ∃ ao c, vs[j]? = some (Value.slice ao p.length c) ∧ Reads w (.slice ao p.length c) (bv p) ∧ p.length ≤ maxLen
theorem Rws.shape {w : World} {v : Value} {n : Nat} {ps : List (List UInt8)} (h : Rws w v n ps) : ∃ ao c, v = .slice ao n c := by
  obtain ⟨_, _, vs, ⟨ao, c, rfl, _⟩, hl, _⟩ := h
  exact ⟨ao, c, by rw [hl]⟩
theorem Rws.later {w w' : World} {v : Value} {n : Nat} {ps : List (List UInt8)} (h : Rws w v n ps) (hg : Grow w w') : Rws w' v n ps := by
  obtain ⟨h1, h2, vs, hr, hl, hp⟩ := h
  exact ⟨h1, h2, vs, hr.later hg, hl, fun j p hj => by obtain ⟨ao, c, e1, e2, e3⟩ := hp j p hj; exact ⟨ao, c, e1, e2.later hg, e3⟩⟩
theorem Rws.at {w : World} {ao : Option Addr} {n c : Nat} {ps : List (List UInt8)} (h : Rws w (.slice ao n c) n ps) {k : Nat} (hk : k < n) :
    ∃ a p ap cp, ao = some a ∧ ps[k]? = some p ∧ w.cell? (a.add k) = some (.slice ap p.length cp) ∧ Reads w (.slice ap p.length cp) (bv p) ∧ p.length ≤ maxLen := by
  obtain ⟨h1, h2, vs, ⟨ao', c', e, _, hn, hc⟩, hl, hp⟩ := h
  simp only [Value.slice.injEq] at e
  obtain ⟨rfl, _, _⟩ := e
  have hx : ps[k]? = some (ps[k]'(by omega)) := List.getElem?_eq_getElem (by omega)
  obtain ⟨ap, cp, e1, e2, e3⟩ := hp k _ hx
  cases ao with
  | none => have := (hn rfl).1; subst this; simp at hl; omega
  | some a => exact ⟨a, _, ap, cp, rfl, hx, hc a rfl k _ e1, e2, e3⟩
theorem take_more {α : Type} {L : List α} {k : Nat} {s : α} (h : L[k]? = some s) : L.take (k + 1) = L.take k ++ [s] := by rw [List.take_add_one, h]; rfl
end Go.Proofs.YthcdkggkoanjpaaGreatDoor
namespace Go.Proofs.YthcdkggkoanjpaaGreatDoor
open Go.RowKit Go.Lib
theorem info_row : (Tryz.prog.info? 24).map (fun i => (i.zero, i.size, i.bytes)) = some (some (.slice none 0 0), 1, 24) := by kernel_rfl
def Ows (w : World) (base : Nat) (v : Value) (n : Nat) (ps : List (List UInt8)) : Prop :=
  n = ps.length ∧ ∃ vs : List Value, w.ownsRow base 24 1 v n vs ∧ ∀ (j : Nat) (p : List UInt8), ps[j]? = some p → ∃ ao c, vs[j]? = some (Value.slice ao p.length c) ∧ Reads w (.slice ao p.length c) (bv p) ∧ p.length ≤ maxLen ∧ (∀ a, ao = some a → some a.block ≠ v.ownBlock ∧ a.block < w.heap.size)
theorem Ows.rows {w : World} {base : Nat} {v : Value} {n : Nat} {ps : List (List UInt8)} (h : Ows w base v n ps) (hn : n ≤ maxLen) : Rws w v n ps := by
  obtain ⟨h1, vs, h2, h3⟩ := h
  have hl : vs.length = n := by simpa using h2.1
  refine ⟨h1, hn, vs, Reads.own (by rw [hl]; exact h2), hl, fun j p hj => ?_⟩
  obtain ⟨ao, c, e1, e2, e3, _⟩ := h3 j p hj
  exact ⟨ao, c, e1, e2, e3⟩
theorem Ows.nil (w : World) (base : Nat) : Ows w base (.slice none 0 0) 0 [] := ⟨rfl, [], World.ownsRow_nil _ _ _ _, fun j p h => by cases h⟩
theorem Ows.later {w w' : World} {base : Nat} {v : Value} {n : Nat} {ps : List (List UInt8)} (h : Ows w base v n ps) (hg : Grow w w') : Ows w' base v n ps := by
  obtain ⟨h1, vs, h2, h3⟩ := h
  refine ⟨h1, vs, ⟨h2.1, h2.2.imp id ?_⟩, fun j p hj => ?_⟩
  · rintro ⟨g, cap, cur, e1, e2, e3, e4⟩
    refine ⟨g, cap, cur, e1, e2, ?_, e4⟩
    rw [hg.block g (by have := (h2.lt g (by rw [e1]; rfl)).2; omega)]
    exact e3
  · obtain ⟨ao, c, e1, e2, e3, e4⟩ := h3 j p hj
    exact ⟨ao, c, e1, e2.later hg, e3, fun a ha => ⟨(e4 a ha).1, Nat.lt_of_lt_of_le (e4 a ha).2 hg.size⟩⟩
theorem wpList_append_row {ops : Array Oper} {rest : List Oper} {o : Oper} {a : Act} {w : World} {Q : Exit → Act → World → Prop} (hgd : o.guard = none) (s x : Operand)
    (ho : o.op = .call { callee := .builtin .append, args := #[s, x], argTypes := #[131, 131] })
    (base : Nat) (v : Value) (n : Nat) (ps : List (List UInt8)) (hs : a.eval s = v) (hown : Ows w base v n ps) (ad : Addr) (p : List UInt8) (m : Nat) (ap : Option Addr) (cp : Nat) (hm : m = p.length) (hx : a.eval x = .slice (some ad) 1 1)
    (hc : w.cell? ad = some (.slice ap m cp)) (hr : Reads w (.slice ap m cp) (bv p)) (hap : ∀ a, ap = some a → some a.block ≠ v.ownBlock ∧ a.block < w.heap.size) (hpl : Hid (m ≤ maxLen))
    (q : Nat) (hq : q = n + 1) (h63 : Hid (q ≤ 1000000000)) (hbase : base ≤ w.heap.size)
    (h : ∀ ao c w', Ows w' base (.slice ao q c) q (ps ++ [p]) → Below base w w' → wpList Tryz.prog ops Q rest (a.put o.dst (.slice ao q c)) w') : wpList Tryz.prog ops Q (o :: rest) a w := by
  subst hm hq
  obtain ⟨hn, vs, h2, h3⟩ := hown
  obtain ⟨i0, hi, hz0, hz1, hz2⟩ := info_parts info_row
  have hvl : vs.length = n := by simpa using h2.1
  have hb := h63.out
  refine wpList_plain hgd fun K hK => ?_
  obtain ⟨v', w', hr', e2, e3, _, e5⟩ := run_append_own_at (P := Tryz.prog) w base 131 o.type 24 i0 (.slice none 0 0) 1 24 Tryz.underlying131 hi hz0 hz1 hz2 rfl (by decide) v n vs h2 ad 1 1 [.slice ap p.length cp] rfl
    (fun j u hj => by
      cases j with
      | zero => simp at hj; subst hj; simpa [Addr.add] using hc
      | succ j => simp at hj) (by intro u hu; simp at hu; subst hu; rfl) (by unfold maxLen; omega) (by omega) hbase
  obtain ⟨ao, c, rfl⟩ := owns_shape e2
  unfold Oper.wp execOp
  simp only [ho, resolve, invoke, builtin, Sem.run_bind, Sem.run_pure, Result.andThen_ok, List.map_toArray, List.map_cons, List.map_nil, hs, hx, hr']
  have keep : ∀ (bo : Option Addr) (k c' : Nat) (l : List UInt8), Reads w (.slice bo k c') (bv l) → (∀ a, bo = some a → some a.block ≠ v.ownBlock ∧ a.block < w.heap.size) →
      Reads w' (.slice bo k c') (bv l) ∧ ∀ a, bo = some a → some a.block ≠ (Value.slice ao (n + 1) c).ownBlock ∧ a.block < w'.heap.size := by
    intro bo k c' l hrd hbo
    refine ⟨hrd.grown e3 (fun a n c e => ?_), fun a ha => ⟨?_, Nat.lt_of_lt_of_le (hbo a ha).2 e3.size⟩⟩
    · simp only [Value.slice.injEq] at e
      exact (hbo a e.1).1
    · rcases e5 with e | e
      · rw [e]; exact (hbo a ha).1
      · rw [e]
        intro e6
        have := (hbo a ha).2
        simp only [Option.some.injEq] at e6
        omega
  refine hK _ _ (h ao c w' ⟨by rw [hn, List.length_append]; rfl, vs ++ [.slice ap p.length cp], e2, fun j q' hj => ?_⟩ (below_grown_own h2 e3 hbase))
  by_cases hjn : j < n
  · rw [List.getElem?_append_left (by omega)] at hj
    obtain ⟨bo, c', f1, f2, f3, f4⟩ := h3 j q' hj
    obtain ⟨g1, g2⟩ := keep bo _ c' q' f2 f4
    exact ⟨bo, c', by rw [List.getElem?_append_left (by omega)]; exact f1, g1, f3, g2⟩
  · have hjl := (List.getElem?_eq_some_iff.1 hj).1
    simp only [List.length_append, List.length_cons, List.length_nil] at hjl
    obtain rfl : j = n := by omega
    rw [List.getElem?_append_right (by omega)] at hj
    have h0 : j - ps.length = 0 := by omega
    rw [h0] at hj
    simp only [List.getElem?_cons_zero, Option.some.injEq] at hj
    subst hj
    obtain ⟨g1, g2⟩ := keep ap _ cp p hr hap
    refine ⟨ap, cp, ?_, g1, hpl.out, g2⟩
    rw [List.getElem?_append_right (by omega), hvl, Nat.sub_self]
    rfl
end Go.Proofs.YthcdkggkoanjpaaGreatDoor
namespace Go.Proofs.YthcdkggkoanjpaaGreatDoor
open Go.RowKit Go.Lib
theorem one_drop {b : List UInt8} {k : Nat} (h : k + 8 ≤ b.length) (q s : Nat) (hq : numOf ((b.drop k).take 4) = q) (hs : numOf ((b.drop (k + 4)).take 4) = s) :
    one? (b.drop k) = if q ≤ 1048576 ∧ q ≤ b.length - (k + 8) ∧ sumOf 0 ((b.drop (k + 8)).take q) = s then some ((b.drop (k + 8)).take q, b.drop (k + 8 + q)) else none := by
  have h1 := num_drop (l := b) (k := k) (by omega)
  have h2 := num_drop (l := b) (k := k + 4) (by omega)
  rw [hq, Int.toNat_natCast] at h1
  rw [hs, Int.toNat_natCast] at h2
  unfold one?
  rw [h1]
  simp only
  rw [h2]
  simp only [List.length_drop, List.drop_drop]
theorem one_short {b : List UInt8} {k : Nat} (h : ¬ k + 8 ≤ b.length) : one? (b.drop k) = none := by
  unfold one?
  by_cases h4 : k + 4 ≤ b.length
  · rw [num_drop h4]
    simp only
    rw [num_drop_no (by omega)]
  · rw [num_drop_no h4]
def ScanDone (b : List UInt8) (w : World) (e : Ending) (w' : World) : Prop :=
  Below w.heap.size w w' ∧ ∃ l n ao c, Scans b l n ∧ n ≤ b.length ∧ e = .returned (.tuple #[.slice ao l.length c, .int .i64 ((n : Nat) : Int)]) ∧ Ows w' w.heap.size (.slice ao l.length c) l.length l
def ScanAt (b : List UInt8) (w wr : World) (lv : Value) (k m : Nat) : Prop :=
  ∃ ao j c ps, lv = .slice ao j c ∧ Ows wr w.heap.size (.slice ao j c) j ps ∧ Below w.heap.size w wr ∧ k ≤ m ∧ 8 * j ≤ k ∧ ∀ l n, Scans (b.drop k) l n → Scans b (ps ++ l) (k + n)
theorem scan_stops {b : List UInt8} {w wr : World} {lv : Value} {k m : Nat} (h : ScanAt b w wr lv k m) (hm : m = b.length) (h0 : one? (b.drop k) = none) (w' : World) (hg : Grow wr w') : ScanDone b w (.returned (.tuple #[lv, .int .i64 (k : Int)])) w' := by
  obtain ⟨ao, j, c, ps, rfl, ho, hb, hk, _, hs⟩ := h
  have hj := ho.1
  subst hj
  have := hs [] 0 (.stop h0)
  rw [List.append_nil, Nat.add_zero] at this
  exact ⟨hb.trans (hg.mono hb.size), ps, k, ao, c, this, by omega, rfl, ho.later hg⟩
set_option maxHeartbeats 4000000 in
theorem ref_scan (v : Value) (m : Nat) (b : List UInt8) (w : World) (hr : Reads w v (bv b)) (hm : m = b.length) (hl : Hid (m ≤ 1000000000)) :
    Calls Tryz.prog 75 #[v] w (ScanDone b w) := by
  obtain ⟨ao, c, rfl⟩ : ∃ ao c, v = .slice ao m c := by obtain ⟨ao, c, rfl, _⟩ := hr; exact ⟨ao, c, by rw [bv_length, hm]⟩
  have HR := Lib.hid hr
  have HM := Lib.hid hm
  clear hr hm
  go_enter Tryz.func75, Tryz.ntmps75
  go_wp2_with fail
  go_loopw [4, 5] (fun lv gv wr => ∃ k : Nat, gv = .int .i64 k ∧ Hid (ScanAt b w wr lv k m))
    (fun _ gv _ => m + 8 - (RowKit.intOf gv).toNat)
  case atStart => exact ⟨0, rfl, Lib.hid ⟨none, 0, 0, [], rfl, Ows.nil _ _, Below.refl _ _, Nat.zero_le _, by omega, fun l n h => by simpa using h⟩⟩
  case round =>
    obtain ⟨k, rfl, hrel⟩ := hrel
    have hkm : k ≤ m := by obtain ⟨_, _, _, _, _, _, _, h, _⟩ := hrel.out; exact h
    have hbel : Below w.heap.size w wr := by obtain ⟨_, _, _, _, _, _, h, _⟩ := hrel.out; exact h
    have hrr := HR.out.later hbel
    have hl' := hl.out
    by_cases h4 : k + 4 ≤ m
    · by_cases h8 : k + 8 ≤ m
      · obtain ⟨q, hq⟩ : ∃ q : Nat, numOf ((b.drop k).take 4) = q := ⟨_, (Int.toNat_of_nonneg (numOf_bound _).1).symm⟩
        obtain ⟨s, hs⟩ : ∃ s : Nat, numOf ((b.drop (k + 4)).take 4) = s := ⟨_, (Int.toNat_of_nonneg (numOf_bound _).1).symm⟩
        have hone := one_drop (b := b) (k := k) (by have := HM.out; omega) q s hq hs
        rw [← HM.out] at hone
        have G1 := ref_get_in _ m b k wr hrr HM.out hl h4
        rw [hq] at G1
        have hG2 : ∀ w2, Grow wr w2 → Calls Tryz.prog 121 #[.slice ao m c, .int .i64 ((k : Int) + 4)] w2 fun e w' => e = .returned (.tuple #[.int .i64 s, .bool true]) ∧ ∃ j, w' = w2.drewN j := fun w2 hg => by
          have := ref_get_in _ m b (k + 4) w2 (hrr.later hg) HM.out hl (by omega)
          rw [hs, show (((k + 4 : Nat)) : Int) = (k : Int) + 4 by omega] at this
          exact this
        have HONE := Lib.hid hone
        have HGG := Lib.hid hG2
        clear hq hs hone hG2
        by_cases c1 : 1048576 < q
        · have c1' : (1048576 : Int) < (q : Int) := by omega
          have HS := Lib.hid (scan_stops hrel.out HM.out (by rw [HONE.out, if_neg (by omega)]))
          clear hrel
          go_wp2_with fail
          refine G1.mono ?_
          rintro e w2 ⟨rfl, j2, hw2⟩
          have hg2 : Grow wr w2 := by rw [hw2]; exact ⟨rfl, rfl, rfl, Nat.le_refl _, fun _ _ => rfl⟩
          have G2 := HGG.out w2 hg2
          clear G1 hw2
          go_wp2_with fail
          refine G2.mono ?_
          rintro e w3 ⟨rfl, j3, hw3⟩
          have hg3 : Grow wr w3 := hg2.trans (by rw [hw3]; exact ⟨rfl, rfl, rfl, Nat.le_refl _, fun _ _ => rfl⟩)
          have HG := Lib.hid hg3
          clear G2 hw3 hg2 hg3
          go_wp2_with fail
          go_ret2
          exact HS.out _ HG.out
        · have c1' : ¬ (1048576 : Int) < (q : Int) := by omega
          by_cases c2 : m - (k + 8) < q
          · have c2' : (m : Int) - (k : Int) - 8 < (q : Int) := by omega
            have HS := Lib.hid (scan_stops hrel.out HM.out (by rw [HONE.out, if_neg (by omega)]))
            clear hrel
            go_wp2_with fail
            refine G1.mono ?_
            rintro e w2 ⟨rfl, j2, hw2⟩
            have hg2 : Grow wr w2 := by rw [hw2]; exact ⟨rfl, rfl, rfl, Nat.le_refl _, fun _ _ => rfl⟩
            have G2 := HGG.out w2 hg2
            clear G1 hw2
            go_wp2_with fail
            refine G2.mono ?_
            rintro e w3 ⟨rfl, j3, hw3⟩
            have hg3 : Grow wr w3 := hg2.trans (by rw [hw3]; exact ⟨rfl, rfl, rfl, Nat.le_refl _, fun _ _ => rfl⟩)
            have HG := Lib.hid hg3
            clear G2 hw3 hg2 hg3
            go_wp2_with fail
            go_ret2
            exact HS.out _ HG.out
          · have c2' : ¬ (m : Int) - (k : Int) - 8 < (q : Int) := by omega
            obtain ⟨a, rfl⟩ : ∃ a, ao = some a := by
              obtain ⟨ao', c', e, _, hn0, _⟩ := HR.out
              cases ao with
              | some a => exact ⟨a, rfl⟩
              | none =>
                simp only [Value.slice.injEq] at e
                have := (hn0 e.1.symm).1
                have : b = [] := by simpa [bv] using this
                have hm := HM.out
                subst this; simp at hm; omega
            have hmc : m ≤ c := by
              obtain ⟨_, _, e, h0, _⟩ := HR.out
              simp only [Value.slice.injEq, bv_length] at e h0
              have := HM.out
              omega
            obtain ⟨k8, hk8⟩ : ∃ k8, k8 = k + 8 := ⟨_, rfl⟩
            obtain ⟨bz, hbz, jz⟩ : ∃ bz, (if c = k8 then some a else some (a.add k8)) = some bz ∧ (bz = a.add k8 ∨ b.length = k8) := by
              by_cases h : c = k8
              · exact ⟨a, if_pos h, .inr (by have := HM.out; omega)⟩
              · exact ⟨a.add k8, if_neg h, .inl rfl⟩
            have HRD : Hid (∀ w2, Grow wr w2 → Reads w2 (.slice (some bz) q (c - k8)) (bv ((b.drop k8).take q))) := Lib.hid fun w2 hg => ((hrr.later hg).drop k8 (by omega) bz jz).prefix q (by omega)
            have e8 : (k : Int) + 8 = (k8 : Int) := by omega
            have x1 : (k8 : Int) + (q : Int) ≤ (c : Int) := by omega
            have x2 : k8 ≤ k8 + q := by omega
            have x3 : k8 + q ≤ c := by omega
            have HX := Lib.hid (And.intro hk8 (And.intro h8 (And.intro c2 hmc)))
            rw [← hk8] at HONE
            have u9 : wrap64 ((k8 : Int) + (q : Int)) = ((k8 + q : Nat) : Int) := by rw [wrap64_id _ (by omega)]; omega
            have HU9 := Lib.hid u9
            clear u9 hk8 jz
            by_cases hsum : sumOf 0 ((b.drop k8).take q) = (s : Int)
            · have hsum2 : (sumOf 0 ((b.drop k8).take q) != (s : Int)) = false := by simpa using hsum
              obtain ⟨aL, j, cL, ps, rfl, ho, _, _, hjk, hscan⟩ := hrel.out
              have HO := Lib.hid (And.intro ho (And.intro hjk hscan))
              have HONE2 : Hid (one? (b.drop k) = some ((b.drop k8).take q, b.drop (k8 + q))) := Lib.hid (by rw [HONE.out, if_pos ⟨by omega, by omega, hsum⟩])
              have FL : Hid (j + 1 ≤ 1000000000) := Lib.hid (by omega)
              have F1 : Hid (q ≤ maxLen) := Lib.hid (by unfold maxLen; omega)
              have F2 : Hid (q * 1 ≤ 140737488355328) := Lib.hid (by omega)
              have HBEL := Lib.hid hbel
              have hlen : Hid (q = ((b.drop k8).take q).length) := Lib.hid (by have := HX.out; have := HM.out; rw [List.length_take, List.length_drop]; omega)
              clear hrel ho hjk hscan
              go_wp2_with fail
              refine G1.mono ?_
              rintro e w2 ⟨rfl, j2, hw2⟩
              have hg2 : Grow wr w2 := by rw [hw2]; exact ⟨rfl, rfl, rfl, Nat.le_refl _, fun _ _ => rfl⟩
              have G2 := HGG.out w2 hg2
              clear G1 hw2
              go_wp2_with fail
              refine G2.mono ?_
              rintro e w3 ⟨rfl, j3, hw3⟩
              have hg3 : Grow wr w3 := hg2.trans (by rw [hw3]; exact ⟨rfl, rfl, rfl, Nat.le_refl _, fun _ _ => rfl⟩)
              have C5 := ref_sum _ q _ w3 (HRD.out w3 hg3) hlen.out (Lib.hid (by omega))
              have HG := Lib.hid hg3
              clear G2 hw3 hg2 hg3
              go_wp2_with fail
              refine C5.mono ?_
              rintro e w4 ⟨rfl, hw4⟩
              subst hw4
              clear C5
              have RD := HRD.out w4 HG.out
              have O4 := HO.out.1.later HG.out
              have B4 : Below w.heap.size w w4 := HBEL.out.trans (HG.out.mono HBEL.out.size)
              have HP := Lib.hid (And.intro RD (And.intro O4 B4))
              clear RD O4 B4
              have hapF : Hid (∀ (w5 : World) (ao5 : Option Addr) (q5 c5 : Nat) (l5 : List UInt8) (o : Obj), Bs w5 w4.heap.size (.slice ao5 q5 c5) q5 l5 → ∀ a, ao5 = some a → some a.block ≠ (Value.slice aL j cL).ownBlock ∧ a.block < (w5.alloc o).heap.size) := Lib.hid fun w5 ao5 q5 c5 l5 o h a ha => by
                subst ha
                have h1 := h.2.lt a.block rfl
                refine ⟨fun e => ?_, by simp; omega⟩
                obtain ⟨_, vs, h2, _⟩ := HP.out.2.1
                have := (h2.lt a.block e.symm).2
                omega
              go_wp2_with (first | (at_builtin; (refine wpList_append_bytes rfl (.tmp 58) (.tmp 66) rfl w4.heap.size _ 0 [] rfl (Bs.empty w4 w4.heap.size (Nat.le_refl _)) (.slice (some bz) q (c - k8)) q _ hlen.out (by first | rfl | simp [Act.eval]) (HP.out.1.alloc _) q (Nat.zero_add q).symm F1 F2 (by simp) ?_); intro ao5 c5 w5 hown5 hb5) | (at_builtin; refine wpList_append_row rfl (.tmp 57) (.tmp 68) rfl w.heap.size (.slice aL j cL) j ps rfl ((HP.out.2.1.later (((Below.refl _ w4).alloc (Nat.le_refl _) _).trans hb5)).later ((Below.refl _ w5).alloc (Nat.le_refl _) _)) ⟨w5.heap.size, 0, none⟩ _ q ao5 c5 hown5.1 rfl (by rw [World.cell?_alloc_mark]; rfl) (hown5.alloc _).reads (hapF.out w5 ao5 q c5 _ _ hown5) F1 (j + 1) rfl FL (Nat.le_trans (Nat.le_trans HP.out.2.2.size (((Below.refl _ w4).alloc (Nat.le_refl _) _).trans hb5 |>.size)) (by simp)) ?_; intro ao6 c6 w6 hown6 hb6))
              have hx := HX.out
              have hb3 : Below w.heap.size w w6 := (HP.out.2.2.trans ((((Below.refl _ w4).alloc (Nat.le_refl _) _).trans hb5).mono HP.out.2.2.size)).trans (((Below.refl _ w5).alloc (Nat.le_trans HP.out.2.2.size (((Below.refl _ w4).alloc (Nat.le_refl _) _).trans hb5 |>.size)) _).trans hb6)
              have hjk := HO.out.2.1
              refine ⟨⟨k8 + q, by simp, Lib.hid ⟨ao6, j + 1, c6, _, rfl, hown6, hb3, by omega, by omega, fun l n h => ?_⟩⟩, by simp only [RowKit.intOf]; omega⟩
              have h2 := HO.out.2.2 _ _ (.more HONE2.out h)
              rw [← hlen.out, show k + (8 + q + n) = k8 + q + n by omega] at h2
              simpa using h2
            · have hsum2 : (sumOf 0 ((b.drop k8).take q) != (s : Int)) = true := by simpa using hsum
              have HS := Lib.hid (scan_stops hrel.out HM.out (by rw [HONE.out, if_neg (fun h => hsum h.2.2)]))
              clear hrel
              go_wp2_with fail
              refine G1.mono ?_
              rintro e w2 ⟨rfl, j2, hw2⟩
              have hg2 : Grow wr w2 := by rw [hw2]; exact ⟨rfl, rfl, rfl, Nat.le_refl _, fun _ _ => rfl⟩
              have G2 := HGG.out w2 hg2
              clear G1 hw2
              go_wp2_with fail
              refine G2.mono ?_
              rintro e w3 ⟨rfl, j3, hw3⟩
              have hg3 : Grow wr w3 := hg2.trans (by rw [hw3]; exact ⟨rfl, rfl, rfl, Nat.le_refl _, fun _ _ => rfl⟩)
              have C5 := ref_sum _ q _ w3 (HRD.out w3 hg3) (by have := HX.out; have := HM.out; rw [List.length_take, List.length_drop]; omega) (Lib.hid (by omega))
              have HG := Lib.hid hg3
              clear G2 hw3 hg2 hg3
              go_wp2_with fail
              refine C5.mono ?_
              rintro e w4 ⟨rfl, hw4⟩
              subst hw4
              clear C5
              go_wp2_with fail
              go_ret2
              exact HS.out _ HG.out
      · have h0 := one_short (b := b) (k := k) (by have := HM.out; omega)
        have G1 := ref_get_in _ m b k wr hrr HM.out hl h4
        have HS := Lib.hid (scan_stops hrel.out HM.out h0)
        clear h0 hrel
        go_wp2_with fail
        refine G1.mono ?_
        rintro e w2 ⟨rfl, j2, hw2⟩
        have hg2 : Grow wr w2 := by rw [hw2]; exact ⟨rfl, rfl, rfl, Nat.le_refl _, fun _ _ => rfl⟩
        have G2 := ref_get_out _ m b ((k : Int) + 4) w2 (hrr.later hg2) HM.out hl (by omega)
        have HG := Lib.hid hg2
        clear hw2 hg2 G1
        go_wp2_with fail
        refine G2.mono ?_
        rintro e w3 ⟨rfl, hw3⟩
        subst hw3
        clear G2
        go_wp2_with fail
        go_ret2
        exact HS.out _ HG.out
    · have h0 := one_short (b := b) (k := k) (by have := HM.out; omega)
      have G1 := ref_get_out _ m b (k : Int) wr hrr HM.out hl (by omega)
      have HS := Lib.hid (scan_stops hrel.out HM.out h0)
      have hg2 : ∃ x : Int × Bool, ∃ j2, True := ⟨(0, true), 0, trivial⟩
      clear h0 hrel hg2
      have C2 : ∃ x ok, Calls Tryz.prog 121 #[.slice ao m c, .int .i64 ((k : Int) + 4)] wr fun e w' => e = .returned (.tuple #[.int .i64 x, .bool ok]) ∧ ∃ j, w' = wr.drewN j := ⟨0, false, (ref_get_out _ m b ((k : Int) + 4) wr hrr HM.out hl (by omega)).mono fun e w' h => ⟨h.1, 0, h.2⟩⟩
      obtain ⟨x, ok, C2⟩ := C2
      go_wp2_with fail
      refine G1.mono ?_
      rintro e w2 ⟨rfl, hw2⟩
      subst hw2
      clear G1
      go_wp2_with fail
      refine C2.mono ?_
      rintro e w3 ⟨rfl, j3, hw3⟩
      clear C2
      go_wp2_with fail
      go_ret2
      subst hw3
      exact HS.out _ ⟨rfl, rfl, rfl, Nat.le_refl _, fun _ _ => rfl⟩
end Go.Proofs.YthcdkggkoanjpaaGreatDoor
