/- Frame of the code. Numbers and types by name. -/
import Derived.Test.YthcdkggkoanjpaaGreatDoorOpr
import Derived.Test.YthcdkggkoanjpaaGreatDoorNum
import Derived.Test.YthcdkggkoanjpaaGreatDoorFrp
import Derived.Test.YthcdkggkoanjpaaGreatDoorScr
import Derived.Test.YthcdkggkoanjpaaGreatDoorCop
import Derived.Lib.AppendZerosOnto
import Derived.Lib.SliceRun
namespace Go.Proofs.YthcdkggkoanjpaaGreatDoor
open Go.RowKit Go.Lib
theorem encode_any (v : Value) (n : Nat) (L : List ByteArray) (w : World) (hr : Texts w v n L) (hb : bulk L ≤ 1000000) :
    Calls Tryz.prog 128 #[v] w fun e w' => ∃ ao c, e = .returned (.slice ao (enc L).length c) ∧ Bs w' w.heap.size (.slice ao (enc L).length c) (enc L).length (enc L) ∧ Below w.heap.size w w' := by
  obtain ⟨ao, c, rfl⟩ := hr.shape
  have HR := Lib.hid hr
  have hn := hr.1
  have hlen := encs_length L
  have hnb := bulk_length L
  have HL : Hid ((encs L).length ≤ 5000000 ∧ n = L.length ∧ (enc L).length = 4 + (encs L).length ∧ n ≤ 1000000) := Lib.hid ⟨by omega, hn, by simp [enc, be4_length], by omega⟩
  have hn1 : n ≤ 1000000 := HL.out.2.2.2
  clear hr hlen hnb hb hn
  go_enter Tryz.func128, Tryz.ntmps128
  go_wp2_with fail
  go_loopw [3, 11] (fun nv i wr => ∃ k : Nat, k ≤ n ∧ i = .int .i64 k ∧ nv = .int .i64 ((4 + (encs (L.take k)).length : Nat) : Int) ∧ w = wr)
    (fun _ i _ => n - (intOf i).toNat)
  case atStart => exact ⟨0, Nat.zero_le _, rfl, rfl, rfl⟩
  case round =>
    obtain ⟨k, hk, rfl, rfl, rfl⟩ := hrel
    have hle := encs_take_le L k
    have hle2 := HL.out.1
    by_cases h1 : k < n
    · have h3 : (k : Int) < (n : Int) := by omega
      obtain ⟨a, s, rfl, hs, hc, hsz⟩ := HR.out.at h1
      have hT := encs_take hs
      have hle3 := encs_take_le L (k + 1)
      have hsz2 : (encs (L.take (k + 1))).length = (encs (L.take k)).length + 4 + s.size := by rw [hT]; simp [be4_length]; omega
      have HS := Lib.hid hs
      clear hs hT hsz
      generalize hmm : (encs (L.take k)).length = m at *
      go_wp2_with fail
      refine ⟨⟨k + 1, by omega, by simp, ?_, trivial⟩, by simp [intOf]; omega⟩
      rw [hsz2]; congr 1; omega
    · have h3 : ¬ (k : Int) < (n : Int) := by omega
      obtain rfl : k = n := by omega
      have hkL : L.take k = L := List.take_of_length_le (by have := HL.out.2.1; omega)
      rw [hkL] at hle ⊢
      have HM : Hid (4 + (encs L).length ≤ 140737488355328) := Lib.hid (by omega)
      have HC : Hid ((4 + ((encs L).length : Int)) = ((4 + (encs L).length : Nat) : Int)) := Lib.hid (by omega)
      clear hle hkL hk h1
      go_wp2_with (first | (at_make; refine wpList_make_bytes rfl _ _ rfl w.heap.size (4 + (encs L).length) (4 + ((encs L).length : Int)) rfl rfl HC.out HM (Nat.le_refl _) ?_; intro w1 hown1 hb1 hs1) | (go_at_call 168; refine (append_number w.heap.size _ 0 [] k _ hown1 (by decide) hb1.size).mono ?_; rintro e w2 ⟨ao2, c2, rfl, hown2, hb2⟩))
      have HB := Lib.hid (And.intro hown2 (hb1.trans hb2))
      clear hown1 hb1 hs1 hown2 hb2 HM HC
      go_loopw [6, 28] (fun v i wr => ∃ j : Nat, j ≤ k ∧ i = .int .i64 j ∧ Hid (∃ ao m c, v = .slice ao m c ∧ Bs wr w.heap.size (.slice ao m c) m (be4 k ++ encs (L.take j)) ∧ Below w.heap.size w wr))
        (fun _ i _ => k - (intOf i).toNat)
      case atStart => exact ⟨0, Nat.zero_le _, rfl, Lib.hid ⟨_, _, _, rfl, by simpa [encs] using HB.out.1, HB.out.2⟩⟩
      case round =>
        obtain ⟨j, hj, rfl, hrel⟩ := hrel
        obtain ⟨ao2, m, c2, rfl, hown, hbel⟩ := hrel.out
        clear HB hrel
        have hm : m = 4 + (encs (L.take j)).length := by rw [hown.1]; simp [be4_length]
        have hle := encs_take_le L j
        by_cases h1 : j < k
        · have h3 : (j : Int) < (k : Int) := by omega
          obtain ⟨a, s, rfl, hs, hc, hsz⟩ := (HR.out.below hbel).at h1
          have hT := encs_take hs
          have hle3 := encs_take_le L (j + 1)
          have hsz2 : (encs (L.take (j + 1))).length = (encs (L.take j)).length + 4 + s.size := by rw [hT]; simp [be4_length]; omega
          have HT := Lib.hid hT
          have HM : Hid (m + 4 + s.size ≤ maxLen) := Lib.hid (by unfold maxLen; omega)
          have HM2 : Hid (m + 4 + s.size ≤ 140737488355328) := Lib.hid (by omega)
          have hm2 : m < 100000000 := by omega
          have HO := Lib.hid (And.intro hown hbel)
          clear hs hT hsz hown hbel hle hle3 hsz2 hm
          go_wp2_with (first | (go_at_call 168; refine (append_number w.heap.size _ m _ s.size _ HO.out.1 hm2 HO.out.2.size).mono ?_; rintro e w2 ⟨ao3, c3, rfl, hown3, hb3⟩) | (at_builtin; refine wpList_append_text rfl _ _ rfl w.heap.size _ (m + 4) _ rfl hown3 s rfl (m + 4 + s.size) rfl HM HM2 (HO.out.2.trans hb3).size ?_; intro ao4 c4 w4 hown4 hb4))
          refine ⟨⟨j + 1, by omega, by simp, Lib.hid ⟨ao4, _, c4, rfl, ?_, (HO.out.2.trans hb3).trans hb4⟩⟩, by simp [intOf]; omega⟩
          rw [HT.out]
          simpa [List.append_assoc] using hown4
        · have h3 : ¬ (j : Int) < (k : Int) := by omega
          obtain rfl : j = k := by omega
          have hkL : L.take j = L := List.take_of_length_le (by have := HL.out.2.1; omega)
          rw [hkL] at hown hm hle
          go_wp2_with fail
          go_ret
          have hE := HL.out.2.2.1
          have hjl : j = L.length := HL.out.2.1
          rw [← hE] at hm
          subst hm
          refine ⟨ao2, c2, ?_, ?_, hbel⟩
          · simp [hE]
          · show Bs wr _ _ _ (be4 L.length ++ encs L)
            rw [← hjl]
            exact hown
end Go.Proofs.YthcdkggkoanjpaaGreatDoor
namespace Go.Proofs.YthcdkggkoanjpaaGreatDoor
open Go.RowKit Go.Lib
def Vals (w : World) (vs : List Value) (ps : List (List UInt8)) : Prop :=
  vs.length = ps.length ∧ ∀ (j : Nat) (p : List UInt8), ps[j]? = some p → ∃ ao c, vs[j]? = some (Value.slice ao p.length c) ∧ Reads w (.slice ao p.length c) (bv p) ∧ p.length ≤ maxLen
theorem Rws.of_vals {w : World} {v : Value} {n : Nat} {vs : List Value} {ps : List (List UInt8)} (h : Reads w v vs) (hl : vs.length = n) (k : Vals w vs ps) (hm : n ≤ maxLen) : Rws w v n ps :=
  ⟨by rw [← hl, k.1], hm, vs, h, hl, k.2⟩
theorem frms_snoc (l : List (List UInt8)) (p : List UInt8) : frms (l ++ [p]) = frms l ++ frm p := by simp [frms]
end Go.Proofs.YthcdkggkoanjpaaGreatDoor
namespace Go.Proofs.YthcdkggkoanjpaaGreatDoor
open Go.RowKit Go.Lib
theorem shifted_any (c : BitVec 32) (w : World) :
    Calls Tryz.prog 191 #[.int .u32 (c.toNat : Int)] w fun e w' => e = .returned (.int .u32 ((sh c).toNat : Int)) ∧ w = w' := by
  have hlt := c.isLt
  cases hlow : c.getLsbD 0 with
  | true =>
    have f1 := low_one hlow
    have f2 := step_one hlow
    have f3 : bits .and .u32 3988292384 4294967295 = 3988292384 := by decide
    generalize sh c = d at *
    clear hlow
    go_enter Tryz.func191, Tryz.ntmps191
    go_wp2_with fail
    go_ret
    exact ⟨rfl, rfl⟩
  | false =>
    have f1 := low_none hlow
    have f2 := step_none hlow
    have f3 : bits .and .u32 3988292384 0 = 0 := by decide
    have f4 : bits .xor .u32 ((sh c).toNat : Int) 0 = ((sh c).toNat : Int) := by
      have := bits_xor_u32 (sh c) 0#32
      rw [BitVec.xor_zero] at this
      exact this
    generalize sh c = d at *
    clear hlow
    go_enter Tryz.func191, Tryz.ntmps191
    go_wp2_with fail
    go_ret
    exact ⟨rfl, rfl⟩
theorem more_any (s : Int) (v : Value) (m : Nat) (l : List UInt8) (w : World) (hr : Reads w v (bv l)) (hm : m = l.length) (hl : Hid (m ≤ 1000000000)) :
    Calls Tryz.prog 159 #[.int .i64 s, v] w fun e w' => e = .returned (.int .i64 (sumOf s l)) ∧ w' = w := by
  obtain ⟨ao, c, rfl⟩ : ∃ ao c, v = .slice ao m c := by obtain ⟨ao, c, rfl, _⟩ := hr; exact ⟨ao, c, by rw [bv_length, hm]⟩
  have hb := begun_not s
  have hl' := hl.out
  have HR := Lib.hid (And.intro hr hm)
  clear hr hm
  go_enter Tryz.func159, Tryz.ntmps159
  go_wp2_with fail
  clear hb
  go_loopw [5, 13] (fun cv i wr => ∃ k : Nat, k ≤ m ∧ i = .int .i64 k ∧ cv = .int .u32 ((crc (begun s) (l.take k)).toNat : Int) ∧ w = wr)
    (fun _ i _ => m - (intOf i).toNat)
  case atStart => exact ⟨0, Nat.zero_le _, rfl, rfl, rfl⟩
  case round =>
    obtain ⟨k, hk, rfl, rfl, rfl⟩ := hrel
    by_cases hlt : k < m
    · have h3 : (k : Int) < (m : Int) := by omega
      obtain ⟨x, hx⟩ : ∃ x, l[k]? = some x := ⟨l[k]'(by have := HR.out.2; omega), List.getElem?_eq_getElem (by have := HR.out.2; omega)⟩
      obtain ⟨a, rfl, hc⟩ : ∃ a, ao = some a ∧ w.cell? (a.add k) = some (.int .u8 (x.toNat : Int)) := by
        obtain ⟨ao', c', e, _, hn, h2⟩ := HR.out.1
        simp only [Value.slice.injEq] at e
        obtain ⟨rfl, _, _⟩ := e
        cases ao with
        | none => have := (hn rfl).1; have : l = [] := by simpa [bv] using this
                  subst this; simp at hx
        | some a => exact ⟨a, rfl, h2 a rfl k _ (by simp [bv, hx])⟩
      have hxor := byte_xor (crc (begun s) (l.take k)) x
      have HN := Lib.hid (crc_take (begun s) hx)
      have hx256 := x.toNat_lt
      clear hx
      generalize crc (begun s) (l.take k) = c0 at *
      generalize hd : c0 ^^^ BitVec.ofNat 32 x.toNat = d at *
      have HD := Lib.hid hd
      clear hd
      go_wp2_with fail
      clear hxor hc
      go_loopw [5, 21] (fun cv i wr => ∃ j : Nat, j ≤ 8 ∧ i = .int .i64 j ∧ cv = .int .u32 ((shs j d).toNat : Int) ∧ w = wr)
        (fun _ i _ => 8 - (intOf i).toNat)
      case atStart => exact ⟨0, by omega, rfl, rfl, rfl⟩
      case round =>
        obtain ⟨j, hj, rfl, rfl, rfl⟩ := hrel
        by_cases hj8 : j < 8
        · have h4 : (j : Int) < 8 := by omega
          have hsucc := shs_succ j d
          have HS := Lib.hid hsucc
          clear hsucc
          go_wp2_with fail
          refine (shifted_any (shs j d) w).mono ?_
          rintro e w' ⟨rfl, rfl⟩
          rw [← HS.out]
          go_wp2_with fail
          exact ⟨⟨j + 1, by omega, by simp, rfl, trivial⟩, by simp [intOf]; omega⟩
        · obtain rfl : j = 8 := by omega
          go_wp2_with fail
          refine ⟨⟨k + 1, by omega, by simp, ?_, trivial⟩, by simp [intOf]; omega⟩
          rw [HN.out]
          unfold feed
          rw [HD.out]
    · obtain rfl : k = m := by omega
      have h3 : ¬ (k : Int) < (k : Int) := by omega
      have hk2 : l.take k = l := List.take_of_length_le (by have := HR.out.2; omega)
      rw [hk2]
      have he := ended_not (crc (begun s) l)
      have hbd := sumOf_bound s l
      rw [show ((crc (begun s) l ^^^ ones).toNat : Int) = sumOf s l from rfl] at he
      have hwz : wrap64 (sumOf s l) = sumOf s l := by unfold wrap64; omega
      generalize hz : sumOf s l = z at *
      have HZ := Lib.hid hz
      clear hbd hz
      go_wp2_with fail
      go_ret
      rw [HZ.out]
      exact ⟨rfl, rfl⟩
theorem sum_any (v : Value) (m : Nat) (l : List UInt8) (w : World) (hr : Reads w v (bv l)) (hm : m = l.length) (hl : Hid (m ≤ 1000000000)) :
    Calls Tryz.prog 112 #[v] w fun e w' => e = .returned (.int .i64 (sumOf 0 l)) ∧ w' = w := by
  have G := more_any 0 v m l w hr hm hl
  go_enter Tryz.func112, Tryz.ntmps112
  go_wp2_with (go_at_call 159; refine G.mono ?_; rintro e w' ⟨rfl, rfl⟩)
  go_ret
  first | exact rfl | exact ⟨rfl, rfl⟩
end Go.Proofs.YthcdkggkoanjpaaGreatDoor
namespace Go.Proofs.YthcdkggkoanjpaaGreatDoor
open Go.RowKit Go.Lib
theorem grow_any (n : Nat) (w : World) (hn : Hid (n ≤ 1000000000)) :
    Calls Tryz.prog 201 #[.slice none 0 0, .int .i64 n] w fun e w' => ∃ ao c, e = .returned (.slice ao 0 c) ∧ Bs w' w.heap.size (.slice ao 0 c) 0 [] ∧ Below w.heap.size w w' := by
  have hn' := hn.out
  rcases Nat.eq_zero_or_pos n with rfl | h0
  · go_enter Tryz.func201, Tryz.ntmps201
    go_wp2_with fail
    go_ret
    exact ⟨none, 0, rfl, ⟨rfl, World.ownsRow_nil _ _ _ _⟩, Below.refl _ _⟩
  · obtain ⟨i0, hi, hz0, hz1, hz2⟩ := info_parts info_byte
    have hrz : ∀ ty, (Builtin.append_ #[24, 3] ty #[.slice none 0 0, .int .i64 (n : Int)]).run Tryz.prog w = .ok (.slice (some ⟨w.heap.size, 0, none⟩) n (grownCap w n 0 5)) (w.drew.alloc (.cells (Builtin.zeroCells (Value.int .u8 0).cells n ++ Builtin.zeroCells (Value.int .u8 0).cells (grownCap w n 0 5 - n)) 5)) := fun ty =>
      Lib.run_append_nil_zeros w 24 3 ty 5 i0 (.int .u8 0) .i64 .i64 Tryz.underlying24 Tryz.underlying3 hi hz0 n h0 (by omega) (by omega) (by rw [hz2]; omega)
    have hGn : n ≤ grownCap w n 0 5 := grownCap_ge w _ _ _
    have hGm := grownCap_le_maxLen w n 0 5 (by unfold maxLen; omega)
    obtain ⟨G, hG⟩ : ∃ G, G = grownCap w n 0 5 := ⟨_, rfl⟩
    rw [← hG] at hrz hGn hGm
    obtain ⟨C, hC, hCs⟩ : ∃ C : Array Value, C = Builtin.zeroCells (Value.int .u8 0).cells n ++ Builtin.zeroCells (Value.int .u8 0).cells (G - n) ∧ C.size = G * 1 := ⟨_, rfl, by
      have e : (Value.int .u8 0).cells.size = 1 := rfl
      simp only [Builtin.zeroCells, Array.size_append, Array.size_map, Array.size_range, e]
      omega⟩
    rw [← hC] at hrz
    have HRZ := Lib.hid hrz
    have HG := Lib.hid (And.intro hGm (And.intro hCs hGn))
    have hG63 : G ≤ 9223372036854775807 := by unfold maxLen at hGm; omega
    have e1 : wrap64 ((0 : Int) - 0) = 0 := by rw [Int.sub_zero]; exact wrap64_id _ (by omega)
    have e2 : wrap64 ((n : Int) - 0) = (n : Int) := by rw [Int.sub_zero]; exact wrap64_id _ (by omega)
    have h1 : ¬ ((n : Int) < 0) := by omega
    have h2 : (n : Int) > 0 := by omega
    clear hrz hi hz0 hz1 hz2 hG hC hGm hCs
    go_enter Tryz.func201, Tryz.ntmps201
    go_wp2_with (at_builtin; refine Lib.wpList_append_run _ rfl _ _ _ _ rfl _ _ rfl rfl _ _ (HRZ.out _) ?_)
    go_ret
    obtain ⟨hGm, hCs, hGn⟩ := HG.out
    have B := (Below.refl w.heap.size w).alloc (Nat.le_refl _) (.cells C 5)
    exact ⟨_, G, rfl, ⟨rfl, rfl, .inr ⟨w.heap.size, G, C, rfl, Nat.le_refl _, heap_alloc_new w _, Nat.zero_le _, hGm, hCs, rfl⟩⟩, ⟨B.os, B.tape, B.output, B.size, B.block⟩⟩
theorem bytes_at {L : List (List UInt8)} {k : Nat} : (L.take k).flatten.length ≤ L.flatten.length := by
  have := congrArg (fun l => (List.flatten l).length) (List.take_append_drop k L)
  simp only [List.flatten_append, List.length_append] at this
  omega
set_option maxHeartbeats 2000000 in
theorem concat_any (v : Value) (n : Nat) (L : List (List UInt8)) (w : World) (hr : Rws w v n L) (hl : Hid (n ≤ 1000000 ∧ L.flatten.length ≤ 100000000)) :
    Calls Tryz.prog 166 #[v] w fun e w' => ∃ ao c, e = .returned (.slice ao L.flatten.length c) ∧ Bs w' w.heap.size (.slice ao L.flatten.length c) L.flatten.length L.flatten ∧ Below w.heap.size w w' := by
  obtain ⟨ao, c, rfl⟩ := hr.shape
  have HR := Lib.hid hr
  have HN := Lib.hid hr.1
  obtain ⟨hn1, hl1⟩ := hl.out
  clear hr
  go_enter Tryz.func166, Tryz.ntmps166
  go_wp2_with fail
  go_loopw [3, 11] (fun nv i wr => ∃ k : Nat, k ≤ n ∧ i = .int .i64 k ∧ nv = .int .i64 (((L.take k).flatten.length : Nat) : Int) ∧ w = wr)
    (fun _ i _ => n - (intOf i).toNat)
  case atStart => exact ⟨0, Nat.zero_le _, rfl, rfl, rfl⟩
  case round =>
    obtain ⟨k, hk, rfl, rfl, rfl⟩ := hrel
    have hle := bytes_at (L := L) (k := k)
    by_cases h1 : k < n
    · have h3 : (k : Int) < (n : Int) := by omega
      obtain ⟨a, p, ap, cp, rfl, hp, hc, hrp, hpm⟩ := HR.out.at h1
      have hT := take_more hp
      have hle3 := bytes_at (L := L) (k := k + 1)
      have hsz2 : (L.take (k + 1)).flatten.length = (L.take k).flatten.length + p.length := by rw [hT]; simp
      clear hp hT hrp
      generalize hmm : (L.take k).flatten.length = m at *
      generalize p.length = q at *
      have h5 : ¬ ((m : Int) + (q : Int)) < 0 := by omega
      go_wp2_with fail
      refine ⟨⟨k + 1, by omega, by simp, ?_, trivial⟩, by simp [intOf]; omega⟩
      rw [hsz2]; congr 1
    · have h3 : ¬ (k : Int) < (n : Int) := by omega
      obtain rfl : k = n := by omega
      have hkL : L.take k = L := List.take_of_length_le (by have := HN.out; omega)
      rw [hkL] at hle ⊢
      have HTL : ∃ T, Hid (T = L.flatten.length) := ⟨_, Lib.hid rfl⟩
      obtain ⟨T, HTL⟩ := HTL
      rw [← HTL.out]
      have HG := grow_any T w (Lib.hid (by have := HTL.out; omega))
      clear hle hkL hk h1
      go_wp2_with fail
      refine HG.mono ?_
      rintro e w1 ⟨ao1, c1, rfl, hown, hb⟩
      have HB := Lib.hid (And.intro hown hb)
      clear hown hb HG
      go_wp2_with fail
      go_loopw [6, 27] (fun v i wr => ∃ j : Nat, j ≤ k ∧ i = .int .i64 j ∧ Hid (∃ ao m c, v = .slice ao m c ∧ Bs wr w.heap.size (.slice ao m c) m (L.take j).flatten ∧ Below w.heap.size w wr))
        (fun _ i _ => k - (intOf i).toNat)
      case atStart => exact ⟨0, Nat.zero_le _, rfl, Lib.hid ⟨_, _, _, rfl, HB.out.1, HB.out.2⟩⟩
      case round =>
        obtain ⟨j, hj, rfl, hrel⟩ := hrel
        obtain ⟨ao2, m, c2, rfl, hown, hbel⟩ := hrel.out
        clear HB hrel
        have hm : m = (L.take j).flatten.length := hown.1
        have hle := bytes_at (L := L) (k := j)
        by_cases h1 : j < k
        · have h3 : (j : Int) < (k : Int) := by omega
          obtain ⟨a, p, ap, cp, rfl, hp, hc, hrp, hpm⟩ := (HR.out.later hbel).at h1
          have hT := take_more hp
          have hle3 := bytes_at (L := L) (k := j + 1)
          have hsz2 : (L.take (j + 1)).flatten.length = (L.take j).flatten.length + p.length := by rw [hT]; simp
          have HT := Lib.hid hT
          have HM : Hid (m + p.length ≤ maxLen) := Lib.hid (by unfold maxLen; omega)
          have HM2 : Hid ((m + p.length) * 1 ≤ 140737488355328) := Lib.hid (by omega)
          have HO := Lib.hid (And.intro hown (And.intro hbel hrp))
          clear hp hT hown hbel hle hle3 hsz2 hm hrp
          obtain ⟨q, hq⟩ : ∃ q, q = p.length := ⟨_, rfl⟩
          rw [← hq] at HM HM2 HO hc hpm
          have HQ := Lib.hid hq
          clear hq
          go_wp2_with (at_builtin; refine wpList_append_bytes rfl _ _ rfl w.heap.size _ m _ rfl HO.out.1 _ q p HQ.out rfl HO.out.2.2 (m + q) rfl HM HM2 HO.out.2.1.size ?_; intro ao4 c4 w4 hown4 hb4)
          refine ⟨⟨j + 1, by omega, by simp, Lib.hid ⟨ao4, _, c4, rfl, ?_, HO.out.2.1.trans hb4⟩⟩, by simp [intOf]; omega⟩
          rw [HT.out]
          simpa using hown4
        · have h3 : ¬ (j : Int) < (k : Int) := by omega
          obtain rfl : j = k := by omega
          have hkL : L.take j = L := List.take_of_length_le (by have := HN.out; omega)
          rw [hkL] at hown hm hle
          go_wp2_with fail
          go_ret
          subst hm
          rw [List.length_flatten] at hown
          exact ⟨ao2, c2, rfl, hown, hbel⟩
theorem clone_any (v : Value) (m : Nat) (l : List UInt8) (w : World) (hr : Reads w v (bv l)) (hm : m = l.length) (hl : Hid (m ≤ 1000000000)) :
    Calls Tryz.prog 155 #[v] w fun e w' => ∃ ao c, e = .returned (.slice ao m c) ∧ Bs w' w.heap.size (.slice ao m c) m l ∧ Below w.heap.size w w' := by
  obtain ⟨ao, c, rfl⟩ : ∃ ao c, v = .slice ao m c := by obtain ⟨ao, c, rfl, _⟩ := hr; exact ⟨ao, c, by rw [bv_length, hm]⟩
  have hl' := hl.out
  have F1 : Hid (m ≤ maxLen) := Lib.hid (by unfold maxLen; omega)
  have F2 : Hid (m * 1 ≤ 140737488355328) := Lib.hid (by omega)
  have q22 : ∀ (w : World) (a : Option Addr) (n c n' c' : Nat), (binOp .eql 24 (.slice a n c) (.slice none n' c')).run Tryz.prog w = .ok (.bool a.isNone) w := fun w a n c n' c' => Lib.run_eql_slice_nil w _ _ a n c n' c' Tryz.underlying24
  have HR := Lib.hid (And.intro hr hm)
  clear hr hm
  cases ao with
  | none =>
    obtain ⟨h1, rfl⟩ : l = [] ∧ c = 0 := by
      obtain ⟨ao', c', e, _, hn, _⟩ := HR.out.1
      simp only [Value.slice.injEq] at e
      have := hn e.1.symm
      exact ⟨by simpa [bv] using this.1, by rw [e.2.2]; exact this.2⟩
    subst h1
    obtain rfl : m = 0 := HR.out.2
    go_enter Tryz.func155, Tryz.ntmps155
    go_wp2_with fail
    go_ret
    exact ⟨none, 0, rfl, ⟨rfl, World.ownsRow_nil _ _ _ _⟩, Below.refl _ _⟩
  | some a =>
    go_enter Tryz.func155, Tryz.ntmps155
    go_wp2_with (at_builtin; refine wpList_append_bytes rfl _ _ rfl w.heap.size _ 0 [] rfl (Bs.empty w w.heap.size (Nat.le_refl _)) _ m l HR.out.2 rfl (HR.out.1.alloc _) m (Nat.zero_add m).symm F1 F2 (by simp) ?_; intro ao5 c5 w5 hown5 hb5)
    go_ret
    exact ⟨ao5, c5, rfl, hown5, ((Below.refl _ w).alloc (Nat.le_refl _) _).trans hb5⟩
end Go.Proofs.YthcdkggkoanjpaaGreatDoor
namespace Go.Proofs.YthcdkggkoanjpaaGreatDoor
open Go.RowKit Go.Lib
theorem frame_any (v : Value) (m : Nat) (p : List UInt8) (w : World) (hr : Reads w v (bv p)) (hm : m = p.length) (hl : m ≤ 1048576) :
    Calls Tryz.prog 127 #[v] w fun e w' => ∃ ao c, e = .returned (.tuple #[.slice ao (m + 8) c, .int .i64 0]) ∧ Bs w' w.heap.size (.slice ao (m + 8) c) (m + 8) (frm p) ∧ Below w.heap.size w w' := by
  obtain ⟨a1, c1, rfl⟩ : ∃ ao c, v = .slice ao m c := by obtain ⟨ao, c, rfl, _⟩ := hr; exact ⟨ao, c, by rw [bv_length, hm]⟩
  have h1 : ¬ (1048576 : Int) < (m : Int) := by omega
  have L : Hid (m ≤ 1000000000) := Lib.hid (by omega)
  have HR := Lib.hid (And.intro hr hm)
  clear hr hm hl
  go_enter Tryz.func127, Tryz.ntmps127
  go_wp2_with fail
  refine (u32_any (m : Int) w).mono ?_
  rintro e w1 ⟨ao2, c2, rfl, hown2, hb2⟩
  go_wp2_with fail
  refine (sum_any _ m p w1 (HR.out.1.later hb2) HR.out.2 L).mono ?_
  rintro e w1' ⟨rfl, hw1⟩
  subst hw1
  go_wp2_with fail
  refine (u32_any (sumOf 0 p) w1').mono ?_
  rintro e w3 ⟨ao3, c3, rfl, hown3, hb3⟩
  have HL3 : Hid (Rws (w3.alloc (.cells #[.slice ao2 4 c2, .slice ao3 4 c3, .slice a1 m c1] 24)) (.slice (some ⟨w3.heap.size, 0, none⟩) 3 3) 3 [be4 (m : Int), be4 (sumOf 0 p), p]) := Lib.hid (by
    have R2 := ((hown2.below hb3 (Nat.le_refl _)).alloc (.cells #[.slice ao2 4 c2, .slice ao3 4 c3, .slice a1 m c1] 24)).reads
    have R3 := (hown3.alloc (.cells #[.slice ao2 4 c2, .slice ao3 4 c3, .slice a1 m c1] 24)).reads
    have R1 := (HR.out.1.later (hb2.trans (hb3.mono hb2.size))).alloc (.cells #[.slice ao2 4 c2, .slice ao3 4 c3, .slice a1 m c1] 24)
    have hm := HR.out.2
    have L' := L.out
    refine Rws.of_vals (Reads.lit w3 [.slice ao2 4 c2, .slice ao3 4 c3, .slice a1 m c1] 24 _ 3 rfl) rfl ⟨rfl, fun j q hj => ?_⟩ (by unfold maxLen; decide)
    rcases j with _ | _ | _ | j
    · simp at hj; subst hj; exact ⟨ao2, c2, by rw [be4_length]; rfl, by rw [be4_length]; exact R2, by rw [be4_length]; unfold maxLen; decide⟩
    · simp at hj; subst hj; exact ⟨ao3, c3, by rw [be4_length]; rfl, by rw [be4_length]; exact R3, by rw [be4_length]; unfold maxLen; decide⟩
    · simp at hj; subst hj; exact ⟨a1, c1, by rw [← hm]; rfl, by rw [← hm]; exact R1, by rw [← hm]; unfold maxLen; omega⟩
    · simp at hj)
  have HL4 : Hid ([be4 (m : Int), be4 (sumOf 0 p), p].flatten.length = m + 8 ∧ [be4 (m : Int), be4 (sumOf 0 p), p].flatten = frm p) := Lib.hid (by
    have hm := HR.out.2
    refine ⟨by simp [be4_length]; omega, ?_⟩
    unfold frm
    rw [← hm]
    simp)
  have HB := Lib.hid ((hb2.trans (hb3.mono hb2.size)).trans ((Below.refl w.heap.size w3).alloc (Nat.le_trans hb2.size hb3.size) (.cells #[.slice ao2 4 c2, .slice ao3 4 c3, .slice a1 m c1] 24)))
  have HC := concat_any _ 3 _ _ HL3.out (Lib.hid ⟨by omega, by rw [HL4.out.1]; have := L.out; omega⟩)
  rw [HL4.out.1, HL4.out.2] at HC
  clear hown2 hown3 hb2 hb3 HL3 HL4
  go_wp2_with fail
  refine HC.mono ?_
  rintro e w5 ⟨ao5, c5, rfl, hown5, hb5⟩
  have HB5 := Lib.hid (And.intro (hown5.base HB.out.size) (HB.out.trans (hb5.mono HB.out.size)))
  clear hown5 hb5 HC
  go_wp2_with fail
  go_ret2
  exact ⟨ao5, c5, rfl, HB5.out.1, HB5.out.2⟩
end Go.Proofs.YthcdkggkoanjpaaGreatDoor
