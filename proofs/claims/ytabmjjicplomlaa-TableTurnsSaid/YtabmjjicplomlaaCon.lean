/- slices.Grow of nothing, slices.Concat, bytes.Clone at bytes. Numbers and types by name. -/
import Derived.Test.YtabmjjicplomlaaRws
import Derived.Lib.AppendZerosOnto
import Derived.Lib.SliceRun
namespace Go.Proofs.Ytabmjjicplomlaa
open Go.RowKit Go.Lib

theorem grow_any (n : Nat) (w : World) (hn : Hid (n ≤ 1000000000)) :
    Calls Try.prog 57 #[.slice none 0 0, .int .i64 n] w fun e w' => ∃ ao c, e = .returned (.slice ao 0 c) ∧ Bs w' w.heap.size (.slice ao 0 c) 0 [] ∧ Below w.heap.size w w' := by
  have hn' := hn.out
  rcases Nat.eq_zero_or_pos n with rfl | h0
  · go_enter Try.func57, Try.ntmps57
    go_wp2_with fail
    go_ret
    exact ⟨none, 0, rfl, ⟨rfl, World.ownsRow_nil _ _ _ _⟩, Below.refl _ _⟩
  · obtain ⟨i0, hi, hz0, hz1, hz2⟩ := info_parts info_byte
    have hrz : ∀ ty, (Builtin.append_ #[24, 3] ty #[.slice none 0 0, .int .i64 (n : Int)]).run Try.prog w = .ok (.slice (some ⟨w.heap.size, 0, none⟩) n (grownCap w n 0 5)) (w.drew.alloc (.cells (Builtin.zeroCells (Value.int .u8 0).cells n ++ Builtin.zeroCells (Value.int .u8 0).cells (grownCap w n 0 5 - n)) 5)) := fun ty =>
      Lib.run_append_nil_zeros w 24 3 ty 5 i0 (.int .u8 0) .i64 .i64 Try.underlying24 Try.underlying3 hi hz0 n h0 (by omega) (by omega) (by rw [hz2]; omega)
    have hGn : n ≤ grownCap w n 0 5 := grownCap_ge w _ _ _
    have hGm := grownCap_le_maxLen w n 0 5 (by unfold maxLen; omega)
    obtain ⟨G, hG⟩ : ∃ G, G = grownCap w n 0 5 := ⟨_, rfl⟩
    rw [← hG] at hrz hGn hGm
    obtain ⟨C, hC, hCs⟩ : ∃ C : Array Value, C = Builtin.zeroCells (Value.int .u8 0).cells n ++ Builtin.zeroCells (Value.int .u8 0).cells (G - n) ∧ C.size = G * 1 := ⟨_, rfl, by
      have e : (Value.int .u8 0).cells.size = 1 := rfl
      simp only [Builtin.zeroCells, Array.size_append, Array.size_map, Array.size_range, e]
      omega⟩
    rw [← hC] at hrz
    have HRZ := Lib.hid hrz
    have HG := Lib.hid (And.intro hGm (And.intro hCs hGn))
    have hG63 : G ≤ 9223372036854775807 := by unfold maxLen at hGm; omega
    have e1 : wrap64 ((0 : Int) - 0) = 0 := by rw [Int.sub_zero]; exact wrap64_id _ (by omega)
    have e2 : wrap64 ((n : Int) - 0) = (n : Int) := by rw [Int.sub_zero]; exact wrap64_id _ (by omega)
    have h1 : ¬ ((n : Int) < 0) := by omega
    have h2 : (n : Int) > 0 := by omega
    clear hrz hi hz0 hz1 hz2 hG hC hGm hCs
    go_enter Try.func57, Try.ntmps57
    go_wp2_with (at_builtin; refine Lib.wpList_append_run _ rfl _ _ _ _ rfl _ _ rfl rfl _ _ (HRZ.out _) ?_)
    go_ret
    obtain ⟨hGm, hCs, hGn⟩ := HG.out
    have B := (Below.refl w.heap.size w).alloc (Nat.le_refl _) (.cells C 5)
    exact ⟨_, G, rfl, ⟨rfl, rfl, .inr ⟨w.heap.size, G, C, rfl, Nat.le_refl _, heap_alloc_new w _, Nat.zero_le _, hGm, hCs, rfl⟩⟩, ⟨B.os, B.tape, B.output, B.size, B.block⟩⟩


/-- A list of slices that was built where it is called. -/
theorem bytes_at {L : List (List UInt8)} {k : Nat} : (L.take k).flatten.length ≤ L.flatten.length := by
  have := congrArg (fun l => (List.flatten l).length) (List.take_append_drop k L)
  simp only [List.flatten_append, List.length_append] at this
  omega

set_option maxHeartbeats 2000000 in
theorem concat_any (v : Value) (n : Nat) (L : List (List UInt8)) (w : World) (hr : Rws w v n L) (hl : Hid (n ≤ 1000000 ∧ L.flatten.length ≤ 100000000)) :
    Calls Try.prog 39 #[v] w fun e w' => ∃ ao c, e = .returned (.slice ao L.flatten.length c) ∧ Bs w' w.heap.size (.slice ao L.flatten.length c) L.flatten.length L.flatten ∧ Below w.heap.size w w' := by
  obtain ⟨ao, c, rfl⟩ := hr.shape
  have HR := Lib.hid hr
  have HN := Lib.hid hr.1
  obtain ⟨hn1, hl1⟩ := hl.out
  clear hr
  go_enter Try.func39, Try.ntmps39
  go_wp2_with fail
  go_loopw [3, 11] (fun nv i wr => ∃ k : Nat, k ≤ n ∧ i = .int .i64 k ∧ nv = .int .i64 (((L.take k).flatten.length : Nat) : Int) ∧ w = wr)
    (fun _ i _ => n - (intOf i).toNat)
  case atStart => exact ⟨0, Nat.zero_le _, rfl, rfl, rfl⟩
  case round =>
    obtain ⟨k, hk, rfl, rfl, rfl⟩ := hrel
    have hle := bytes_at (L := L) (k := k)
    by_cases h1 : k < n
    · have h3 : (k : Int) < (n : Int) := by omega
      obtain ⟨a, p, ap, cp, rfl, hp, hc, hrp, hpm⟩ := HR.out.at h1
      have hT := take_more hp
      have hle3 := bytes_at (L := L) (k := k + 1)
      have hsz2 : (L.take (k + 1)).flatten.length = (L.take k).flatten.length + p.length := by rw [hT]; simp
      clear hp hT hrp
      generalize hmm : (L.take k).flatten.length = m at *
      generalize p.length = q at *
      have h5 : ¬ ((m : Int) + (q : Int)) < 0 := by omega
      go_wp2_with fail
      refine ⟨⟨k + 1, by omega, by simp, ?_, trivial⟩, by simp [intOf]; omega⟩
      rw [hsz2]; congr 1
    · have h3 : ¬ (k : Int) < (n : Int) := by omega
      obtain rfl : k = n := by omega
      have hkL : L.take k = L := List.take_of_length_le (by have := HN.out; omega)
      rw [hkL] at hle ⊢
      have HTL : ∃ T, Hid (T = L.flatten.length) := ⟨_, Lib.hid rfl⟩
      obtain ⟨T, HTL⟩ := HTL
      rw [← HTL.out]
      have HG := grow_any T w (Lib.hid (by have := HTL.out; omega))
      clear hle hkL hk h1
      go_wp2_with fail
      refine HG.mono ?_
      rintro e w1 ⟨ao1, c1, rfl, hown, hb⟩
      have HB := Lib.hid (And.intro hown hb)
      clear hown hb HG
      go_wp2_with fail
      go_loopw [6, 27] (fun v i wr => ∃ j : Nat, j ≤ k ∧ i = .int .i64 j ∧ Hid (∃ ao m c, v = .slice ao m c ∧ Bs wr w.heap.size (.slice ao m c) m (L.take j).flatten ∧ Below w.heap.size w wr))
        (fun _ i _ => k - (intOf i).toNat)
      case atStart => exact ⟨0, Nat.zero_le _, rfl, Lib.hid ⟨_, _, _, rfl, HB.out.1, HB.out.2⟩⟩
      case round =>
        obtain ⟨j, hj, rfl, hrel⟩ := hrel
        obtain ⟨ao2, m, c2, rfl, hown, hbel⟩ := hrel.out
        clear HB hrel
        have hm : m = (L.take j).flatten.length := hown.1
        have hle := bytes_at (L := L) (k := j)
        by_cases h1 : j < k
        · have h3 : (j : Int) < (k : Int) := by omega
          obtain ⟨a, p, ap, cp, rfl, hp, hc, hrp, hpm⟩ := (HR.out.later hbel).at h1
          have hT := take_more hp
          have hle3 := bytes_at (L := L) (k := j + 1)
          have hsz2 : (L.take (j + 1)).flatten.length = (L.take j).flatten.length + p.length := by rw [hT]; simp
          have HT := Lib.hid hT
          have HM : Hid (m + p.length ≤ maxLen) := Lib.hid (by unfold maxLen; omega)
          have HM2 : Hid ((m + p.length) * 1 ≤ 140737488355328) := Lib.hid (by omega)
          have HO := Lib.hid (And.intro hown (And.intro hbel hrp))
          clear hp hT hown hbel hle hle3 hsz2 hm hrp
          obtain ⟨q, hq⟩ : ∃ q, q = p.length := ⟨_, rfl⟩
          rw [← hq] at HM HM2 HO hc hpm
          have HQ := Lib.hid hq
          clear hq
          go_wp2_with (at_builtin; refine wpList_append_bytes rfl _ _ rfl w.heap.size _ m _ rfl HO.out.1 _ q p HQ.out rfl HO.out.2.2 (m + q) rfl HM HM2 HO.out.2.1.size ?_; intro ao4 c4 w4 hown4 hb4)
          refine ⟨⟨j + 1, by omega, by simp, Lib.hid ⟨ao4, _, c4, rfl, ?_, HO.out.2.1.trans hb4⟩⟩, by simp [intOf]; omega⟩
          rw [HT.out]
          simpa using hown4
        · have h3 : ¬ (j : Int) < (k : Int) := by omega
          obtain rfl : j = k := by omega
          have hkL : L.take j = L := List.take_of_length_le (by have := HN.out; omega)
          rw [hkL] at hown hm hle
          go_wp2_with fail
          go_ret
          subst hm
          rw [List.length_flatten] at hown
          exact ⟨ao2, c2, rfl, hown, hbel⟩

/-- bytes.Clone of what can be read, where that is not nothing. -/
theorem clone_any (v : Value) (m : Nat) (l : List UInt8) (w : World) (hr : Reads w v (bv l)) (hm : m = l.length) (hl : Hid (m ≤ 1000000000)) :
    Calls Try.prog 46 #[v] w fun e w' => ∃ ao c, e = .returned (.slice ao m c) ∧ Bs w' w.heap.size (.slice ao m c) m l ∧ Below w.heap.size w w' := by
  obtain ⟨ao, c, rfl⟩ : ∃ ao c, v = .slice ao m c := by obtain ⟨ao, c, rfl, _⟩ := hr; exact ⟨ao, c, by rw [bv_length, hm]⟩
  have hl' := hl.out
  have F1 : Hid (m ≤ maxLen) := Lib.hid (by unfold maxLen; omega)
  have F2 : Hid (m * 1 ≤ 140737488355328) := Lib.hid (by omega)
  have q22 : ∀ (w : World) (a : Option Addr) (n c n' c' : Nat), (binOp .eql 24 (.slice a n c) (.slice none n' c')).run Try.prog w = .ok (.bool a.isNone) w := fun w a n c n' c' => Lib.run_eql_slice_nil w _ _ a n c n' c' Try.underlying24
  have HR := Lib.hid (And.intro hr hm)
  clear hr hm
  cases ao with
  | none =>
    obtain ⟨h1, rfl⟩ : l = [] ∧ c = 0 := by
      obtain ⟨ao', c', e, _, hn, _⟩ := HR.out.1
      simp only [Value.slice.injEq] at e
      have := hn e.1.symm
      exact ⟨by simpa [bv] using this.1, by rw [e.2.2]; exact this.2⟩
    subst h1
    obtain rfl : m = 0 := HR.out.2
    go_enter Try.func46, Try.ntmps46
    go_wp2_with fail
    go_ret
    exact ⟨none, 0, rfl, ⟨rfl, World.ownsRow_nil _ _ _ _⟩, Below.refl _ _⟩
  | some a =>
    go_enter Try.func46, Try.ntmps46
    go_wp2_with (at_builtin; refine wpList_append_bytes rfl _ _ rfl w.heap.size _ 0 [] rfl (Bs.empty w w.heap.size (Nat.le_refl _)) _ m l HR.out.2 rfl (HR.out.1.alloc _) m (Nat.zero_add m).symm F1 F2 (by simp) ?_; intro ao5 c5 w5 hown5 hb5)
    go_ret
    exact ⟨ao5, c5, rfl, hown5, ((Below.refl _ w).alloc (Nat.le_refl _) _).trans hb5⟩

end Go.Proofs.Ytabmjjicplomlaa
