/- slices.Grow of nothing, slices.Concat, slices.Clone at ops. Numbers and types by name. -/
import Derived.Test.YtabmjjicplomlaaOpr
import Derived.Test.YtabmjjicplomlaaGen
import Derived.Lib.AppendZerosOnto
import Derived.Lib.SliceRun
namespace Go.Proofs.Ytabmjjicplomlaa
open Go.RowKit Go.Lib

def zeroOp : Value := .agg #[.bool false, .string ⟨#[]⟩, .string ⟨#[]⟩]

theorem grow_ops (n : Nat) (w : World) (hn : Hid (n ≤ 1000000000)) :
    Calls Try.prog 50 #[.slice none 0 0, .int .i64 n] w fun e w' => ∃ ao c, e = .returned (.slice ao 0 c) ∧ w'.ownsRow w.heap.size 45 3 (.slice ao 0 c) 0 [] ∧ Below w.heap.size w w' := by
  have hn' := hn.out
  rcases Nat.eq_zero_or_pos n with rfl | h0
  · go_enter Try.func50, Try.ntmps50
    go_wp2_with fail
    go_ret
    exact ⟨none, 0, rfl, World.ownsRow_nil _ _ _ _, Below.refl _ _⟩
  · obtain ⟨i0, hi, hz0, hz1, hz2⟩ := info_parts elemOp.info
    have hrz : ∀ ty, (Builtin.append_ #[23, 3] ty #[.slice none 0 0, .int .i64 (n : Int)]).run Try.prog w = .ok (.slice (some ⟨w.heap.size, 0, none⟩) n (grownCap w n 0 45)) (w.drew.alloc (.cells (Builtin.zeroCells zeroOp.cells n ++ Builtin.zeroCells zeroOp.cells (grownCap w n 0 45 - n)) 45)) := fun ty =>
      Lib.run_append_nil_zeros w 23 3 ty 45 i0 zeroOp .i64 .i64 Try.underlying23 Try.underlying3 hi hz0 n h0 (by omega) (by omega) (by rw [hz2]; omega)
    have hGn : n ≤ grownCap w n 0 45 := grownCap_ge w _ _ _
    have hGm := grownCap_le_maxLen w n 0 45 (by unfold maxLen; omega)
    obtain ⟨G, hG⟩ : ∃ G, G = grownCap w n 0 45 := ⟨_, rfl⟩
    rw [← hG] at hrz hGn hGm
    obtain ⟨C, hC, hCs⟩ : ∃ C : Array Value, C = Builtin.zeroCells zeroOp.cells n ++ Builtin.zeroCells zeroOp.cells (G - n) ∧ C.size = G * 3 := ⟨_, rfl, by
      have e : zeroOp.cells.size = 3 := rfl
      rw [Array.size_append, size_zeroCells, size_zeroCells, e]
      omega⟩
    rw [← hC] at hrz
    have HRZ := Lib.hid hrz
    have HG := Lib.hid (And.intro hGm (And.intro hCs hGn))
    have hG63 : G ≤ 9223372036854775807 := by unfold maxLen at hGm; omega
    have e1 : wrap64 ((0 : Int) - 0) = 0 := by rw [Int.sub_zero]; exact wrap64_id _ (by omega)
    have e2 : wrap64 ((n : Int) - 0) = (n : Int) := by rw [Int.sub_zero]; exact wrap64_id _ (by omega)
    have h1 : ¬ ((n : Int) < 0) := by omega
    have h2 : (n : Int) > 0 := by omega
    clear hrz hi hz0 hz1 hz2 hG hC hGm hCs
    go_enter Try.func50, Try.ntmps50
    go_wp2_with (at_builtin; refine Lib.wpList_append_run _ rfl _ _ _ _ rfl _ _ rfl rfl _ _ (HRZ.out _) ?_)
    go_ret
    obtain ⟨hGm, hCs, hGn⟩ := HG.out
    have B := (Below.refl w.heap.size w).alloc (Nat.le_refl _) (.cells C 45)
    exact ⟨_, G, rfl, ⟨rfl, .inr ⟨w.heap.size, G, C, rfl, Nat.le_refl _, heap_alloc_new w _, Nat.zero_le _, hGm, hCs, by simp⟩⟩, ⟨B.os, B.tape, B.output, B.size, B.block⟩⟩



theorem ovs_append (A B : List Opm) : ovs (A ++ B) = ovs A ++ ovs B := by simp [ovs]
theorem ovs_one (A : List Opm) : ∀ u ∈ ovs A, u.oneCell' = true := by
  intro u hu
  obtain ⟨o, _, ho⟩ := List.mem_flatMap.1 hu
  simp only [ov, List.mem_cons, List.not_mem_nil, or_false] at ho
  rcases ho with rfl | rfl | rfl <;> rfl

/-- A list of lists of ops can be read. -/
def Lops (w : World) (v : Value) (n : Nat) (L : List (List Opm)) : Prop := n = L.length ∧ ∃ vs : List Value, Reads w v vs ∧ vs.length = n ∧ ∀ (k : Nat) (u : Value), vs[k]? = some u → ∃ (q : Nat) (l : List Opm), L[k]? = some l ∧ Opr w u q l
theorem Lops.shape {w : World} {v : Value} {n : Nat} {L : List (List Opm)} (h : Lops w v n L) : ∃ ao c, v = .slice ao n c := by
  obtain ⟨rfl, vs, ⟨ao, c, rfl, _⟩, hl, _⟩ := h
  exact ⟨ao, c, by rw [hl]⟩
theorem Lops.later {w w' : World} {v : Value} {n : Nat} {L : List (List Opm)} (h : Lops w v n L) (hg : Grow w w') : Lops w' v n L := by
  obtain ⟨h1, vs, h2, h3, h4⟩ := h
  exact ⟨h1, vs, h2.later hg, h3, fun k u hu => by obtain ⟨q, l, a, b⟩ := h4 k u hu; exact ⟨q, l, a, b.later hg⟩⟩
theorem Lops.at {w : World} {ao : Option Addr} {n c : Nat} {L : List (List Opm)} (h : Lops w (.slice ao n c) n L) {k : Nat} (hk : k < n) :
    ∃ a q l au cu, ao = some a ∧ L[k]? = some l ∧ w.cell? (a.add k) = some (.slice au q cu) ∧ Opr w (.slice au q cu) q l := by
  obtain ⟨h1, vs, ⟨ao', c', e, _, hn, hc⟩, h3, h4⟩ := h
  simp only [Value.slice.injEq] at e
  obtain ⟨rfl, _, _⟩ := e
  obtain ⟨u, hu⟩ : ∃ u, vs[k]? = some u := ⟨_, List.getElem?_eq_getElem (by omega)⟩
  obtain ⟨q, l, hl, ho⟩ := h4 k u hu
  obtain ⟨au, cu, rfl⟩ := ho.shape
  cases ao with
  | none => have := (hn rfl).1; subst this; cases hu
  | some a => exact ⟨a, q, l, au, cu, rfl, hl, hc a rfl k _ hu, ho⟩
theorem opsl_at {L : List (List Opm)} {k : Nat} : (L.take k).flatten.length ≤ L.flatten.length := by
  have := congrArg (fun l => (List.flatten l).length) (List.take_append_drop k L)
  simp only [List.flatten_append, List.length_append] at this
  omega
theorem take_moreo {L : List (List Opm)} {k : Nat} {p : List Opm} (h : L[k]? = some p) : (L.take (k + 1)).flatten = (L.take k).flatten ++ p := by
  rw [take_next h, List.flatten_append]; simp

set_option maxHeartbeats 2000000 in
theorem concat_ops (v : Value) (n : Nat) (L : List (List Opm)) (w : World) (hr : Lops w v n L) (hl : Hid (n ≤ 1000 ∧ L.flatten.length ≤ 1000000)) :
    Calls Try.prog 32 #[v] w fun e w' => ∃ ao c, e = .returned (.slice ao L.flatten.length c) ∧ w'.ownsRow w.heap.size 45 3 (.slice ao L.flatten.length c) L.flatten.length (ovs L.flatten) ∧ Below w.heap.size w w' := by
  obtain ⟨ao, c, rfl⟩ := hr.shape
  have HR := Lib.hid hr
  have HN := Lib.hid hr.1
  obtain ⟨hn1, hl1⟩ := hl.out
  clear hr
  go_enter Try.func32, Try.ntmps32
  go_wp2_with fail
  go_loopw [3, 11] (fun nv i wr => ∃ k : Nat, k ≤ n ∧ i = .int .i64 k ∧ nv = .int .i64 (((L.take k).flatten.length : Nat) : Int) ∧ w = wr)
    (fun _ i _ => n - (intOf i).toNat)
  case atStart => exact ⟨0, Nat.zero_le _, rfl, rfl, rfl⟩
  case round =>
    obtain ⟨k, hk, rfl, rfl, rfl⟩ := hrel
    have hle := opsl_at (L := L) (k := k)
    by_cases h1 : k < n
    · have h3 : (k : Int) < (n : Int) := by omega
      obtain ⟨a, q, p, ap, cp, rfl, hp, hc, hrp⟩ := HR.out.at h1
      have hpq : q = p.length := hrp.1
      have hT := take_moreo hp
      have hle3 := opsl_at (L := L) (k := k + 1)
      have hsz2 : (L.take (k + 1)).flatten.length = (L.take k).flatten.length + q := by rw [hT, List.length_append, ← hpq]
      clear hp hT hrp hpq
      generalize hmm : (L.take k).flatten.length = m at *
      have h5 : ¬ ((m : Int) + (q : Int)) < 0 := by omega
      go_wp2_with fail
      refine ⟨⟨k + 1, by omega, by simp, ?_, trivial⟩, by simp [intOf]; omega⟩
      rw [hsz2]; congr 1
    · have h3 : ¬ (k : Int) < (n : Int) := by omega
      obtain rfl : k = n := by omega
      have hkL : L.take k = L := List.take_of_length_le (by have := HN.out; omega)
      rw [hkL] at hle ⊢
      have HTL : ∃ T, Hid (T = L.flatten.length) := ⟨_, Lib.hid rfl⟩
      obtain ⟨T, HTL⟩ := HTL
      rw [← HTL.out]
      have HG := grow_ops T w (Lib.hid (by have := HTL.out; omega))
      clear hle hkL hk h1
      go_wp2_with fail
      refine HG.mono ?_
      rintro e w1 ⟨ao1, c1, rfl, hown, hb⟩
      have HB := Lib.hid (And.intro hown hb)
      clear hown hb HG
      go_wp2_with fail
      go_loopw [6, 27] (fun v i wr => ∃ j : Nat, j ≤ k ∧ i = .int .i64 j ∧ Hid (∃ ao m c, v = .slice ao m c ∧ m = (L.take j).flatten.length ∧ wr.ownsRow w.heap.size 45 3 (.slice ao m c) m (ovs (L.take j).flatten) ∧ Below w.heap.size w wr))
        (fun _ i _ => k - (intOf i).toNat)
      case atStart => exact ⟨0, Nat.zero_le _, rfl, Lib.hid ⟨_, _, _, rfl, rfl, HB.out.1, HB.out.2⟩⟩
      case round =>
        obtain ⟨j, hj, rfl, hrel⟩ := hrel
        obtain ⟨ao2, m, c2, rfl, hm, hown, hbel⟩ := hrel.out
        clear HB hrel
        have hle := opsl_at (L := L) (k := j)
        by_cases h1 : j < k
        · have h3 : (j : Int) < (k : Int) := by omega
          obtain ⟨a, q, p, ap, cp, rfl, hp, hc, hrp⟩ := (HR.out.later hbel).at h1
          have hT := take_moreo hp
          have hle3 := opsl_at (L := L) (k := j + 1)
          have hsz2 : (L.take (j + 1)).flatten.length = (L.take j).flatten.length + p.length := by rw [hT]; simp
          have HT := Lib.hid hT
          have hpq : q = p.length := hrp.1
          have HM : Hid (m + q ≤ 1000000) := Lib.hid (by omega)
          have HO := Lib.hid (And.intro hown (And.intro hbel (And.intro hrp hm)))
          clear hp hT hown hbel hle hle3 hsz2 hm hrp hpq
          go_wp2_with (at_builtin; refine wpList_append_gen elemOp rfl _ _ rfl w.heap.size _ m _ rfl HO.out.1 _ q _ rfl HO.out.2.2.1.2.2.1 (ovs_one p) (m + q) rfl HM (by decide) HO.out.2.1.size ?_; intro ao4 c4 w4 hown4 hb4 _ _)
          refine ⟨⟨j + 1, by omega, by simp, Lib.hid ⟨ao4, _, c4, rfl, ?_, ?_, HO.out.2.1.trans hb4⟩⟩, by simp [intOf]; omega⟩
          · rw [HT.out, List.length_append, ← HO.out.2.2.2, HO.out.2.2.1.1]
          · rw [HT.out, ovs_append]
            exact hown4
        · have h3 : ¬ (j : Int) < (k : Int) := by omega
          obtain rfl : j = k := by omega
          have hkL : L.take j = L := List.take_of_length_le (by have := HN.out; omega)
          rw [hkL] at hown hm hle
          have HOB := Lib.hid (And.intro hown hbel)
          have hm' := Lib.hid hm
          clear hown hbel hm
          go_wp2_with fail
          go_ret
          obtain rfl := hm'.out
          refine ⟨ao2, c2, ?_, ?_, HOB.out.2⟩
          · rw [← List.length_flatten]; rfl
          · rw [← List.length_flatten]; exact HOB.out.1


set_option maxHeartbeats 2000000 in
/-- slices.Clone of ops that can be read. -/
theorem clone_ops (v : Value) (m : Nat) (L : List Opm) (w : World) (hr : Opr w v m L) (hl : Hid (m ≤ 1000000)) :
    Calls Try.prog 51 #[v] w fun e w' => ∃ ao c, e = .returned (.slice ao m c) ∧ w'.ownsRow w.heap.size 45 3 (.slice ao m c) m (ovs L) ∧ Below w.heap.size w w' := by
  obtain ⟨ao, c, rfl⟩ := hr.shape
  have q22 : ∀ (w : World) (a : Option Addr) (n c n' c' : Nat), (binOp .eql 23 (.slice a n c) (.slice none n' c')).run Try.prog w = .ok (.bool a.isNone) w := fun w a n c n' c' => Lib.run_eql_slice_nil w _ _ a n c n' c' Try.underlying23
  have HR := Lib.hid hr
  clear hr
  cases ao with
  | none =>
    obtain ⟨h1, rfl⟩ : m = 0 ∧ c = 0 := by
      obtain ⟨_, _, ⟨ao', c', e, _, _, hn, _⟩, _⟩ := HR.out
      simp only [Value.slice.injEq] at e
      have := hn e.1.symm
      exact ⟨this.1, by rw [e.2.2]; exact this.2⟩
    subst h1
    obtain rfl : L = [] := List.eq_nil_of_length_eq_zero HR.out.1.symm
    go_enter Try.func51, Try.ntmps51
    go_wp2_with fail
    go_ret
    exact ⟨none, 0, rfl, World.ownsRow_nil _ _ _ _, Below.refl _ _⟩
  | some a =>
    go_enter Try.func51, Try.ntmps51
    go_wp2_with (at_builtin; refine wpList_append_gen elemOp rfl _ _ rfl w.heap.size _ 0 [] rfl (own_empty w w.heap.size 45 3 w.heap.size rfl (Nat.le_refl _)) _ m _ rfl ((HR.out.2.2.1).later ((Below.refl _ w).alloc (Nat.le_refl _) _)) (ovs_one L) m (Nat.zero_add m).symm hl (by decide) (by simp) ?_; intro ao5 c5 w5 hown5 hb5 hg5 ho5)
    go_ret
    exact ⟨ao5, c5, rfl, hown5, ((Below.refl _ w).alloc (Nat.le_refl _) _).trans hb5⟩


end Go.Proofs.Ytabmjjicplomlaa
