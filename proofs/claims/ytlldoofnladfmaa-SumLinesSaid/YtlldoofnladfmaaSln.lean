/- SumLines, walked. Numbers and types by name. -/
import Derived.Test.YtlldoofnladfmaaSal
import Derived.Test.YtlldoofnladfmaaBel
import Derived.Test.YtlldoofnladfmaaMov
import Derived.StillTailTactics
namespace Go.Proofs.Ytlldoofnladfmaa
open Go.RowKit Go.Lib

theorem Reads.prefix {w : World} {ao : Option Addr} {n c : Nat} {l : List UInt8} (h : Reads w (.slice ao n c) (bv l)) (k : Nat) (hk : k ≤ n) : Reads w (.slice ao k c) (bv (l.take k)) := by
  obtain ⟨ao', c', e, h0, h1, h2⟩ := h
  simp only [Value.slice.injEq, bv_length] at e h0
  obtain ⟨rfl, rfl, rfl⟩ := e
  refine ⟨ao, c, by rw [bv_length, List.length_take]; congr 1; omega, by rw [bv_length, List.length_take]; omega, fun e => ?_, fun a ha j u hj => ?_⟩
  · have h3 := h1 e
    have : l = [] := by simpa [bv] using h3.1
    subst this
    exact ⟨by simp [bv], h3.2⟩
  · refine h2 a ha j u ?_
    rw [← hj]
    have hj2 := (List.getElem?_eq_some_iff.1 hj).1
    rw [bv_length, List.length_take] at hj2
    simp [bv, List.getElem?_take, (by omega : j < k)]

theorem Reads.byte {w : World} {ao : Option Addr} {n c : Nat} {l : List UInt8} (h : Reads w (.slice ao n c) (bv l)) {k : Nat} (hk : k < n) : ∃ a x, ao = some a ∧ l[k]? = some x ∧ w.cell? (a.add k) = some (.int .u8 ((x : UInt8).toNat : Int)) := by
  obtain ⟨ao', c', e, h0, h1, h2⟩ := h
  simp only [Value.slice.injEq, bv_length] at e h0
  obtain ⟨rfl, rfl, rfl⟩ := e
  have hx : l[k]? = some l[k] := List.getElem?_eq_getElem hk
  cases ao with
  | none => have := (h1 rfl).1; have : l = [] := by simpa [bv] using this
            subst this; simp at hk
  | some a => exact ⟨a, l[k], rfl, hx, h2 a rfl k _ (by simp [bv, hx])⟩

theorem filled {d : List UInt8} {n k : Nat} {x : UInt8} (hd : d.length = n) (hk : k < n) (hx : d[k]? = some x) : (d.take k ++ List.replicate (n - k) 0).set k x = d.take (k + 1) ++ List.replicate (n - (k + 1)) 0 := by
  have h1 : (d.take k).length = k := by simp; omega
  rw [show n - k = (n - (k + 1)) + 1 by omega, List.replicate_succ, List.set_append_right _ _ (by omega), h1, Nat.sub_self, List.set_cons_zero, List.take_add_one, hx]
  simp

theorem three_at {a b c : List UInt8} {k : Nat} {x y z : UInt8} (h1 : a[k]? = some x) (h2 : b[k]? = some y) (h3 : c[k]? = some z) : (three a b c)[k]? = some (x ^^^ y ^^^ z) := by
  unfold three
  rw [List.getElem?_zipWith, List.getElem?_zipWith, h1, h2, h3]

set_option maxHeartbeats 2000000 in
theorem lines_sum (v1 v2 v3 : Value) (m1 m2 m3 : Nat) (a b c : List UInt8) (w : World) (h1 : Reads w v1 (bv a)) (h2 : Reads w v2 (bv b)) (h3 : Reads w v3 (bv c)) (e1 : m1 = a.length) (e2 : m2 = b.length) (e3 : m3 = c.length)
    (hx1 : Hid (m1 ≤ maxLen)) (hx2 : Hid (m2 ≤ maxLen)) (hx3 : Hid (m3 ≤ maxLen)) :
    Calls Try.prog 6 #[v1, v2, v3] w fun e w' => e = .returned (.bool true) ∧ Below w.heap.size w w' := by
  obtain ⟨a1, c1, rfl⟩ : ∃ ao c, v1 = .slice ao m1 c := by obtain ⟨ao, c, rfl, _⟩ := h1; exact ⟨ao, c, by rw [bv_length, e1]⟩
  obtain ⟨a2, c2, rfl⟩ : ∃ ao c, v2 = .slice ao m2 c := by obtain ⟨ao, c, rfl, _⟩ := h2; exact ⟨ao, c, by rw [bv_length, e2]⟩
  obtain ⟨a3, c3, rfl⟩ : ∃ ao c, v3 = .slice ao m3 c := by obtain ⟨ao, c, rfl, _⟩ := h3; exact ⟨ao, c, by rw [bv_length, e3]⟩
  have HA := Lib.hid (And.intro h1 e1)
  have HB := Lib.hid (And.intro h2 e2)
  have HC := Lib.hid (And.intro h3 e3)
  clear h1 h2 h3 e1 e2 e3
  have hcase : ∃ n, n ≤ m1 ∧ n ≤ m2 ∧ n ≤ m3 ∧ ((n = m1 ∧ ¬ (m2 : Int) < (m1 : Int) ∧ ¬ (m3 : Int) < (m1 : Int)) ∨ (n = m2 ∧ (m2 : Int) < (m1 : Int) ∧ ¬ (m3 : Int) < (m2 : Int)) ∨ (n = m3 ∧ (m3 : Int) < (m1 : Int) ∧ (m3 : Int) < (m2 : Int)) ∨ (n = m3 ∧ ¬ (m2 : Int) < (m1 : Int) ∧ (m3 : Int) < (m1 : Int))) := by
    by_cases p1 : m2 < m1
    · by_cases p2 : m3 < m2
      · exact ⟨m3, by omega, by omega, by omega, .inr (.inr (.inl ⟨rfl, by omega, by omega⟩))⟩
      · exact ⟨m2, by omega, by omega, by omega, .inr (.inl ⟨rfl, by omega, by omega⟩)⟩
    · by_cases p2 : m3 < m1
      · exact ⟨m3, by omega, by omega, by omega, .inr (.inr (.inr ⟨rfl, by omega, by omega⟩))⟩
      · exact ⟨m1, by omega, by omega, by omega, .inl ⟨rfl, by omega, by omega⟩⟩
  obtain ⟨n, n1, n2, n3, hn⟩ := hcase
  rcases hn with ⟨hn, p1, p2⟩ | ⟨hn, p1, p2⟩ | ⟨hn, p1, p2⟩ | ⟨hn, p1, p2⟩
  all_goals
    subst hn
    by_cases big : 2000 < n
    · have big2 : (2000 : Int) < (n : Int) := by omega
      go_enter Try.func6, Try.ntmps6
      go_wp2_with (go_at_call 11; refine (awake_sum _).mono ?_; rintro e w' ⟨rfl, hb9⟩)
      go_ret
      exact ⟨rfl, hb9⟩
    have big2 : ¬ (2000 : Int) < (n : Int) := by omega
    have HZ : Hid (n ≤ 140737488355328) := Lib.hid (by omega)
    have HN : Hid (n ≤ 2000) := Lib.hid (by omega)
    obtain ⟨d, hd⟩ : ∃ d, d = three (a.take n) (b.take n) (c.take n) := ⟨_, rfl⟩
    have hdl : d.length = n := by
      have e1 := HA.out.2
      have e2 := HB.out.2
      have e3 := HC.out.2
      rw [hd]; unfold three; simp; omega
    have HD := Lib.hid (And.intro hd hdl)
    clear hd hdl big
    go_enter Try.func6, Try.ntmps6
    go_wp2_with (at_make; refine wpList_make_zeros rfl (.tmp 20) (.tmp 20) rfl w.heap.size n n n rfl rfl rfl rfl HZ (Nat.le_refl _) ?_; intro w1 hown1 hb1)
    have H1 := Lib.hid (And.intro hown1 hb1)
    clear hown1 hb1
    clear p1 p2
    go_loopw [9] (fun i wr => ∃ k : Nat, k ≤ n ∧ i = .int .i64 k ∧ Hid (Bs wr w.heap.size (.slice (some ⟨w.heap.size, 0, none⟩) n n) n (d.take k ++ List.replicate (n - k) 0) ∧ Below w.heap.size w wr))
      (fun i _ => n - (intOf i).toNat)
    case atStart => exact ⟨0, Nat.zero_le _, rfl, Lib.hid ⟨by simpa using H1.out.1, H1.out.2⟩⟩
    case round =>
      obtain ⟨k, hk, rfl, hrel⟩ := hrel
      clear H1
      by_cases hlt : k < n
      · have k0 : (k : Int) < (n : Int) := by omega
        have k1 := Int.ofNat_lt.2 (Nat.lt_of_lt_of_le hlt n1)
        have k2 := Int.ofNat_lt.2 (Nat.lt_of_lt_of_le hlt n2)
        have k3 := Int.ofNat_lt.2 (Nat.lt_of_lt_of_le hlt n3)
        obtain ⟨A1, x, rfl, hx, cx⟩ := (HA.out.1.later hrel.out.2).byte (k := k) (by omega)
        obtain ⟨A2, y, rfl, hy, cy⟩ := (HB.out.1.later hrel.out.2).byte (k := k) (by omega)
        obtain ⟨A3, z, rfl, hz, cz⟩ := (HC.out.1.later hrel.out.2).byte (k := k) (by omega)
        have hdk : d[k]? = some (x ^^^ y ^^^ z) := by
          rw [HD.out.1]
          exact three_at (by rw [List.getElem?_take, if_pos hlt]; exact hx) (by rw [List.getElem?_take, if_pos hlt]; exact hy) (by rw [List.getElem?_take, if_pos hlt]; exact hz)
        have x1 := bits_xor_u8 x y
        have x2 := bits_xor_u8 (x ^^^ y) z
        generalize x ^^^ y = u at *
        generalize u ^^^ z = u2 at *
        have hlen : (d.take k ++ List.replicate (n - k) 0)[k]? = some 0 := by
          have h1 : (d.take k).length = k := by have := HD.out.2; simp; omega
          rw [List.getElem?_append_right (by omega), h1, Nat.sub_self, List.getElem?_replicate, if_pos (by omega)]
        have hcell := hrel.out.1.cell hlen
        have cd := hcell.1
        have fd := hcell.2
        have HF := Lib.hid (And.intro hdk hrel.out)
        clear hx hy hz hdk hlen hcell hrel
        go_wp2_with fail
        go_still_tail 17, (by kernel_rfl)
        change wpList _ _ _ _ _ wr.drew
        go_wp2
        have B2 : Below w.heap.size w (wr.drew.setCell ⟨w.heap.size, k, none⟩ (.int .u8 (u2.toNat : Int))) := below_set HF.out.2.2.drew (Nat.le_refl _) k _
        have S2 : Bs (wr.drew.setCell ⟨w.heap.size, k, none⟩ (.int .u8 (u2.toNat : Int))) w.heap.size (.slice (some ⟨w.heap.size, 0, none⟩) n n) n (d.take (k + 1) ++ List.replicate (n - (k + 1)) 0) := by
          have h : Bs wr.drew w.heap.size (.slice (some ⟨w.heap.size, 0, none⟩) n n) n _ := HF.out.2.1
          have := h.set k hlt u2
          rw [filled HD.out.2 hlt HF.out.1] at this
          exact this
        have HS := Lib.hid (And.intro S2 B2)
        clear B2 S2 HF
        exact ⟨⟨k + 1, by omega, by simp, HS⟩, by simp [intOf]; omega⟩
      · obtain rfl : k = n := by omega
        have k0 : ¬ (k : Int) < (k : Int) := by omega
        have B1 := hrel.out.2
        have S1 : Bs wr w.heap.size (.slice (some ⟨w.heap.size, 0, none⟩) k k) k d := by
          have h := hrel.out.1
          rw [Nat.sub_self, List.take_of_length_le (by have := HD.out.2; omega)] at h
          simpa using h
        have L : Hid (k ≤ 1000000000) := Lib.hid (by have := HN.out; omega)
        have RA := (HA.out.1.later B1).prefix k n1
        have RB := (HB.out.1.later B1).prefix k n2
        have RC := (HC.out.1.later B1).prefix k n3
        have la : (a.take k).length = k := by have := HA.out.2; rw [List.length_take]; omega
        have lb : (b.take k).length = k := by have := HB.out.2; rw [List.length_take]; omega
        have lc : (c.take k).length = k := by have := HC.out.2; rw [List.length_take]; omega
        have q1 : k ≤ c1 := by
          obtain ⟨_, _, e, h0, _⟩ := HA.out.1
          simp only [Value.slice.injEq, bv_length] at e h0
          omega
        have q2 : k ≤ c2 := by
          obtain ⟨_, _, e, h0, _⟩ := HB.out.1
          simp only [Value.slice.injEq, bv_length] at e h0
          omega
        have q3 : k ≤ c3 := by
          obtain ⟨_, _, e, h0, _⟩ := HC.out.1
          simp only [Value.slice.injEq, bv_length] at e h0
          omega
        have q1' := Int.ofNat_le.2 q1
        have q2' := Int.ofNat_le.2 q2
        have q3' := Int.ofNat_le.2 q3
        have C1 := sum_any _ k _ wr.drew RA la.symm L
        have C2 := sum_any _ k _ wr.drew RB lb.symm L
        have C3 := sum_any _ k _ wr.drew RC lc.symm L
        have C4 := sum_any _ k d wr.drew S1.reads S1.1 L
        have C5 := sum_any _ 0 [] wr.drew (Reads.nil _) rfl (Lib.hid (by decide))
        rw [sumOf_nil 0 (by decide)] at C5
        have hx := sum_three (a.take k) (b.take k) (c.take k) (la.trans lb.symm) (la.trans lc.symm)
        rw [← HD.out.1] at hx
        have B2 : Hid (Below w.heap.size w wr.drew) := Lib.hid B1.drew
        generalize sumOf 0 (a.take k) = sA at *
        generalize sumOf 0 (b.take k) = sB at *
        generalize sumOf 0 (c.take k) = sC at *
        generalize sumOf 0 d = sD at *
        clear B1 S1 RA RB RC la lb lc hrel q1 q2 q3 HA HB HC HD
        go_wp2_with fail
        refine wp_region_mv [(0, 3, true), (4, 3, true), (9, 3, true), (14, 1, true), (3, 1, false), (7, 1, false), (8, 1, true), (12, 1, false), (13, 1, true), (15, 1, false), (16, 2, true), (18, 1, false), (19, 3, true), (22, 1, false), (23, 2, true)] (by kernel_rfl) (by kernel_rfl) ?_
        simp only [mvAll, mvSeg, List.drop_succ_cons, List.drop_zero, List.cons_append, List.nil_append, Nat.reduceAdd]
        iterate 10
          refine wpLin_still ?_ (fun w' hG K hK => ?_) (fun K hK => ?_)
          rotate_left
          · unfold mvVal
            go_simp
            try exact hK
          go_simp
          refine hK _ ?_
          clear hK K
        refine wpLin_call (fun K hK => ?_)
        unfold mvRun
        go_simp
        simp only [mvUpon]
        refine (C1).mono ?_
        rintro e w5 ⟨rfl, h5⟩
        subst h5
        refine ⟨_, rfl, ?_⟩
        go_simp
        refine hK _ _ (Grow.refl _) ?_
        clear hK K
        refine wpLin_call (fun K hK => ?_)
        unfold mvRun
        go_simp
        simp only [mvUpon]
        refine (C2).mono ?_
        rintro e w5 ⟨rfl, h5⟩
        subst h5
        refine ⟨_, rfl, ?_⟩
        go_simp
        refine hK _ _ (Grow.refl _) ?_
        clear hK K
        iterate 1
          refine wpLin_still ?_ (fun w' hG K hK => ?_) (fun K hK => ?_)
          rotate_left
          · unfold mvVal
            go_simp
            try exact hK
          go_simp
          refine hK _ ?_
          clear hK K
        refine wpLin_call (fun K hK => ?_)
        unfold mvRun
        go_simp
        simp only [mvUpon]
        refine (C3).mono ?_
        rintro e w5 ⟨rfl, h5⟩
        subst h5
        refine ⟨_, rfl, ?_⟩
        go_simp
        refine hK _ _ (Grow.refl _) ?_
        clear hK K
        iterate 1
          refine wpLin_still ?_ (fun w' hG K hK => ?_) (fun K hK => ?_)
          rotate_left
          · unfold mvVal
            go_simp
            try exact hK
          go_simp
          refine hK _ ?_
          clear hK K
        refine wpLin_call (fun K hK => ?_)
        unfold mvRun
        go_simp
        simp only [mvUpon]
        refine (C4).mono ?_
        rintro e w5 ⟨rfl, h5⟩
        subst h5
        refine ⟨_, rfl, ?_⟩
        go_simp
        refine hK _ _ (Grow.refl _) ?_
        clear hK K
        clear C1 C2 C3 C4
        iterate 2
          refine wpLin_still ?_ (fun w' hG K hK => ?_) (fun K hK => ?_)
          rotate_left
          · unfold mvVal
            go_simp
            try exact hK
          go_simp
          refine hK _ ?_
          clear hK K
        refine wpLin_call (fun K hK => ?_)
        unfold mvRun
        go_simp
        simp only [mvUpon]
        refine (C5).mono ?_
        rintro e w5 ⟨rfl, h5⟩
        subst h5
        refine ⟨_, rfl, ?_⟩
        go_simp
        refine hK _ _ (Grow.refl _) ?_
        clear hK K
        clear C5
        iterate 3
          refine wpLin_still ?_ (fun w' hG K hK => ?_) (fun K hK => ?_)
          rotate_left
          · unfold mvVal
            go_simp
            try exact hK
          go_simp
          refine hK _ ?_
          clear hK K
        refine wpLin_call (fun K hK => ?_)
        unfold mvRun
        go_simp
        simp only [mvUpon]
        refine (awake_sum _).mono ?_
        rintro e w6 ⟨rfl, hb6⟩
        refine ⟨_, rfl, ?_⟩
        go_simp
        refine hK _ _ hb6 ?_
        clear hK K
        have B6 := Lib.hid (B2.out.trans (hb6.mono B2.out.size))
        clear hb6
        iterate 2
          refine wpLin_still ?_ (fun w' hG K hK => ?_) (fun K hK => ?_)
          rotate_left
          · unfold mvVal
            go_simp
            try exact hK
          go_simp
          refine hK _ ?_
          clear hK K
        refine wpLin_nil ?_
        go_wp2
        go_ret
        exact ⟨rfl, B6.out⟩

end Go.Proofs.Ytlldoofnladfmaa
