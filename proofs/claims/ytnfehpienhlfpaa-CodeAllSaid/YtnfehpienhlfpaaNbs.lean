/- CodeNumbers, walked. Numbers and types by name. -/
import Derived.Test.YtnfehpienhlfpaaEnc
import Derived.Test.YtnfehpienhlfpaaMov
namespace Go.Proofs.Ytnfehpienhlfpaa
open Go.RowKit Go.Lib

theorem be4_mod {a b : Int} (h : a % 4294967296 = b % 4294967296) : be4 a = be4 b := by
  have hb : ∀ x y : Int, x % 256 = y % 256 → byteOf x = byteOf y := fun x y e => by unfold byteOf; rw [e]
  unfold be4
  rw [hb (a / 16777216) (b / 16777216) (by omega), hb (a / 65536) (b / 65536) (by omega), hb (a / 256) (b / 256) (by omega), hb a b (by omega)]

theorem Bs.below {w w' : World} {base B : Nat} {v : Value} {n : Nat} {l : List UInt8} (h : Bs w base v n l) (hb : Below B w w') (hB : w.heap.size ≤ B) : Bs w' base v n l := by
  refine ⟨h.1, h.2.1, h.2.2.imp id ?_⟩
  rintro ⟨g, cap, cur, h1, h2, h3, h4⟩
  refine ⟨g, cap, cur, h1, h2, ?_, h4⟩
  rw [hb.block g (by have := (h.2.lt g (by rw [h1]; rfl)).2; omega)]
  exact h3

theorem Bs.empty (w : World) (base : Nat) (hb : base ≤ w.heap.size) : Bs (w.alloc (.cells #[] 5)) base (.slice (some ⟨w.heap.size, 0, none⟩) 0 0) 0 [] :=
  ⟨rfl, rfl, .inr ⟨w.heap.size, 0, #[], rfl, hb, heap_alloc_new w _, Nat.le_refl _, Nat.zero_le _, rfl, rfl⟩⟩

set_option maxHeartbeats 4000000 in
theorem numbers_walk (n more : Int) (v : Value) (m : Nat) (l : List UInt8) (w : World) (hn : 0 ≤ n ∧ n < 4294967296) (hmo : -32768 ≤ more ∧ more < 32768) (hm : m = l.length) (hr : Reads w v (bv l)) (hl : Hid (m ≤ maxLen)) :
    Calls Try.prog 6 #[.int .u32 n, v, .int .i16 more] w fun e w' => e = .returned (.bool true) ∧ Below w.heap.size w w' := by
  obtain ⟨ao, c, hv⟩ : ∃ ao c, v = .slice ao m c := by obtain ⟨ao, c, rfl, _⟩ := hr; exact ⟨ao, c, by rw [bv_length, hm]⟩
  subst hv
  by_cases h100 : 100 < m
  · have h1 : (100 : Int) < (m : Int) := by omega
    go_enter Try.func6, Try.ntmps6
    go_wp2_with (go_at_call 9; refine (awake_any _).mono ?_; rintro e w' ⟨rfl, hb9⟩)
    go_ret
    exact ⟨rfl, hb9⟩
  · have h1 : ¬ (100 : Int) < (m : Int) := by omega
    have H1 : Hid (m ≤ maxLen) := Lib.hid (by unfold maxLen; omega)
    have H2 : Hid ((m) * 1 ≤ 140737488355328) := Lib.hid (by omega)
    have H3 : Hid (m + 4 ≤ maxLen) := Lib.hid (by unfold maxLen; omega)
    have H4 : Hid ((m + 4) * 1 ≤ 140737488355328) := Lib.hid (by omega)
    have HN := Lib.hid (And.intro hn hmo)
    have HR := Lib.hid hr
    have HM := Lib.hid hm
    clear hr hm hmo
    go_enter Try.func6, Try.ntmps6
    go_wp2_with (first | (at_builtin; refine wpList_append_bytes rfl _ _ rfl w.heap.size _ 0 [] rfl (Bs.empty w w.heap.size (Nat.le_refl _)) (.slice ao m c) m l HM.out rfl (HR.out.alloc _) m (by omega) H1 H2 (by simp) ?_; intro ao1 c1 w1 hown1 hb1) | (go_at_call 14; refine (u32_any _ _).mono ?_; rintro e w2 ⟨ao2, c2, rfl, hown2, hb2⟩) | (at_builtin; refine wpList_append_bytes rfl _ _ rfl w.heap.size _ m _ rfl (hown1.below hb2 (Nat.le_refl _)) _ 4 _ rfl rfl hown2.reads (m + 4) rfl H3 H4 (Nat.le_trans (Nat.le_trans (by simp) hb1.size) hb2.size) ?_; intro ao3 c3 w3 hown3 hb3))
    have R3 := hown3.reads
    have hL : m + 4 = ([] ++ l ++ be4 n).length := by simp [be4_length, HM.out]
    have hget : numOf ((([] ++ l ++ be4 n).drop m).take 4) = n := by
      rw [List.nil_append, List.drop_left' HM.out.symm]
      show numOf (be4 n) = n
      rw [numOf_be4]
      have := HN.out.1; omega
    have BB : Hid (Below w.heap.size w w3) := Lib.hid (((((Below.refl _ w).alloc (Nat.le_refl _) _).trans hb1).trans (hb2.mono (Nat.le_trans (by simp) hb1.size))).trans hb3)
    refine (get_in _ _ _ m w3 R3 hL H3 (Nat.le_refl _)).mono ?_
    rintro e w4 ⟨rfl, rfl⟩
    rw [hget]
    have G2 := get_out _ _ _ ((m : Int) + 1) w4 R3 hL H3 (by omega)
    clear hget hown1 hb1 hown2 hb2 hown3 hb3 H1 H2 H3 H4 hL R3 HR
    go_wp2_with (go_at_call 10; refine G2.mono ?_; rintro e w5 ⟨rfl, rfl⟩)
    have E1 : be4 (wrap64 (n + wrap64 (more * 4294967296))) = be4 n := be4_mod (by unfold wrap64; omega)
    have wn : IntKind.i64.wrap n = n := by rw [IntKind.wrap_i64]; have := HN.out; omega
    have wm : IntKind.i64.wrap more = more := by rw [IntKind.wrap_i64]; have := HN.out; omega
    refine wp_region_mv [(0, 18, true), (20, 2, true), (18, 1, false), (19, 1, true), (22, 1, false), (23, 4, true), (27, 1, false), (28, 2, true)] (by kernel_rfl) (by kernel_rfl) ?_
    simp only [mvAll, mvSeg, List.drop_succ_cons, List.drop_zero, List.cons_append, List.nil_append, Nat.reduceAdd]
    iterate 20
      refine wpLin_still ?_ (fun w' hG K hK => ?_) (fun K hK => ?_)
      rotate_left
      · unfold mvVal
        go_simp
        try exact hK
      go_simp
      refine hK _ ?_
      clear hK K
    refine wpLin_call (fun K hK => ?_)
    unfold mvRun
    go_simp
    simp only [mvUpon]
    rw [show IntKind.i64.wrap (n + IntKind.i64.wrap (more * 4294967296)) = wrap64 (n + wrap64 (more * 4294967296)) by simp only [IntKind.wrap_i64, wrap64]]
    refine (u32_any _ _).mono ?_
    rintro e w6 ⟨ao6, c6, rfl, hown6, hb6⟩
    rw [E1] at hown6
    refine ⟨_, rfl, ?_⟩
    go_simp
    refine hK _ _ hb6 ?_
    clear hK K
    have cv6 := conv_up hown6.reads
    refine wpLin_still ?_ (fun w' hG K hK => ?_) (fun K hK => ?_)
    rotate_left
    · unfold mvVal
      go_simp
      try exact hK
    go_simp
    refine hK _ ?_
    clear hK K
    refine wpLin_call (fun K hK => ?_)
    unfold mvRun
    go_simp
    simp only [mvUpon]
    refine (u32_any _ _).mono ?_
    rintro e w7 ⟨ao7, c7, rfl, hown7, hb7⟩
    refine ⟨_, rfl, ?_⟩
    go_simp
    refine hK _ _ hb7 ?_
    clear hK K
    have cv7 := conv_up hown7.reads
    have B7 : Hid (Below w.heap.size w w7) := Lib.hid ((BB.out.drew.trans (hb6.mono BB.out.drew.size)).trans (hb7.mono (Nat.le_trans BB.out.drew.size hb6.size)))
    clear cv6 hb6 hb7 hown6 hown7 BB
    iterate 4
      refine wpLin_still ?_ (fun w' hG K hK => ?_) (fun K hK => ?_)
      rotate_left
      · unfold mvVal
        go_simp
        try exact hK
      go_simp
      refine hK _ ?_
      clear hK K
    refine wpLin_call (fun K hK => ?_)
    unfold mvRun
    go_simp
    simp only [mvUpon]
    refine (awake_any _).mono ?_
    rintro e w8 ⟨rfl, hb8⟩
    refine ⟨_, rfl, ?_⟩
    go_simp
    refine hK _ _ hb8 ?_
    clear hK K
    have B8 : Hid (Below w.heap.size w w8) := Lib.hid (B7.out.trans (hb8.mono B7.out.size))
    clear hb8 B7 cv7
    iterate 2
      refine wpLin_still ?_ (fun w' hG K hK => ?_) (fun K hK => ?_)
      rotate_left
      · unfold mvVal
        go_simp
        try exact hK
      go_simp
      refine hK _ ?_
      clear hK K
    refine wpLin_nil ?_
    go_wp2
    go_ret
    exact ⟨rfl, B8.out⟩

end Go.Proofs.Ytnfehpienhlfpaa
