/- CodeAll, walked. Numbers and types by name. -/
import Derived.Test.YtnfehpienhlfpaaRed
namespace Go.Proofs.Ytnfehpienhlfpaa
open Go.RowKit Go.Lib

theorem both_get (v : Value) (m : Nat) (l : List UInt8) (k : Int) (hm : m = l.length) (hl : Hid (m ≤ 1000000000)) :
    ∃ x ok, ∀ w, Reads w v (bv l) → (Calls Try.prog 10 #[v, .int .i64 k] w fun e w' => e = .returned (.tuple #[.int .i64 x, .bool ok]) ∧ w' = w) ∧
      (Calls Try.prog 11 #[v, .int .i64 k] w fun e w' => e = .returned (.tuple #[.int .i64 x, .bool ok]) ∧ ∃ j, w' = w.drewN j) := by
  by_cases hk : 0 ≤ k ∧ k + 4 ≤ m
  · obtain ⟨k, rfl⟩ := Int.eq_ofNat_of_zero_le hk.1
    exact ⟨_, _, fun w hr => ⟨get_in v m l k w hr hm (Lib.hid (by have := hl.out; unfold maxLen; omega)) (by omega), ref_get_in v m l k w hr hm hl (by omega)⟩⟩
  · exact ⟨_, _, fun w hr => ⟨get_out v m l k w hr hm (Lib.hid (by have := hl.out; unfold maxLen; omega)) hk, (ref_get_out v m l k w hr hm hl hk).mono fun e w' h => ⟨h.1, 0, h.2⟩⟩⟩

/-- What both Decodes leave. -/
def DecBoth (f : Int) (D : List ByteArray) (w : World) (e : Ending) (w' : World) : Prop :=
  Below w.heap.size w w' ∧ ∃ ao n c, e = .returned (.tuple #[.slice ao n c, .int .i64 f]) ∧ Texts w' (.slice ao n c) n D

theorem decBoth_of (l : List UInt8) : ∃ f D, ∀ w e w', Decoded l w e w' → DecBoth f D w e w' := by
  cases hd : dec l with
  | none =>
    refine ⟨2, [], fun w e w' h => ?_⟩
    obtain ⟨hb, ⟨L, ao, c, hd', _⟩ | ⟨_, rfl⟩⟩ := h
    · rw [hd] at hd'; cases hd'
    · exact ⟨hb, none, 0, 0, rfl, ⟨rfl, Reads.nil _, Nat.zero_le _, fun s hs => by cases hs⟩⟩
  | some D =>
    refine ⟨0, D, fun w e w' h => ?_⟩
    obtain ⟨hb, ⟨L, ao, c, hd', rfl, hT⟩ | ⟨hd', _⟩⟩ := h
    · obtain rfl : D = L := by rw [hd] at hd'; exact Option.some.inj hd'
      exact ⟨hb, ao, _, c, rfl, hT⟩
    · rw [hd] at hd'; cases hd'

set_option maxHeartbeats 2000000 in
theorem all_walk (n k : Int) (v1 v2 : Value) (m p : Nat) (l : List UInt8) (L : List ByteArray) (w : World) (hm : m = l.length) (hr : Reads w v1 (bv l)) (hmm : Hid (m ≤ maxLen)) (hL : Texts w v2 p L) :
    Calls Try.prog 3 #[.int .i64 n, .int .i64 k, v1, v2] w fun e w' => e = .returned (.bool true) ∧ Below w.heap.size w w' := by
  obtain ⟨a1, c1, rfl⟩ : ∃ ao c, v1 = .slice ao m c := by obtain ⟨ao, c, rfl, _⟩ := hr; exact ⟨ao, c, by rw [bv_length, hm]⟩
  obtain ⟨a2, c2, rfl⟩ := hL.shape
  have HM := Lib.hid hm
  have HR := Lib.hid hr
  have HL := Lib.hid hL
  clear hm hr hL
  by_cases h5 : 5000 < m
  · have h6 : (5000 : Int) < (m : Int) := by omega
    go_enter Try.func3, Try.ntmps3
    go_wp2_with (go_at_call 9; refine (awake_any _).mono ?_; rintro e w' ⟨rfl, hb9⟩)
    go_ret
    exact ⟨rfl, hb9⟩
  have h6 : ¬ (5000 : Int) < (m : Int) := by omega
  have hl : Hid (m ≤ 1000000000) := Lib.hid (by omega)
  clear h5
  go_enter Try.func3, Try.ntmps3
  go_wp2_with fail
  refine (great_any _ p L w HL.out).mono ?_
  rintro e w1 ⟨b, rfl, rfl, hb⟩
  cases b with
  | true =>
    clear hb
    go_wp2_with (go_at_call 9; refine (awake_any _).mono ?_; rintro e w' ⟨rfl, hb9⟩)
    go_ret
    exact ⟨rfl, hb9⟩
  | false =>
    have HB := Lib.hid (hb rfl)
    clear hb
    obtain ⟨f, D, hfD⟩ := decBoth_of l
    have HF := Lib.hid hfD
    clear hfD
    obtain ⟨x, ok, hG⟩ := both_get (.slice a1 m c1) m l k HM.out hl
    go_wp2_with fail
    refine (hG w HR.out).1.mono ?_
    rintro e w1 ⟨rfl, rfl⟩
    go_wp2_with fail
    refine (hG w1 HR.out).2.mono ?_
    rintro e w2 ⟨rfl, j2, hw2⟩
    have B2 : Hid (Below w1.heap.size w1 w2) := Lib.hid (by rw [hw2]; exact below_drewN (Below.refl _ _) j2)
    clear hw2 hG
    go_wp2_with fail
    refine (decode_any _ m l w2 (HR.out.later B2.out) HM.out hl).mono ?_
    intro e w3 hD
    obtain ⟨hb3, a3, n3, c3, rfl, hT3⟩ := HF.out _ _ _ hD
    have B3 := Lib.hid (B2.out.trans (hb3.mono B2.out.size))
    have T3 := Lib.hid hT3
    clear hb3 hT3 B2 hD
    go_wp2_with fail
    refine (ref_decode _ m l w3 (HR.out.later B3.out) HM.out hl).mono ?_
    intro e w4 hD
    obtain ⟨hb4, a4, n4, c4, rfl, hT4⟩ := HF.out _ _ _ hD
    have B4 := Lib.hid (B3.out.trans (hb4.mono B3.out.size))
    have T3' := Lib.hid (T3.out.later hb4)
    have T4 := Lib.hid hT4
    clear hb4 hT4 B3 hD T3
    go_wp2_with fail
    refine wp_region_mv [(0, 1, true), (3, 1, true), (1, 1, false), (2, 1, true), (4, 1, false), (5, 14, true), (21, 1, true), (19, 1, false), (20, 1, true), (22, 1, false), (23, 6, true), (29, 1, false), (30, 3, true), (34, 1, true), (33, 1, false), (35, 3, true), (38, 1, false), (39, 2, true)] (by kernel_rfl) (by kernel_rfl) ?_
    simp only [mvAll, mvSeg, List.drop_succ_cons, List.drop_zero, List.cons_append, List.nil_append, Nat.reduceAdd]
    have B5 : Hid (Below w1.heap.size w1 w4.drew) := Lib.hid (below_drewN B4.out 1)
    have T35 : Hid (Texts w4.drew _ _ D) := Lib.hid T3'.out
    have T45 : Hid (Texts w4.drew _ _ D) := Lib.hid T4.out
    clear B4 T3' T4
    generalize w4.drew = w5 at *
    iterate 2
      refine wpLin_still ?_ (fun w' hG K hK => ?_) (fun K hK => ?_)
      rotate_left
      · unfold mvVal
        go_simp
        try exact hK
      go_simp
      refine hK _ ?_
      clear hK K
    refine wpLin_call (fun K hK => ?_)
    unfold mvRun
    go_simp
    simp only [mvUpon]
    refine (u32_any n _).mono ?_
    rintro e w6 ⟨a6, c6, rfl, hown6, hb6⟩
    refine ⟨_, rfl, ?_⟩
    go_simp
    refine hK _ _ hb6 ?_
    clear hK K
    have cv6 := conv_up hown6.reads
    have B6 : Hid (Below w1.heap.size w1 w6) := Lib.hid (B5.out.trans (hb6.mono B5.out.size))
    have T36 : Hid (Texts w6 _ _ D) := Lib.hid (T35.out.later hb6)
    have T46 : Hid (Texts w6 _ _ D) := Lib.hid (T45.out.later hb6)
    clear hown6 hb6 B5 T35 T45
    iterate 1
      refine wpLin_still ?_ (fun w' hG K hK => ?_) (fun K hK => ?_)
      rotate_left
      · unfold mvVal
        go_simp
        try exact hK
      go_simp
      refine hK _ ?_
      clear hK K
    clear cv6
    refine wpLin_call (fun K hK => ?_)
    unfold mvRun
    go_simp
    simp only [mvUpon]
    refine (ref_u32 n _).mono ?_
    rintro e w7 ⟨a7, c7, rfl, hown7, hb7⟩
    refine ⟨_, rfl, ?_⟩
    go_simp
    refine hK _ _ hb7 ?_
    clear hK K
    have cv7 := conv_up hown7.reads
    have B7 : Hid (Below w1.heap.size w1 w7) := Lib.hid (B6.out.trans (hb7.mono B6.out.size))
    have T37 : Hid (Texts w7 _ _ D) := Lib.hid (T36.out.later hb7)
    have T47 : Hid (Texts w7 _ _ D) := Lib.hid (T46.out.later hb7)
    clear hown7 hb7 B6 T36 T46
    iterate 15
      refine wpLin_still ?_ (fun w' hG K hK => ?_) (fun K hK => ?_)
      rotate_left
      · unfold mvVal
        go_simp
        try exact hK
      go_simp
      refine hK _ ?_
      clear hK K
    clear cv7
    refine wpLin_call (fun K hK => ?_)
    unfold mvRun
    go_simp
    simp only [mvUpon]
    refine (encode_any _ p L _ (HL.out.later B7.out) (by have := HB.out; omega)).mono ?_
    rintro e w8 ⟨a8, c8, rfl, hown8, hb8⟩
    refine ⟨_, rfl, ?_⟩
    go_simp
    refine hK _ _ hb8 ?_
    clear hK K
    have cv8 := conv_up hown8.reads
    have B8 : Hid (Below w1.heap.size w1 w8) := Lib.hid (B7.out.trans (hb8.mono B7.out.size))
    have T38 : Hid (Texts w8 _ _ D) := Lib.hid (T37.out.later hb8)
    have T48 : Hid (Texts w8 _ _ D) := Lib.hid (T47.out.later hb8)
    clear hown8 hb8 B7 T37 T47
    iterate 1
      refine wpLin_still ?_ (fun w' hG K hK => ?_) (fun K hK => ?_)
      rotate_left
      · unfold mvVal
        go_simp
        try exact hK
      go_simp
      refine hK _ ?_
      clear hK K
    clear cv8
    refine wpLin_call (fun K hK => ?_)
    unfold mvRun
    go_simp
    simp only [mvUpon]
    refine (ref_encode _ p L _ (HL.out.later B8.out) (by have := HB.out; omega)).mono ?_
    rintro e w9 ⟨a9, c9, rfl, hown9, hb9⟩
    refine ⟨_, rfl, ?_⟩
    go_simp
    refine hK _ _ hb9 ?_
    clear hK K
    have cv9 := conv_up hown9.reads
    have B9 : Hid (Below w1.heap.size w1 w9) := Lib.hid (B8.out.trans (hb9.mono B8.out.size))
    have T39 : Hid (Texts w9 _ _ D) := Lib.hid (T38.out.later hb9)
    have T49 : Hid (Texts w9 _ _ D) := Lib.hid (T48.out.later hb9)
    clear hown9 hb9 B8 T38 T48
    iterate 6
      refine wpLin_still ?_ (fun w' hG K hK => ?_) (fun K hK => ?_)
      rotate_left
      · unfold mvVal
        go_simp
        try exact hK
      go_simp
      refine hK _ ?_
      clear hK K
    clear cv9
    refine wpLin_call (fun K hK => ?_)
    unfold mvRun
    go_simp
    simp only [mvUpon]
    refine (texts_same _ _ n3 n4 D D _ T39.out T49.out).mono ?_
    rintro e w10 ⟨bs, j10, rfl, hw10, hbs⟩
    obtain rfl : bs = true := hbs.2 rfl
    have hg10 : Grow w9 w10 := by rw [hw10]; exact below_drewN (Below.refl _ _) j10
    have B10 : Hid (Below w1.heap.size w1 w10) := Lib.hid (B9.out.trans (hg10.mono B9.out.size))
    clear hw10 hbs
    refine ⟨_, rfl, ?_⟩
    go_simp
    refine hK _ _ hg10 ?_
    clear hK K hg10 B9 T39 T49
    iterate 4
      refine wpLin_still ?_ (fun w' hG K hK => ?_) (fun K hK => ?_)
      rotate_left
      · unfold mvVal
        go_simp
        try exact hK
      go_simp
      refine hK _ ?_
      clear hK K
    refine wpLin_call (fun K hK => ?_)
    unfold mvRun
    go_simp
    simp only [mvUpon]
    refine (num_any _ _).mono ?_
    rintro e w11 ⟨rfl, rfl⟩
    refine ⟨_, rfl, ?_⟩
    go_simp
    refine hK _ _ (Grow.refl _) ?_
    clear hK K
    iterate 3
      refine wpLin_still ?_ (fun w' hG K hK => ?_) (fun K hK => ?_)
      rotate_left
      · unfold mvVal
        go_simp
        try exact hK
      go_simp
      refine hK _ ?_
      clear hK K
    refine wpLin_call (fun K hK => ?_)
    unfold mvRun
    go_simp
    simp only [mvUpon]
    refine (awake_any _).mono ?_
    rintro e w12 ⟨rfl, hb12⟩
    refine ⟨_, rfl, ?_⟩
    go_simp
    refine hK _ _ hb12 ?_
    clear hK K
    have B12 := Lib.hid (B10.out.trans (hb12.mono B10.out.size))
    clear hb12
    iterate 2
      refine wpLin_still ?_ (fun w' hG K hK => ?_) (fun K hK => ?_)
      rotate_left
      · unfold mvVal
        go_simp
        try exact hK
      go_simp
      refine hK _ ?_
      clear hK K
    refine wpLin_nil ?_
    go_wp2
    go_ret
    exact ⟨rfl, B12.out⟩

end Go.Proofs.Ytnfehpienhlfpaa
