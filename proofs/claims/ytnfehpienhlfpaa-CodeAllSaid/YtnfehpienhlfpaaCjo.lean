/- CodeJoins, walked. Numbers and types by name. -/
import Derived.Test.YtnfehpienhlfpaaCbk
namespace Go.Proofs.Ytnfehpienhlfpaa
open Go.RowKit Go.Lib

theorem Ss.empty (w : World) (base : Nat) (hb : base ≤ w.heap.size) : Ss (w.alloc (.cells #[] 9)) base (.slice (some ⟨w.heap.size, 0, none⟩) 0 0) 0 [] :=
  ⟨rfl, rfl, .inr ⟨w.heap.size, 0, #[], rfl, hb, heap_alloc_new w _, Nat.le_refl _, Nat.zero_le _, rfl, rfl⟩⟩

theorem Texts.reads {w : World} {v : Value} {n : Nat} {L : List ByteArray} (h : Texts w v n L) : Reads w v (sv L) := h.2.1
theorem Texts.later {w w' : World} {v : Value} {n : Nat} {L : List ByteArray} (h : Texts w v n L) (hg : Grow w w') : Texts w' v n L := ⟨h.1, h.2.1.later hg, h.2.2⟩

theorem Reads.drop {w : World} {a : Addr} {n c : Nat} {l : List UInt8} (h : Reads w (.slice (some a) n c) (bv l)) (k : Nat) (hk : k ≤ n) (b : Addr) (hb : b = a.add k ∨ l.length = k) : Reads w (.slice (some b) (n - k) (c - k)) (bv (l.drop k)) := by
  obtain ⟨ao', c', e, h0, _, h2⟩ := h
  simp only [Value.slice.injEq, bv_length] at e h0
  obtain ⟨e1, rfl, rfl⟩ := e
  refine ⟨some b, c - k, by rw [bv_length, List.length_drop], by rw [bv_length, List.length_drop]; omega, (fun e => by cases e), fun a' ha j u hj => ?_⟩
  cases ha
  have hj2 := (List.getElem?_eq_some_iff.1 hj).1
  rw [bv_length, List.length_drop] at hj2
  rcases hb with rfl | hb
  · rw [Addr.add_add]
    refine h2 a e1.symm (k + j) u ?_
    rw [← hj]
    simp [bv]
  · omega

theorem joins_walk (v1 v2 : Value) (n m : Nat) (L M : List ByteArray) (w : World) (h1 : Texts w v1 n L) (h2 : Texts w v2 m M) :
    Calls Try.prog 7 #[v1, v2] w fun e w' => e = .returned (.bool true) ∧ Below w.heap.size w w' := by
  obtain ⟨a1, c1, rfl⟩ := h1.shape
  obtain ⟨a2, c2, rfl⟩ := h2.shape
  have H1 := Lib.hid h1
  have H2 := Lib.hid h2
  clear h1 h2
  go_enter Try.func7, Try.ntmps7
  go_wp2_with fail
  refine (great_any _ n L w H1.out).mono ?_
  rintro e w1 ⟨b, rfl, rfl, hb⟩
  cases b with
  | true =>
    clear hb
    go_wp2_with (go_at_call 9; refine (awake_any _).mono ?_; rintro e w' ⟨rfl, hb9⟩)
    go_ret
    exact ⟨rfl, hb9⟩
  | false =>
    have HB := Lib.hid (hb rfl)
    clear hb
    go_wp2_with fail
    refine (great_any _ m M w H2.out).mono ?_
    rintro e w1 ⟨b, rfl, rfl, hb⟩
    cases b with
    | true =>
      clear hb
      go_wp2_with (go_at_call 9; refine (awake_any _).mono ?_; rintro e w' ⟨rfl, hb9⟩)
      go_ret
      exact ⟨rfl, hb9⟩
    | false =>
      have HB2 := Lib.hid (hb rfl)
      clear hb
      have hn1 := bulk_length L
      have hn2 := bulk_length M
      have hn : n ≤ 5000 := by have := HB.out; have := H1.out.1; omega
      have hm : m ≤ 5000 := by have := HB2.out; have := H2.out.1; omega
      clear hn1 hn2
      have F1 : Hid (n ≤ maxLen) := Lib.hid (by unfold maxLen; omega)
      have F2 : Hid (n * 16 ≤ 140737488355328) := Lib.hid (by omega)
      have F3 : Hid (n + m ≤ maxLen) := Lib.hid (by unfold maxLen; omega)
      have F4 : Hid ((n + m) * 16 ≤ 140737488355328) := Lib.hid (by omega)
      go_wp2_with (first | (at_builtin; refine wpList_append_texts rfl (.tmp 20) (.tmp 21) rfl w.heap.size _ 0 [] rfl (Ss.empty w w.heap.size (Nat.le_refl _)) (.slice a1 n c1) n L H1.out.1 rfl (H1.out.reads.alloc _) n (by omega) F1 F2 (by simp) ?_; intro ao3 c3 w3 hown3 hb3) | (at_builtin; refine wpList_append_texts rfl (.tmp 23) (.tmp 24) rfl w.heap.size _ n _ rfl hown3 (.slice a2 m c2) m M H2.out.1 rfl (H2.out.reads.later (((Below.refl _ w).alloc (Nat.le_refl _) _).trans hb3)) (n + m) rfl F3 F4 (Nat.le_trans (by simp) hb3.size) ?_; intro ao4 c4 w4 hown4 hb4))
      have B4 : Hid (Below w.heap.size w w4) := Lib.hid (((((Below.refl _ w).alloc (Nat.le_refl _) _).trans hb3)).trans hb4)
      have HL4 : Hid (Texts w4 (.slice ao4 (n + m) c4) (n + m) (L ++ M)) := Lib.hid (by
        have h := Ss.texts hown4 F3.out (fun s hs => by
          simp only [List.nil_append] at hs
          rcases List.mem_append.1 hs with h | h
          · exact H1.out.2.2.2 s h
          · exact H2.out.2.2.2 s h)
        simpa using h)
      clear hown3 hb3 hown4 hb4 F1 F2 F3 F4
      refine (encode_any _ n L w4 (H1.out.later B4.out) (by have := HB.out; omega)).mono ?_
      rintro e w5 ⟨ax, cx, rfl, hown, hb⟩
      have HX := Lib.hid (And.intro hown hb)
      clear hown hb
      go_wp2_with fail
      refine (encode_any _ m M w5 ((H2.out.later B4.out).later HX.out.2) (by have := HB2.out; omega)).mono ?_
      rintro e w6 ⟨ay, cy, rfl, hown, hb⟩
      have HY := Lib.hid (And.intro hown hb)
      clear hown hb
      go_wp2_with fail
      refine (encode_any _ (n + m) (L ++ M) w6 (HL4.out.later (Grow.trans HX.out.2 HY.out.2)) (by rw [bulk_append]; have := HB2.out; have := HB.out; omega)).mono ?_
      rintro e w7 ⟨az, cz, rfl, hown, hb⟩
      have RX := Lib.hid (HX.out.1.reads.later (Grow.trans HY.out.2 hb))
      have RY := Lib.hid (HY.out.1.reads.later hb)
      have RZ := Lib.hid hown.reads
      have lx := enc_length L
      have ly := enc_length M
      have lz := enc_length (L ++ M)
      have kx := bulk_length L
      have ky := bulk_length M
      rw [bulk_append] at lz
      have x4 : 4 ≤ (enc L).length := by omega
      have y4 : 4 ≤ (enc M).length := by omega
      have z4 : 4 ≤ (enc (L ++ M)).length := by rw [List.length_append] at lz; omega
      have zz : (enc (L ++ M)).length ≤ 100000 := by rw [List.length_append] at lz; have := HB2.out; have := HB.out; omega
      obtain ⟨ax, rfl⟩ := HX.out.1.some (by omega)
      obtain ⟨ay, rfl⟩ := HY.out.1.some (by omega)
      obtain ⟨az, rfl⟩ := hown.some (by omega)
      have B7 := Lib.hid (((B4.out.trans (HX.out.2.mono B4.out.size)).trans (HY.out.2.mono (Nat.le_trans B4.out.size HX.out.2.size))).trans (hb.mono (Nat.le_trans B4.out.size (Nat.le_trans HX.out.2.size HY.out.2.size))))
      have HDEC : Hid (dec (enc (L ++ M)) = some (L ++ M)) := Lib.hid (dec_enc _ (by rw [bulk_append]; have := HB2.out; have := HB.out; omega))
      have HNUM : Hid (numOf ((((enc (L ++ M))).drop 0).take 4) = ((n + m : Nat) : Int)) := Lib.hid (by
        rw [List.drop_zero]
        unfold enc
        rw [List.take_left' (be4_length _), numOf_be4, List.length_append, ← H1.out.1, ← H2.out.1]
        omega)
      have HCAT : Hid ((enc (L ++ M)).drop 4 = (enc L).drop 4 ++ (enc M).drop 4) := Lib.hid (by
        unfold enc
        rw [List.drop_left' (be4_length _), List.drop_left' (be4_length _), List.drop_left' (be4_length _), encs_append])
      clear hown hb lx ly lz kx ky HX HY HL4 B4
      generalize enc (L ++ M) = Z at *
      generalize enc L = X at *
      generalize enc M = Y at *
      have HLEN := Lib.hid (And.intro (rfl : X.length = X.length) (And.intro (rfl : Y.length = Y.length) (rfl : Z.length = Z.length)))
      generalize hx : X.length = p at *
      generalize hy : Y.length = q at *
      generalize hz : Z.length = r at *
      have HLX := Lib.hid hx
      have HLY := Lib.hid hy
      have HLZ := Lib.hid hz
      clear hx hy hz HLEN
      have d1 : ¬ (p : Int) < 4 := by omega
      have d2 : ¬ (q : Int) < 4 := by omega
      have d3 : ¬ (r : Int) < 4 := by omega
      go_wp2_with fail
      refine (get_in _ r Z 0 w7 RZ.out HLZ.out.symm (Lib.hid (by unfold maxLen; omega)) (by omega)).mono ?_
      rintro e w8 ⟨rfl, rfl⟩
      rw [HNUM.out]
      go_wp2_with fail
      refine (decode_any _ r Z w8 RZ.out HLZ.out.symm (Lib.hid (by omega))).mono ?_
      rintro e w9 ⟨hb9, ⟨K, ak, ck, hK, rfl, hT⟩ | ⟨hK, _⟩⟩
      rotate_left
      · rw [HDEC.out] at hK; cases hK
      obtain rfl : L ++ M = K := by rw [HDEC.out] at hK; exact Option.some.inj hK
      have hkl : (L ++ M).length = n + m := by rw [List.length_append, ← H1.out.1, ← H2.out.1]
      rw [hkl]
      have RX9 := Lib.hid (RX.out.later hb9)
      have RY9 := Lib.hid (RY.out.later hb9)
      have RZ9 := Lib.hid (RZ.out.later hb9)
      have B9 := Lib.hid (B7.out.trans (hb9.mono B7.out.size))
      clear hb9 hK hT hkl RX RY RZ B7 HB HB2
      go_wp2_with fail
      have xc : p ≤ cx := by
        obtain ⟨_, _, e, h0, _⟩ := RX9.out
        simp only [Value.slice.injEq, bv_length] at e h0
        have := HLX.out
        omega
      have yc : q ≤ cy := by
        obtain ⟨_, _, e, h0, _⟩ := RY9.out
        simp only [Value.slice.injEq, bv_length] at e h0
        have := HLY.out
        omega
      have zc : r ≤ cz := by
        obtain ⟨_, _, e, h0, _⟩ := RZ9.out
        simp only [Value.slice.injEq, bv_length] at e h0
        have := HLZ.out
        omega
      have i1 : (4 : Int) ≤ (p : Int) := by omega
      have i2 : (4 : Int) ≤ (q : Int) := by omega
      have i3 : (4 : Int) ≤ (r : Int) := by omega
      have wnm : IntKind.i64.wrap ((n : Int) + (m : Int)) = ((n + m : Nat) : Int) := by rw [IntKind.wrap_i64]; omega
      obtain ⟨bz, hbz, jz⟩ : ∃ bz, (if cz = 4 then some az else some { block := az.block, off := az.off + 4 }) = some bz ∧ (bz = az.add 4 ∨ Z.length = 4) := by
        by_cases h : cz = 4
        · exact ⟨az, by rw [if_pos h], .inr (by have := HLZ.out; omega)⟩
        · exact ⟨_, by rw [if_neg h], .inl (by simp [Addr.add])⟩
      obtain ⟨bx, hbx, jx⟩ : ∃ bx, (if cx = 4 then some ax else some { block := ax.block, off := ax.off + 4 }) = some bx ∧ (bx = ax.add 4 ∨ X.length = 4) := by
        by_cases h : cx = 4
        · exact ⟨ax, by rw [if_pos h], .inr (by have := HLX.out; omega)⟩
        · exact ⟨_, by rw [if_neg h], .inl (by simp [Addr.add])⟩
      obtain ⟨by', hby, jy⟩ : ∃ by', (if cy = 4 then some ay else some { block := ay.block, off := ay.off + 4 }) = some by' ∧ (by' = ay.add 4 ∨ Y.length = 4) := by
        by_cases h : cy = 4
        · exact ⟨ay, by rw [if_pos h], .inr (by have := HLY.out; omega)⟩
        · exact ⟨_, by rw [if_neg h], .inl (by simp [Addr.add])⟩
      have cvz := conv_up (w := w9.drew) (RZ9.out.drop 4 z4 bz jz)
      have cvx := conv_up (w := w9.drew) (RX9.out.drop 4 x4 bx jx)
      have cvy := conv_up (w := w9.drew) (RY9.out.drop 4 y4 by' jy)
      have hadd : ∀ W : World, (Op.stringOp .add (⟨(X.drop 4).toArray⟩ : ByteArray) (⟨(Y.drop 4).toArray⟩ : ByteArray)).run Try.prog W = .ok (.string ⟨(Z.drop 4).toArray⟩) W := by
        intro W
        have hcl := congrArg List.length HCAT.out
        simp only [List.length_append, List.length_drop] at hcl
        have e1 := HLX.out
        have e2 := HLY.out
        have e3 := HLZ.out
        rw [HCAT.out]
        exact run_string_add_lists (P := Try.prog) W (X.drop 4) (Y.drop 4) (by simp only [List.length_drop]; omega) (by simp only [List.length_drop]; omega)
      have B9d : Hid (Below w.heap.size w w9.drew) := Lib.hid (below_drewN B9.out 1)
      clear RX9 RY9 RZ9 jx jy jz B9
      refine wp_region_mv [(0, 25, true), (25, 1, false), (26, 9, true), (35, 1, false), (36, 2, true)] (by kernel_rfl) (by kernel_rfl) ?_
      simp only [mvAll, mvSeg, List.drop_succ_cons, List.drop_zero, List.cons_append, List.nil_append, Nat.reduceAdd]
      iterate 25
        refine wpLin_still ?_ (fun w' hG K hK => ?_) (fun K hK => ?_)
        rotate_left
        · unfold mvVal
          go_simp
          try exact hK
        go_simp
        refine hK _ ?_
        clear hK K
      clear cvx cvy cvz hadd hbx hby hbz
      refine wpLin_call (fun K hK => ?_)
      unfold mvRun
      go_simp
      simp only [mvUpon]
      refine (num_any _ _).mono ?_
      rintro e w10 ⟨rfl, rfl⟩
      refine ⟨_, rfl, ?_⟩
      go_simp
      refine hK _ _ (Grow.refl _) ?_
      clear hK K
      iterate 9
        refine wpLin_still ?_ (fun w' hG K hK => ?_) (fun K hK => ?_)
        rotate_left
        · unfold mvVal
          go_simp
          try exact hK
        go_simp
        refine hK _ ?_
        clear hK K
      refine wpLin_call (fun K hK => ?_)
      unfold mvRun
      go_simp
      simp only [mvUpon]
      refine (awake_any _).mono ?_
      rintro e w11 ⟨rfl, hb11⟩
      refine ⟨_, rfl, ?_⟩
      go_simp
      refine hK _ _ hb11 ?_
      clear hK K
      have B11 := Lib.hid (B9d.out.trans (hb11.mono B9d.out.size))
      clear hb11
      iterate 2
        refine wpLin_still ?_ (fun w' hG K hK => ?_) (fun K hK => ?_)
        rotate_left
        · unfold mvVal
          go_simp
          try exact hK
        go_simp
        refine hK _ ?_
        clear hK K
      refine wpLin_nil ?_
      go_wp2
      go_ret
      exact ⟨rfl, B11.out⟩

end Go.Proofs.Ytnfehpienhlfpaa
