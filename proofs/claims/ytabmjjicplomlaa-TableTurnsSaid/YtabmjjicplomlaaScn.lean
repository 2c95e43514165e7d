/- The code's Scan. Numbers and types by name. -/
import Derived.Test.YtabmjjicplomlaaScr
import Derived.Test.YtabmjjicplomlaaCon
import Derived.Test.YtabmjjicplomlaaNum
import Derived.Test.YtabmjjicplomlaaSmo
import Derived.WalkMore
namespace Go.Proofs.Ytabmjjicplomlaa
open Go.RowKit Go.Lib

set_option maxHeartbeats 4000000 in
theorem scan_any (v : Value) (m : Nat) (b : List UInt8) (w : World) (hr : Reads w v (bv b)) (hm : m = b.length) (hl : Hid (m ≤ 1000000000)) :
    Calls Try.prog 28 #[v] w (ScanDone b w) := by
  obtain ⟨ao, c, rfl⟩ : ∃ ao c, v = .slice ao m c := by obtain ⟨ao, c, rfl, _⟩ := hr; exact ⟨ao, c, by rw [bv_length, hm]⟩
  have HR := Lib.hid hr
  have HM := Lib.hid hm
  have HL : Hid (m ≤ maxLen) := Lib.hid (by have := hl.out; unfold maxLen; omega)
  clear hr hm
  go_enter Try.func28, Try.ntmps28
  go_wp2_with fail
  go_step3
  go_wp2_with fail
  go_step3
  go_wp2_with fail
  go_loopw [2, 3] (fun lv gv wr => ∃ k : Nat, gv = .int .i64 k ∧ Hid (ScanAt b w wr lv k m))
    (fun _ gv _ => m + 8 - (intOf gv).toNat)
  case atStart => exact ⟨0, rfl, Lib.hid ⟨none, 0, 0, [], rfl, Ows.nil _ _, Below.refl _ _, Nat.zero_le _, by omega, fun l n h => by simpa using h⟩⟩
  case round =>
    obtain ⟨k, rfl, hrel⟩ := hrel
    have hkm : k ≤ m := by obtain ⟨_, _, _, _, _, _, _, h, _⟩ := hrel.out; exact h
    have hbel : Below w.heap.size w wr := by obtain ⟨_, _, _, _, _, _, h, _⟩ := hrel.out; exact h
    have hrr := HR.out.later hbel
    have hl' := hl.out
    obtain ⟨k9, hk9⟩ : ∃ k9, k9 = k + 8 := ⟨_, rfl⟩
    have e8 : (k : Int) + 8 = (k9 : Int) := by omega
    have HK := Lib.hid hk9
    clear hk9
    by_cases h8 : k + 8 ≤ m
    · obtain ⟨q, hq⟩ : ∃ q : Nat, numOf ((b.drop k).take 4) = q := ⟨_, (Int.toNat_of_nonneg (numOf_bound _).1).symm⟩
      obtain ⟨s, hs⟩ : ∃ s : Nat, numOf ((b.drop (k + 4)).take 4) = s := ⟨_, (Int.toNat_of_nonneg (numOf_bound _).1).symm⟩
      have hone := one_drop (b := b) (k := k) (by have := HM.out; omega) q s hq hs
      rw [← HM.out] at hone
      have G1 := get_in _ m b k wr hrr HM.out HL (by omega)
      rw [hq] at G1
      have G2 := get_in _ m b (k + 4) wr hrr HM.out HL (by omega)
      rw [hs, show (((k + 4 : Nat)) : Int) = (k : Int) + 4 by omega] at G2
      have HONE := Lib.hid hone
      clear hq hs hone
      by_cases c1 : 1048576 < q
      · have c1' : (1048576 : Int) < (q : Int) := by omega
        have HS := Lib.hid (scan_stops hrel.out HM.out (by rw [HONE.out, if_neg (by omega)]))
        clear hrel
        go_wp2_with fail
        refine G1.mono ?_
        rintro e w2 ⟨rfl, hw2⟩
        subst hw2
        clear G1
        go_wp2_with fail
        refine G2.mono ?_
        rintro e w3 ⟨rfl, hw3⟩
        subst hw3
        clear G2
        go_wp2_with fail
        (try rw [Exit.noGoto_ret])
        go_ret2
        exact HS.out _ (Below.refl _ _)
      · have c1' : ¬ (1048576 : Int) < (q : Int) := by omega
        by_cases c2 : m - (k + 8) < q
        · have c2' : (m : Int) - (k9 : Int) < (q : Int) := by omega
          have HS := Lib.hid (scan_stops hrel.out HM.out (by rw [HONE.out, if_neg (by omega)]))
          clear hrel
          go_wp2_with fail
          refine G1.mono ?_
          rintro e w2 ⟨rfl, hw2⟩
          subst hw2
          clear G1
          go_wp2_with fail
          refine G2.mono ?_
          rintro e w3 ⟨rfl, hw3⟩
          subst hw3
          clear G2
          go_wp2_with fail
          (try rw [Exit.noGoto_ret])
          go_ret2
          exact HS.out _ (Below.refl _ _)
        · have c2' : ¬ (m : Int) - (k9 : Int) < (q : Int) := by omega
          obtain ⟨a, rfl⟩ : ∃ a, ao = some a := by
            obtain ⟨ao', c', e, _, hn0, _⟩ := HR.out
            cases ao with
            | some a => exact ⟨a, rfl⟩
            | none =>
              simp only [Value.slice.injEq] at e
              have := (hn0 e.1.symm).1
              have : b = [] := by simpa [bv] using this
              have hm := HM.out
              subst this; simp at hm; omega
          have hmc : m ≤ c := by
            obtain ⟨_, _, e, h0, _⟩ := HR.out
            simp only [Value.slice.injEq, bv_length] at e h0
            have := HM.out
            omega
          have hk9 := HK.out
          rw [← hk9] at HONE
          obtain ⟨bz, hbz, jz⟩ : ∃ bz, (if c = k9 then some a else some (a.add k9)) = some bz ∧ (bz = a.add k9 ∨ b.length = k9) := by
            by_cases h : c = k9
            · exact ⟨a, if_pos h, .inr (by have := HM.out; omega)⟩
            · exact ⟨a.add k9, if_neg h, .inl rfl⟩
          have HRD : Hid (Reads wr (.slice (some bz) q (c - k9)) (bv ((b.drop k9).take q))) := Lib.hid ((hrr.drop k9 (by omega) bz jz).prefix q (by omega))
          have x1 : (k9 : Int) + (q : Int) ≤ (c : Int) := by omega
          have x2 : k9 ≤ k9 + q := by omega
          have x3 : k9 + q ≤ c := by omega
          have u9 : wrap64 ((k9 : Int) + (q : Int)) = ((k9 + q : Nat) : Int) := by rw [wrap64_id _ (by omega)]; omega
          have HX := Lib.hid (And.intro hk9 (And.intro h8 (And.intro c2 hmc)))
          have HU9 := Lib.hid u9
          have hlen : Hid (q = ((b.drop k9).take q).length) := Lib.hid (by have := HX.out; have := HM.out; rw [List.length_take, List.length_drop]; omega)
          have C5 := sum_any _ q _ wr HRD.out hlen.out (Lib.hid (by omega))
          have HC5 := Lib.hid C5
          clear u9 hk9 jz C5
          by_cases hsum : sumOf 0 ((b.drop k9).take q) = (s : Int)
          · have hsum2 : (sumOf 0 ((b.drop k9).take q) != (s : Int)) = false := by simpa using hsum
            obtain ⟨aL, j, cL, ps, rfl, ho, _, _, hjk, hscan⟩ := hrel.out
            have HO := Lib.hid (And.intro ho (And.intro hjk hscan))
            have HONE2 : Hid (one? (b.drop k) = some ((b.drop k9).take q, b.drop (k9 + q))) := Lib.hid (by rw [HONE.out, if_pos ⟨by omega, by omega, hsum⟩])
            have FL : Hid (j + 1 ≤ 1000000000) := Lib.hid (by omega)
            have F1 : Hid (q ≤ maxLen) := Lib.hid (by unfold maxLen; omega)
            have HBEL := Lib.hid hbel
            have HC6 := Lib.hid (clone_any _ q _ wr HRD.out hlen.out (Lib.hid (by omega)))
            clear hrel ho hjk hscan hbel
            go_wp2_with fail
            refine G1.mono ?_
            rintro e w2 ⟨rfl, hw2⟩
            subst hw2
            clear G1
            go_wp2_with fail
            refine G2.mono ?_
            rintro e w3 ⟨rfl, hw3⟩
            subst hw3
            clear G2
            go_wp2_with fail
            refine HC5.out.mono ?_
            rintro e w4 ⟨rfl, hw4⟩
            subst hw4
            clear HC5
            go_wp2_with fail
            refine HC6.out.mono ?_
            rintro e w5 ⟨ao5, c5, rfl, hown5, hb5⟩
            have O5 := HO.out.1.later (hb5.mono (Nat.le_refl _))
            have B5 : Below w.heap.size w w5 := HBEL.out.trans (hb5.mono HBEL.out.size)
            have HP := Lib.hid (And.intro O5 (And.intro B5 (And.intro hown5 hb5)))
            clear O5 B5 HC6 hown5 hb5
            have hap : Hid (∀ a, ao5 = some a → some a.block ≠ (Value.slice aL j cL).ownBlock ∧ a.block < (w5.alloc (.cells #[.slice ao5 q c5] 24)).heap.size) := Lib.hid fun a ha => by
              subst ha
              obtain ⟨O5, B5, hown5, hb5⟩ := HP.out
              have h1 := hown5.2.lt a.block rfl
              refine ⟨fun e => ?_, by simp; omega⟩
              obtain ⟨_, vs, h2, _⟩ := HO.out.1
              have := (h2.lt a.block e.symm).2
              omega
            go_wp2_with (at_builtin; refine wpList_append_row rfl (.tmp 48) (.tmp 54) rfl w.heap.size (.slice aL j cL) j ps rfl (HP.out.1.later ((Below.refl _ w5).alloc (Nat.le_refl _) _)) ⟨w5.heap.size, 0, none⟩ _ q ao5 c5 HP.out.2.2.1.1 rfl (by rw [World.cell?_alloc_mark]; rfl) (HP.out.2.2.1.alloc _).reads hap.out F1 (j + 1) rfl FL (Nat.le_trans HP.out.2.1.size (by simp)) ?_; intro ao6 c6 w6 hown6 hb6)
            have hx := HX.out
            have hb3 : Below w.heap.size w w6 := HP.out.2.1.trans (((Below.refl _ w5).alloc HP.out.2.1.size _).trans hb6)
            have hjk := HO.out.2.1
            refine ⟨⟨k9 + q, by simp, Lib.hid ⟨ao6, j + 1, c6, _, rfl, hown6, hb3, by omega, by omega, fun l n h => ?_⟩⟩, by simp only [intOf]; omega⟩
            have h2 := HO.out.2.2 _ _ (.more HONE2.out h)
            rw [← hlen.out, show k + (8 + q + n) = k9 + q + n by omega] at h2
            simpa using h2
          · have hsum2 : (sumOf 0 ((b.drop k9).take q) != (s : Int)) = true := by simpa using hsum
            have HS := Lib.hid (scan_stops hrel.out HM.out (by rw [HONE.out, if_neg (fun h => hsum h.2.2)]))
            clear hrel
            go_wp2_with fail
            refine G1.mono ?_
            rintro e w2 ⟨rfl, hw2⟩
            subst hw2
            clear G1
            go_wp2_with fail
            refine G2.mono ?_
            rintro e w3 ⟨rfl, hw3⟩
            subst hw3
            clear G2
            go_wp2_with fail
            refine HC5.out.mono ?_
            rintro e w4 ⟨rfl, hw4⟩
            subst hw4
            clear HC5
            go_wp2_with fail
            (try rw [Exit.noGoto_ret])
            go_ret2
            exact HS.out _ (Below.refl _ _)
    · have h0 := one_short (b := b) (k := k) (by have := HM.out; omega)
      have HS := Lib.hid (scan_stops hrel.out HM.out h0)
      have C1 : ∃ x ok, Calls Try.prog 45 #[.slice ao m c, .int .i64 (k : Int)] wr fun e w' => e = .returned (.tuple #[.int .i64 x, .bool ok]) ∧ w' = wr := by
        by_cases h4 : k + 4 ≤ m
        · exact ⟨_, _, get_in _ m b k wr hrr HM.out HL h4⟩
        · exact ⟨_, _, get_out _ m b (k : Int) wr hrr HM.out HL (by omega)⟩
      obtain ⟨x, ok, C1⟩ := C1
      have G2 := get_out _ m b ((k : Int) + 4) wr hrr HM.out HL (by omega)
      clear h0 hrel
      go_wp2_with fail
      refine C1.mono ?_
      rintro e w2 ⟨rfl, hw2⟩
      subst hw2
      clear C1
      go_wp2_with fail
      refine G2.mono ?_
      rintro e w3 ⟨rfl, hw3⟩
      subst hw3
      clear G2
      go_wp2_with fail
      (try rw [Exit.noGoto_ret])
      go_ret2
      exact HS.out _ (Below.refl _ _)

end Go.Proofs.Ytabmjjicplomlaa
