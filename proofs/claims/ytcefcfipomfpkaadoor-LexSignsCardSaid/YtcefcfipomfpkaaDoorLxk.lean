/- What is asked of the code's lexer; the document's example; lists of tokens compared. Numbers and types by name. -/
import Derived.Test.YtcefcfipomfpkaaDoorLxs
import Derived.Test.YtcefcfipomfpkaaDoorSgn
namespace Go.Proofs.YtcefcfipomfpkaaDoor
open Go.RowKit Go.Lib
set_option maxRecDepth 100000

/-- What is asked of the code's lexer. -/
structure LexK : Prop where
  lex : ∀ (l : List UInt8) (w : World), SgW w → Calls Tryd.prog 9 #[.string (tx l)] w (LexTold w (lexP l))

theorem lnum_at (k : Int) (w : World) : Calls Tryd.prog 12 #[.int .i64 k] w fun e w' => e = .returned (.int .i64 k) ∧ w = w' := by
  go_enter Tryd.func12, Tryd.ntmps12
  go_wp2_with fail
  go_ret
  exact ⟨rfl, rfl⟩

theorem lex_ex : lexP [120, 61, 49, 59] = ⟨[⟨1, [120], 0⟩, ⟨4, [61], 1⟩, ⟨2, [49], 2⟩, ⟨4, [59], 3⟩, ⟨0, [], 4⟩], 0, 0⟩ := by decide
theorem awake_lex (K : LexK) (w : World) (ht : SgW w) : Calls Tryd.prog 8 #[] w fun e w' => e = .returned (.bool true) ∧ Below w.heap.size w w' := by
  have P := K.lex [120, 61, 49, 59] w ht
  clear ht
  rw [lex_ex] at P
  change Calls _ _ #[.string ⟨#[120, 61, 49, 59]⟩] _ _ at P
  go_enter Tryd.func8, Tryd.ntmps8
  go_wp2_with fail
  refine P.mono ?_
  rintro e w1 ⟨ao, n, c, rfl, hT, hb⟩
  have H := Lib.hid hb
  obtain ⟨a, o, rfl, ho, d0, d1, d2⟩ := hT.at (k := 4) (by have := hT.1; simp at this; omega)
  have hn : n = 5 := hT.1
  subst hn
  obtain rfl : o = ⟨0, [], 4⟩ := by simpa using ho.symm
  have d3 : w1.cell? ⟨a.block, a.off + 12 + 2, none⟩ = some (.int .i64 4) := d2
  clear hT hb ho d0 d1 d2 P
  go_wp2_with (go_at_call 12; refine (lnum_at _ _).mono ?_; rintro e w' ⟨rfl, rfl⟩)
  go_ret
  exact ⟨rfl, H.out⟩

/-- What same tells. -/
def SameT (ps qs : List Tk) (w : World) (e : Ending) (w' : World) : Prop := ∃ k, e = .returned (.bool (decide (ps = qs))) ∧ w' = w.drewN k
theorem same_toks (v1 v2 : Value) (n m : Nat) (ps qs : List Tk) (w : World) (h1 : Tkr w v1 n ps) (h2 : Tkr w v2 m qs) :
    Calls Tryd.prog 11 #[v1, v2] w (SameT ps qs w) := by
  obtain ⟨a1, c1, rfl⟩ := h1.shape
  obtain ⟨a2, c2, rfl⟩ := h2.shape
  have H1 := Lib.hid h1
  have H2 := Lib.hid h2
  have hm := h1.2.1
  clear h1 h2
  by_cases hne : n = m
  · subst hne
    go_enter Tryd.func11, Tryd.ntmps11
    go_wp2_with fail
    go_loopw [5] (fun i wr => ∃ k q : Nat, k ≤ n ∧ i = .int .i64 k ∧ wr = w.drewN q ∧ Hid (ps.take k = qs.take k))
      (fun i _ => n - (RowKit.intOf i).toNat)
    case atStart => exact ⟨0, 0, Nat.zero_le _, rfl, rfl, Lib.hid rfl⟩
    case round =>
      obtain ⟨k, q, hk, rfl, hw, hs⟩ := hrel
      by_cases h1 : k < n
      · have h3 : (k : Int) < (n : Int) := by omega
        have R1 : Tkr wr (.slice a1 n c1) n ps := by rw [hw]; exact H1.out
        have R2 : Tkr wr (.slice a2 n c2) n qs := by rw [hw]; exact H2.out
        obtain ⟨x1, o1, rfl, e1, ca0, ca1, ca2⟩ := R1.at h1
        obtain ⟨x2, o2, rfl, e2, cb0, cb1, cb2⟩ := R2.at h1
        have HW := Lib.hid (And.intro hw (And.intro e1 e2))
        clear hw e1 e2 R1 R2
        obtain ⟨k1, t1, p1⟩ := o1
        obtain ⟨k2, t2, p2⟩ := o2
        simp only at ca0 ca1 ca2 cb0 cb1 cb2
        have y1 := tx_list t1
        have y2 := tx_list t2
        have hwr : wrap64 ((k : Int) + 1) = (k : Int) + 1 := wrap64_id _ (by omega)
        by_cases hk2 : k1 = k2
        · by_cases ht2 : t1 = t2
          · by_cases hp2 : p1 = p2
            · subst hk2 ht2 hp2
              have HN : Hid (ps.take (k + 1) = qs.take (k + 1)) := Lib.hid (by rw [take_next HW.out.2.1, take_next HW.out.2.2, hs.out])
              clear y2
              go_wp2_with fail
              go_quiet (fail)
              go_wp2
              exact ⟨⟨k + 1, q + nq, by omega, by go_num, by rw [HW.out.1, World.drewN_drewN], HN⟩, by simp [RowKit.intOf]; omega⟩
            · subst hk2 ht2
              have HN : Hid (ps ≠ qs) := Lib.hid (by
                rintro rfl
                have e := HW.out.2.1.symm.trans HW.out.2.2
                simp only [Option.some.injEq, Tk.mk.injEq, true_and] at e
                exact hp2 e)
              have hp3 : ¬ (p1 : Int) = (p2 : Int) := by omega
              clear y2
              go_wp2_with fail
              go_quiet (fail)
              go_wp2
              go_ret
              exact ⟨q + nq, by rw [decide_eq_false HN.out]; rfl, by rw [HW.out.1, World.drewN_drewN]⟩
          · subst hk2
            have HN : Hid (ps ≠ qs) := Lib.hid (by
              rintro rfl
              have e := HW.out.2.1.symm.trans HW.out.2.2
              simp only [Option.some.injEq, Tk.mk.injEq, true_and] at e
              exact ht2 e.1)
            go_wp2_with fail
            go_quiet (fail)
            go_wp2
            go_ret
            exact ⟨q + nq, by rw [decide_eq_false HN.out]; rfl, by rw [HW.out.1, World.drewN_drewN]⟩
        · have HN : Hid (ps ≠ qs) := Lib.hid (by
            rintro rfl
            have e := HW.out.2.1.symm.trans HW.out.2.2
            simp only [Option.some.injEq, Tk.mk.injEq] at e
            exact hk2 e.1)
          go_wp2_with fail
          go_quiet (fail)
          go_wp2
          go_ret
          exact ⟨q + nq, by rw [decide_eq_false HN.out]; rfl, by rw [HW.out.1, World.drewN_drewN]⟩
      · have h3 : ¬ (k : Int) < (n : Int) := by omega
        obtain rfl : k = n := by omega
        have HW := Lib.hid hw
        clear hw
        go_wp2_with fail
        go_ret
        have h5 := hs.out
        rw [List.take_of_length_le (by have := H1.out.1; omega), List.take_of_length_le (by have := H2.out.1; omega)] at h5
        exact ⟨q, by rw [decide_eq_true h5]; rfl, HW.out⟩
  · have h3 : ¬ (n : Int) = (m : Int) := by omega
    have h4 : ((n : Int) != (m : Int)) = true := by simpa using h3
    go_enter Tryd.func11, Tryd.ntmps11
    go_wp2_with fail
    go_ret
    refine ⟨0, ?_, rfl⟩
    rw [decide_eq_false]
    · rfl
    intro h; exact absurd (by have := H1.out.1; have := H2.out.1; rw [h] at *; omega) hne

end Go.Proofs.YtcefcfipomfpkaaDoor
