/- LexReads, walked over what is asked of the code's lexer. Numbers and types by name. -/
import Derived.Test.YtcefcfipomfpkaaDoorLxk
namespace Go.Proofs.YtcefcfipomfpkaaDoor
open Go.RowKit Go.Lib
set_option maxRecDepth 100000

set_option maxHeartbeats 2000000 in
theorem reads_lex (K : LexK) (l : List UInt8) (w : World) (ht : SgW w) : Calls Tryd.prog 3 #[.string (tx l)] w fun e w' => e = .returned (.bool true) ∧ Below w.heap.size w w' := by
  have hsz := tx_size l
  have HK := Lib.hid K
  have HT := Lib.hid ht
  by_cases hbig : 2000 < l.length ∧ l.length ≤ 8192
  · have h1 : (2000 : Int) < (l.length : Int) := by omega
    have h2 : (l.length : Int) ≤ (8192 : Int) := by omega
    clear K ht
    go_enter Tryd.func3, Tryd.ntmps3
    go_wp2_with fail
    refine (awake_lex HK.out _ HT.out).mono ?_
    rintro e w' ⟨rfl, hb9⟩
    have H9 := Lib.hid hb9
    clear hb9
    go_wp2_with fail
    go_ret
    exact ⟨rfl, H9.out⟩
  have hor : (¬ (2000 : Int) < (l.length : Int)) ∨ ((2000 : Int) < (l.length : Int) ∧ ¬ (l.length : Int) ≤ (8192 : Int)) := by omega
  have P1 := K.lex l w ht
  have P2 := fun w' => ref_lex l w'
  obtain ⟨R, hR⟩ : ∃ R, R = lexP l := ⟨_, rfl⟩
  rw [← hR] at P1 P2
  clear hR hbig K ht
  obtain ⟨RL, re, rp⟩ := R
  have HP2 := Lib.hid P2
  clear P2
  rcases hor with h1 | ⟨h1, h2⟩ <;>
  · go_enter Tryd.func3, Tryd.ntmps3
    go_wp2_with fail
    refine P1.mono ?_
    rintro e w1 ⟨a1, n1, c1, rfl, hT1, hb1⟩
    have H1 := Lib.hid (And.intro hT1 hb1)
    clear hT1 hb1 P1
    go_wp2_with fail
    refine (HP2.out w1).mono ?_
    rintro e w2 ⟨a2, n2, c2, rfl, hT2, hb2⟩
    have H2 := Lib.hid (And.intro (H1.out.1.later hb2) (And.intro hT2 (H1.out.2.trans (hb2.mono H1.out.2.size))))
    clear hT2 hb2
    go_wp2_with (first | (go_at_call 11; refine (same_toks _ _ _ _ _ _ _ H2.out.1 H2.out.2.1).mono ?_; rintro e w' ⟨q3, rfl, hw3⟩; have H3 := Lib.hid (show Below w.heap.size w w' by rw [hw3]; exact below_drewN H2.out.2.2 _); clear hw3; rw [decide_eq_true rfl]) | (go_at_call 12; refine (lnum_at _ _).mono ?_; rintro e w' ⟨rfl, rfl⟩) | (go_at_call 8; refine (awake_lex HK.out _ (HT.out.later H3.out)).mono ?_; rintro e w' ⟨rfl, hb9⟩; have H9 := Lib.hid (H3.out.trans (hb9.mono H3.out.size)); clear hb9))
    go_ret
    exact ⟨rfl, H9.out⟩
theorem reads_lexS (K : LexK) (s : ByteArray) (w : World) (ht : SgW w) : Calls Tryd.prog 3 #[.string s] w fun e w' => e = .returned (.bool true) ∧ Below w.heap.size w w' := by
  obtain ⟨l, rfl⟩ : ∃ l, s = tx l := ⟨_, tx_of rfl⟩
  exact reads_lex K l w ht

end Go.Proofs.YtcefcfipomfpkaaDoor
