/- The reference's lexer, whole. Numbers and types by name. -/
import Derived.Test.YtcefcfipomfpkaaDoorLxb
import Derived.Test.YtcefcfipomfpkaaDoorLxc
import Derived.Test.YtcefcfipomfpkaaDoorLxd
import Derived.Test.YtcefcfipomfpkaaDoorLxe
namespace Go.Proofs.YtcefcfipomfpkaaDoor
open Go.RowKit Go.Lib
set_option maxRecDepth 100000

set_option maxRecDepth 1000000 in
set_option maxHeartbeats 4000000 in
theorem ref_lex (l : List UInt8) (w : World) : Calls Tryd.prog 10 #[.string (tx l)] w (LexTold w (lexP l)) := by
  have hsz := tx_size l
  by_cases hbig : 8192 < l.length
  · have hb : (8192 : Int) < (l.length : Int) := by omega
    have HR : lexP l = ⟨[], 9, 8192⟩ := if_pos hbig
    rw [HR]
    go_enter Tryd.func10, Tryd.ntmps10
    go_wp2_with fail
    go_ret3
    exact ⟨none, 0, 0, rfl, Tkr.nil _, Below.refl _ _⟩
  have hb : ¬ (8192 : Int) < (l.length : Int) := by omega
  obtain ⟨R, hR⟩ : ∃ R, R = lexP l := ⟨_, rfl⟩
  have HR : Hid (appL [] (lexA 0 (l.drop 0)) = R) := Lib.hid (by rw [appL_nil, hR]; exact (if_neg hbig).symm)
  rw [← hR]
  clear hR
  have HL := Lib.hid hbig
  go_enter Tryd.func10, Tryd.ntmps10
  go_wp2_with fail
  go_loopw [5, 6] (fun v i wr => ∃ (n c k : Nat) (ao : Option Addr), k ≤ l.length ∧ i = .int .i64 k ∧ v = .slice ao n c ∧ Hid (LexAt w wr l R k (.slice ao n c) n))
    (fun _ i _ => l.length - (RowKit.intOf i).toNat)
  case atStart => exact ⟨0, 0, 0, none, Nat.zero_le _, rfl, rfl, Lib.hid ⟨[], OwnT.nil _ _, Below.refl _ _, HR.out, Nat.zero_le _⟩⟩
  case round =>
    obtain ⟨n, c0, k, ao, hk, rfl, rfl, hG⟩ := hrel
    by_cases hlt : k < l.length
    · have h3 : (k : Int) < (l.length : Int) := by omega
      obtain ⟨c, r, hd⟩ : ∃ c r, l.drop k = c :: r := by
        cases hx : l.drop k with
        | nil =>
          have := congrArg List.length hx
          simp only [List.length_drop, List.length_nil] at this
          omega
        | cons c r => exact ⟨c, r, rfl⟩
      by_cases s1 : isSpc c = true
      · exact lexr_blank l w wr R _ HL.out n c0 k ao hk hG hlt c r hd s1 _ _ _ _ _ _ _ _ _ _ _ _ _ _ _ _ _ _ _ _ _ _ _ _ _ _ _ _ _ _ _ _ _ _ _ _ _ _ _ _ _ _ _ _ _ _ _ _ _ _ _ _ _ _ _ _ _ _ _ _ _ _ _ _ _ _ _ _ _ _ _ _ _ _ _ _ _ _ _ _ _ _ _ _ _ _ _ _ _ _ _ _ _ _ _ _ _ _ _ _ _ _ _ _ _ _ _ _ _ _ _ _ _ _ _ _ _ _ _ _ _ _ _ _ _ _ _ _ _ _ _ _ _ _ _ _ _ _ _ _ _ _ _ _ _ _ _ _ _ _ _ _ _ _ _ _ _ _ _ _ _ _ _ _ _ _ _ _ _ _
      by_cases s2 : c = 35
      · exact lexr_remark l w wr R _ HL.out n c0 k ao hk hG hlt c r hd s1 s2 _ _ _ _ _ _ _ _ _ _ _ _ _ _ _ _ _ _ _ _ _ _ _ _ _ _ _ _ _ _ _ _ _ _ _ _ _ _ _ _ _ _ _ _ _ _ _ _ _ _ _ _ _ _ _ _ _ _ _ _ _ _ _ _ _ _ _ _ _ _ _ _ _ _ _ _ _ _ _ _ _ _ _ _ _ _ _ _ _ _ _ _ _ _ _ _ _ _ _ _ _ _ _ _ _ _ _ _ _ _ _ _ _ _ _ _ _ _ _ _ _ _ _ _ _ _ _ _ _ _ _ _ _ _ _ _ _ _ _ _ _ _ _ _ _ _ _ _ _ _ _ _ _ _ _ _ _ _ _ _ _ _ _ _ _ _ _ _ _ _
      by_cases s3 : isLet c = true
      · exact lexr_word l w wr R _ HL.out n c0 k ao hk hG hlt c r hd s1 s2 s3 _ _ _ _ _ _ _ _ _ _ _ _ _ _ _ _ _ _ _ _ _ _ _ _ _ _ _ _ _ _ _ _ _ _ _ _ _ _ _ _ _ _ _ _ _ _ _ _ _ _ _ _ _ _ _ _ _ _ _ _ _ _ _ _ _ _ _ _ _ _ _ _ _ _ _ _ _ _ _ _ _ _ _ _ _ _ _ _ _ _ _ _ _ _ _ _ _ _ _ _ _ _ _ _ _ _ _ _ _ _ _ _ _ _ _ _ _ _ _ _ _ _ _ _ _ _ _ _ _ _ _ _ _ _ _ _ _ _ _ _ _ _ _ _ _ _ _ _ _ _ _ _ _ _ _ _ _ _ _ _ _ _ _ _ _ _ _ _ _ _
      by_cases s4 : isDig c = true
      · exact lexr_number l w wr R _ HL.out n c0 k ao hk hG hlt c r hd s1 s2 s3 s4 _ _ _ _ _ _ _ _ _ _ _ _ _ _ _ _ _ _ _ _ _ _ _ _ _ _ _ _ _ _ _ _ _ _ _ _ _ _ _ _ _ _ _ _ _ _ _ _ _ _ _ _ _ _ _ _ _ _ _ _ _ _ _ _ _ _ _ _ _ _ _ _ _ _ _ _ _ _ _ _ _ _ _ _ _ _ _ _ _ _ _ _ _ _ _ _ _ _ _ _ _ _ _ _ _ _ _ _ _ _ _ _ _ _ _ _ _ _ _ _ _ _ _ _ _ _ _ _ _ _ _ _ _ _ _ _ _ _ _ _ _ _ _ _ _ _ _ _ _ _ _ _ _ _ _ _ _ _ _ _ _ _ _ _ _ _ _ _ _ _
      · exact lexr_sign l w wr R _ HL.out n c0 k ao hk hG hlt c r hd s1 s2 s3 s4 _ _ _ _ _ _ _ _ _ _ _ _ _ _ _ _ _ _ _ _ _ _ _ _ _ _ _ _ _ _ _ _ _ _ _ _ _ _ _ _ _ _ _ _ _ _ _ _ _ _ _ _ _ _ _ _ _ _ _ _ _ _ _ _ _ _ _ _ _ _ _ _ _ _ _ _ _ _ _ _ _ _ _ _ _ _ _ _ _ _ _ _ _ _ _ _ _ _ _ _ _ _ _ _ _ _ _ _ _ _ _ _ _ _ _ _ _ _ _ _ _ _ _ _ _ _ _ _ _ _ _ _ _ _ _ _ _ _ _ _ _ _ _ _ _ _ _ _ _ _ _ _ _ _ _ _ _ _ _ _ _ _ _ _ _ _ _ _ _ _
    · have h3 : ¬ (k : Int) < (l.length : Int) := by omega
      obtain rfl : k = l.length := by omega
      obtain ⟨acc, HAcc⟩ := hG.out
      have HA0 := Lib.hid HAcc
      have FL : Hid (n + 1 ≤ 1000000) := Lib.hid (by have := HAcc.1.1; have := HAcc.2.2.2; have := HL.out; omega)
      clear HAcc
      go_wp2_with (at_builtin; go_loud (refine wpList_append_gen elemTok rfl (.tmp 177) (.tmp 181) rfl w.heap.size _ n _ rfl (HA0.out.1.2.alloc _) _ 1 (tv ⟨0, [], l.length⟩) rfl (tok_lit _ ⟨0, [], l.length⟩) (tv_one _) (n + 1) rfl FL (by decide) (by have := HA0.out.2.1.size; simp; omega) ?_; intro ao6 c6 w6 hown6 hb6 _ _; have HA := Lib.hid (And.intro hown6 hb6); clear hown6 hb6))
      go_ret3
      have hR := HA0.out.2.2.1
      rw [List.drop_eq_nil_of_le (Nat.le_refl _), lexA_nil] at hR
      rw [← hR]
      exact ⟨ao6, n + 1, c6, rfl, OwnT.read ⟨by rw [HA0.out.1.1]; simp [appL], by rw [show (appL acc ⟨[⟨0, [], l.length⟩], 0, 0⟩).l = acc ++ [⟨0, [], l.length⟩] from rfl, tvs_snoc]; exact HA.out.1⟩ (by have := HA0.out.1.1; have := HA0.out.2.2.2; have := HL.out; omega), (HA0.out.2.1.alloc HA0.out.2.1.size _).trans HA.out.2⟩

end Go.Proofs.YtcefcfipomfpkaaDoor
