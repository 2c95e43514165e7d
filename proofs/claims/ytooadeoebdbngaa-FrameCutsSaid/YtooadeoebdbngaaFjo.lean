/- FrameJoins, walked. Numbers and types by name. -/
import Derived.Test.YtooadeoebdbngaaFal
import Derived.Test.YtooadeoebdbngaaRwv
namespace Go.Proofs.Ytooadeoebdbngaa
open Go.RowKit Go.Lib

theorem scans_after {b : List UInt8} {ps l m : List (List UInt8)} {n k : Nat} (hp : ∀ p ∈ ps, p.length ≤ 1048576) (h : Scans b l n) (h2 : Scans (frms ps ++ b) m k) : m = ps ++ l ∧ k = (frms ps).length + n :=
  scans_det h2 (scans_frms h ps hp)

set_option maxHeartbeats 1000000 in
theorem joins_frame (v1 v2 : Value) (n m : Nat) (ps : List (List UInt8)) (b : List UInt8) (w : World) (h1 : Rws w v1 n ps) (h2 : Reads w v2 (bv b)) (e2 : m = b.length) (hx : Hid (m ≤ maxLen)) :
    Calls Try.prog 6 #[v1, v2] w fun e w' => e = .returned (.bool true) ∧ Below w.heap.size w w' := by
  obtain ⟨a1, c1, rfl⟩ := h1.shape
  obtain ⟨a2, c2, rfl⟩ : ∃ ao c, v2 = .slice ao m c := by obtain ⟨ao, c, rfl, _⟩ := h2; exact ⟨ao, c, by rw [bv_length, e2]⟩
  have H1 := Lib.hid h1
  have H2 := Lib.hid (And.intro h2 e2)
  have hm9 := hx.out
  unfold maxLen at hm9
  clear h1 h2 e2
  by_cases b2 : 2000 < m
  · have d2 : (2000 : Int) < (m : Int) := by omega
    go_enter Try.func6, Try.ntmps6
    go_wp2_with fail
    refine (great_rows _ n ps w H1.out).mono ?_
    rintro e w1 ⟨g, rfl, rfl, hb⟩
    clear hb
    cases g <;>
    · go_wp2_with (go_at_call 7; refine (awake_frame _).mono ?_; rintro e w' ⟨rfl, hb9⟩)
      go_ret
      exact ⟨rfl, hb9⟩
  have d2 : ¬ (2000 : Int) < (m : Int) := by omega
  go_enter Try.func6, Try.ntmps6
  go_wp2_with fail
  refine (great_rows _ n ps w H1.out).mono ?_
  rintro e w1 ⟨g, rfl, rfl, hb⟩
  cases g with
  | true =>
    clear hb
    go_wp2_with (go_at_call 7; refine (awake_frame _).mono ?_; rintro e w' ⟨rfl, hb9⟩)
    go_ret
    exact ⟨rfl, hb9⟩
  | false =>
    have HB := Lib.hid (hb rfl)
    have HP : Hid (∀ p ∈ ps, p.length ≤ 5000) := Lib.hid fun p hp => by have := bulkR_mem hp; have := hb rfl; omega
    have hn5 : n ≤ 5000 := by have := bulkR_length ps; have := hb rfl; have := H1.out.1; omega
    clear hb
    go_wp2_with fail
    go_loopw [5, 6] (fun xv i wr => ∃ (k r c : Nat) (ao : Option Addr), k ≤ n ∧ i = .int .i64 k ∧ xv = .slice ao r c ∧ Hid (Bs wr w.heap.size (.slice ao r c) r (frms (ps.take k)) ∧ Below w.heap.size w wr))
      (fun _ i _ => n - (intOf i).toNat)
    case atStart => exact ⟨0, 0, 0, none, Nat.zero_le _, rfl, rfl, Lib.hid ⟨⟨rfl, World.ownsRow_nil _ _ _ _⟩, Below.refl _ _⟩⟩
    case round =>
      obtain ⟨k, r, c, ao, hk, rfl, rfl, hrel⟩ := hrel
      by_cases hlt : k < n
      · have k0 : (k : Int) < (n : Int) := by omega
        obtain ⟨A1, p, ap, cp, rfl, hp, hc, hrd, hpl⟩ := (H1.out.later hrel.out.2).at hlt
        have hp5 : p.length ≤ 5000 := HP.out p (List.mem_of_getElem? hp)
        have F := frame_any _ p.length p wr hrd rfl (by omega)
        have hbd := frms_bulk (ps.take (k + 1))
        have hbt := bulk_take (l := ps) (k + 1)
        have hbb := HB.out
        rw [take_more hp, frms_snoc, List.length_append, frm_length, ← take_more hp] at hbd
        have hr := hrel.out.1.1
        obtain ⟨s, hs⟩ : ∃ s, s = r + (p.length + 8) := ⟨_, rfl⟩
        have F1 : Hid (s ≤ maxLen) := Lib.hid (by unfold maxLen; omega)
        have F2 : Hid (s * 1 ≤ 140737488355328) := Lib.hid (by omega)
        have HS := Lib.hid (And.intro hs (And.intro hp hrel.out))
        clear hp hp5 hbd hbt hbb hr hrd hpl hrel hs
        generalize p.length = pl at *
        go_wp2_with fail
        refine F.mono ?_
        rintro e w2 ⟨ax, cx, rfl, hx, hb2⟩
        have HX := Lib.hid (And.intro hx hb2)
        clear hx hb2 F hc
        go_wp2_with (first | (go_at_call 12; refine (num_code _ _).mono ?_; rintro e w' ⟨rfl, rfl⟩) | (at_builtin; refine wpList_append_bytes rfl (.tmp 40) (.tmp 41) rfl w.heap.size _ r _ rfl (HS.out.2.2.1.below HX.out.2 (Nat.le_refl _)) (.slice ax (pl + 8) cx) (pl + 8) (frm p) HX.out.1.1 rfl HX.out.1.reads s HS.out.1 F1 F2 (Nat.le_trans HS.out.2.2.2.size HX.out.2.size) ?_; intro ao5 c5 w5 hown5 hb5))
        refine ⟨⟨k + 1, s, c5, ao5, by omega, by simp, rfl, Lib.hid ⟨?_, (HS.out.2.2.2.trans (HX.out.2.mono HS.out.2.2.2.size)).trans hb5⟩⟩, by simp [intOf]; omega⟩
        rw [take_more HS.out.2.1, frms_snoc]
        exact hown5
      · obtain rfl : k = n := by omega
        have k0 : ¬ (k : Int) < (k : Int) := by omega
        have hk2 : ps.take k = ps := List.take_of_length_le (by have := H1.out.1; omega)
        have hr := hrel.out.1.1
        have hbd := frms_bulk ps
        have hbb := HB.out
        have hrel' := hrel.out
        rw [hk2] at hr hrel'
        obtain ⟨s, hs⟩ : ∃ s, s = r + m := ⟨_, rfl⟩
        have F1 : Hid (s ≤ maxLen) := Lib.hid (by unfold maxLen; omega)
        have F2 : Hid (s * 1 ≤ 140737488355328) := Lib.hid (by omega)
        have HS := Lib.hid (And.intro hs (And.intro (show s ≤ 50000 by omega) hrel'))
        have hr5 : r ≤ 50000 := by omega
        clear hk2 hr hbd hbb hrel hrel' hs
        go_wp2_with (at_builtin; refine wpList_append_bytes rfl (.tmp 45) (.tmp 46) rfl w.heap.size _ r _ rfl HS.out.2.2.1 (.slice a2 m c2) m b H2.out.2 rfl (H2.out.1.later HS.out.2.2.2) s HS.out.1 F1 F2 HS.out.2.2.2.size ?_; intro ao5 c5 w5 hown5 hb5)
        have B5 := Lib.hid (HS.out.2.2.2.trans hb5)
        refine (scan_any _ s _ w5 hown5.reads hown5.1 (Lib.hid (by have := HS.out.2.1; omega))).mono ?_
        rintro e w6 ⟨hb6, l, n9, al, cl, hs, hn9, rfl, ho⟩
        have HL := Lib.hid (And.intro (ho.rows (by have := bulk_scans hs; rw [← hown5.1] at hn9; have := HS.out.2.1; unfold maxLen; omega)) (And.intro hs hn9))
        have B6 := Lib.hid (B5.out.trans (hb6.mono B5.out.size))
        clear hb6 hs hn9 ho hown5 hb5 F1 F2
        go_wp2_with fail
        refine (scan_any _ m b w6 (H2.out.1.later B6.out) H2.out.2 (Lib.hid (by omega))).mono ?_
        rintro e w7 ⟨hb7, l2, n2, al2, cl2, hs2, hn2, rfl, ho2⟩
        have h9 := scans_after (fun p hp => by have := HP.out p hp; omega) hs2 HL.out.2.1
        obtain ⟨rfl, h9⟩ := h9
        have hn2l : l2.length ≤ 2000 := by have := bulk_scans hs2; have := H2.out.2; omega
        have h9' : (n9 : Int) = (r : Int) + (n2 : Int) := by have := HS.out.2.2.1.1; omega
        have hn25 : n2 ≤ 2000 := by have := H2.out.2; omega
        have B7 := Lib.hid (B6.out.trans (hb7.mono B6.out.size))
        have HL7 := Lib.hid (HL.out.1.later hb7)
        obtain ⟨us, hu1, hu2, hu3⟩ := (ho2.rows (by unfold maxLen; omega)).vals
        obtain ⟨vs, hv1, hv2, hv3⟩ := (H1.out.later B7.out).vals
        have HU := Lib.hid (And.intro hu1 (And.intro hu2 hu3))
        have HV := Lib.hid (And.intro hv1 (And.intro hv2 hv3))
        have hpl : (ps ++ l2).length = k + l2.length := by rw [List.length_append, ← H1.out.1]
        rw [hpl] at HL7 ⊢
        have F3 : Hid (k ≤ 1000000) := Lib.hid (by omega)
        have F4 : Hid (k + l2.length ≤ 1000000) := Lib.hid (by omega)
        clear hu1 hu2 hu3 hv1 hv2 hv3 hs2 hn2 ho2 hb7 h9 hpl
        obtain ⟨t, ht⟩ : ∃ t, t = l2.length := ⟨_, rfl⟩
        have HT := Lib.hid ht
        rw [← ht] at HL7 F4 HU hn2l ⊢
        clear ht
        rw [h9']
        clear h9' HL
        go_wp2_with (first | (at_builtin; refine wpList_append_vals rfl (.tmp 58) (.tmp 59) rfl w7.heap.size _ 0 [] rfl (vals_empty w7 _ _ rfl (Nat.le_refl _)) (.slice a1 k c1) vs k rfl (HV.out.1.alloc _) HV.out.2.1.symm HV.out.2.2.one k (Nat.zero_add k).symm F3 (by simp) ?_; intro ao8 c8 w8 hown8 hb8) | (at_builtin; refine wpList_append_vals rfl (.tmp 61) (.tmp 62) rfl w7.heap.size _ k _ rfl hown8 (.slice al2 t cl2) us t rfl (HU.out.1.later (((Below.refl _ w7).alloc (Nat.le_refl _) _).trans hb8)) HU.out.2.1.symm HU.out.2.2.one (k + t) rfl F4 (Nat.le_trans (by simp) hb8.size) ?_; intro ao9 c9 w9 hown9 hb9))
        have B9 := Lib.hid ((((Below.refl _ w7).alloc (Nat.le_refl _) _).trans hb8).trans hb9)
        have R9 : Rws w9 (.slice ao9 (k + t) c9) (k + t) (ps ++ l2) := Rws.of_vals (vs := [] ++ vs ++ us) (Reads.own (by simpa [HV.out.2.1, HU.out.2.1] using hown9)) (by simp [HV.out.2.1, HU.out.2.1]) (by rw [List.nil_append]; exact (HV.out.2.2.later B9.out).append (HU.out.2.2.later B9.out)) (by have := F4.out; unfold maxLen; omega)
        have S := same_true _ _ _ _ _ w9 (HL7.out.later B9.out) R9
        have BB := Lib.hid (B7.out.trans (B9.out.mono B7.out.size))
        clear hown8 hb8 hown9 hb9 R9
        go_wp2_with (first | (go_at_call 13; refine S.mono ?_; rintro e w' ⟨rfl, j, rfl⟩; clear S) | (go_at_call 7; refine (awake_frame _).mono ?_; rintro e w' ⟨rfl, hb9⟩))
        go_ret
        exact ⟨rfl, (below_drewN BB.out j).trans (hb9.mono BB.out.size)⟩

end Go.Proofs.Ytooadeoebdbngaa
