/- BatchCuts, walked. Numbers and types by name. -/
import Derived.Test.YtgpacbmiliefiaaDoorApi
import Derived.Test.YtgpacbmiliefiaaDoorCub
namespace Go.Proofs.YtgpacbmiliefiaaDoor
open Go.RowKit Go.Lib

set_option maxHeartbeats 2000000 in
theorem cuts_batch (v1 : Value) (n q : Nat) (LL : List (List Opm)) (w : World) (h1 : Obs w v1 n LL) (ht : Tab w) (hq : q < 65536) :
    Calls Tryd.prog 4 #[v1, .int .u16 (q : Int)] w fun e w' => e = .returned (.bool true) ∧ Below w.heap.size w w' := by
  obtain ⟨a1, c1, rfl⟩ := h1.shape
  have H1 := Lib.hid h1
  have HTB := Lib.hid ht
  have hm9 := h1.2.1
  unfold maxLen at hm9
  clear h1 ht
  by_cases b1 : 20 < n
  · have d1 : (20 : Int) < (n : Int) := by omega
    go_enter Tryd.func4, Tryd.ntmps4
    go_wp2_with (go_at_call 8; refine (awake_batch _ HTB.out).mono ?_; rintro e w' ⟨rfl, hb9⟩)
    go_ret
    exact ⟨rfl, hb9⟩
  have d1 : ¬ (20 : Int) < (n : Int) := by omega
  go_enter Tryd.func4, Tryd.ntmps4
  go_wp2_with fail
  go_loopw [5, 6, 7] (fun xv ev i wr => ∃ (k r c c2 : Nat) (ao ao2 : Option Addr), k ≤ n ∧ i = .int .i64 k ∧ xv = .slice ao r c ∧ ev = .slice ao2 k c2 ∧ r ≤ 110000 * k ∧ Hid ((∀ L ∈ LL.take k, small L) ∧ Bs wr w.heap.size (.slice ao r c) r (frms (allRecs (LL.take k))) ∧ wr.ownsRow w.heap.size 3 1 (.slice ao2 k c2) k (iv (endsB LL k)) ∧ Below w.heap.size w wr))
    (fun _ _ i _ => n - (RowKit.intOf i).toNat)
  case atStart => exact ⟨0, 0, 0, 0, none, none, Nat.zero_le _, rfl, rfl, rfl, Nat.le_refl _, Lib.hid ⟨fun L hL => by simp at hL, ⟨rfl, World.ownsRow_nil _ _ _ _⟩, World.ownsRow_nil _ _ _ _, Below.refl _ _⟩⟩
  case round =>
    obtain ⟨k, r, c, c2, ao, ao2, hk, rfl, rfl, rfl, hr9, hrel⟩ := hrel
    by_cases hlt : k < n
    · have k0 : (k : Int) < (n : Int) := by omega
      obtain ⟨A1, L, ap, cp, rfl, hp, hc, hrd⟩ := (H1.out.later hrel.out.2.2.2).at hlt
      have HL := Lib.hid (And.intro hp hrd)
      have G := great_ops _ L.length L wr hrd
      clear hp hrd
      generalize L.length = ln at *
      go_wp2_with fail
      refine G.mono ?_
      rintro e w1 ⟨g, q1, rfl, hw1, hb⟩
      have B1 := Lib.hid (show Below wr.heap.size wr w1 by rw [hw1]; exact below_drewN (Below.refl _ wr) q1)
      have hc1 := grow_cell B1.out hc
      clear G hc
      cases g with
      | true =>
        clear hb hw1
        have BA := Lib.hid (hrel.out.2.2.2.trans (B1.out.mono hrel.out.2.2.2.size))
        go_wp2_with (go_at_call 8; refine (awake_batch _ (HTB.out.later BA.out)).mono ?_; rintro e w' ⟨rfl, hb9⟩)
        go_ret
        exact ⟨rfl, BA.out.trans (hb9.mono BA.out.size)⟩
      | false =>
      have HB := Lib.hid (hb rfl)
      have R := (right_ref _ ln L w1 (HL.out.2.later B1.out)).mono fun e w' h => And.intro h.1 h.2.symm
      clear hb hw1
      cases hok : okOps L with
      | false =>
        rw [hok] at R
        have BA := Lib.hid (hrel.out.2.2.2.trans (B1.out.mono hrel.out.2.2.2.size))
        clear hok
        go_wp2_with (first | (go_at_call 14; refine R.mono ?_; rintro e w' ⟨rfl, rfl⟩) | (go_at_call 8; refine (awake_batch _ (HTB.out.later BA.out)).mono ?_; rintro e w' ⟨rfl, hb9⟩))
        go_ret
        exact ⟨rfl, BA.out.trans (hb9.mono BA.out.size)⟩
      | true =>
      rw [hok] at R
      have HOK := Lib.hid hok
      clear hok
      go_wp2_with (go_at_call 14; refine R.mono ?_; rintro e w' ⟨rfl, rfl⟩)
      clear R
      refine (batch_any _ ln L w1 (HL.out.2.later B1.out) (HTB.out.later (hrel.out.2.2.2.trans (B1.out.mono hrel.out.2.2.2.size))) HOK.out HB.out).mono ?_
      rintro e w2 ⟨ax, mx, cx, rfl, hx, hb2⟩
      have G2 := Lib.hid (Grow.trans B1.out hb2)
      have HX := Lib.hid hx
      have hmx := recs_frms HB.out
      rw [← HX.out.1] at hmx
      obtain ⟨s, hs⟩ : ∃ s, s = r + mx := ⟨_, rfl⟩
      have HSS := Lib.hid hs
      have hs9 : s ≤ 110000 * (k + 1) := by omega
      have F1 : Hid (s ≤ maxLen) := Lib.hid (by unfold maxLen; omega)
      have F2 : Hid (s * 1 ≤ 140737488355328) := Lib.hid (by omega)
      have F3 : Hid (k + 1 ≤ 1000000000) := Lib.hid (by omega)
      have hE2 := Lib.hid (owns_below hrel.out.2.2.1 G2.out (Nat.le_refl _))
      have hX2 := Lib.hid (hrel.out.2.1.below G2.out (Nat.le_refl _))
      have hsz : w.heap.size ≤ w2.heap.size := Nat.le_trans hrel.out.2.2.2.size G2.out.size
      have hse : Hid (s = endB LL (k + 1)) := Lib.hid (by unfold endB; rw [endB_succ HL.out.1, List.length_append, ← HX.out.1, ← hrel.out.2.1.1]; exact hs)
      have HBW := Lib.hid (hrel.out.2.2.2.trans (G2.out.mono hrel.out.2.2.2.size))
      have HSM : Hid (∀ L' ∈ LL.take (k + 1), small L') := Lib.hid fun L' hL' => by
        rw [take_next HL.out.1] at hL'
        rcases List.mem_append.1 hL' with h | h
        · exact hrel.out.1 L' h
        · rw [List.mem_singleton.1 h]; exact ⟨HB.out, HOK.out⟩
      clear hx hb2 hs hrel hc1
      go_wp2_with (first | (go_at_call 15; refine (num_code _ _).mono ?_; rintro e w' ⟨rfl, rfl⟩) | (at_builtin; refine wpList_append_bytes_at rfl (.tmp 51) (.tmp 52) rfl w.heap.size _ r _ rfl hX2.out (.slice ax mx cx) mx _ HX.out.1 rfl HX.out.reads s HSS.out F1 F2 hsz ?_; intro ao5 c5 w5 hown5 hb5 hg5) | (at_builtin; refine wpList_append_int rfl (.tmp 54) (.tmp 57) rfl w.heap.size _ k _ rfl ((owns_grown hE2.out hg5 (fun g h1 h2 => owns_apart hE2.out hX2.out.2 (by decide) g h1 h2)).alloc _) ⟨w5.heap.size, 0, none⟩ (s : Int) rfl (by rw [World.cell?_alloc_mark]; rfl) (k + 1) rfl F3 (Nat.le_trans hsz (Nat.le_trans hb5.size (by simp))) ?_; intro ao6 c6 w6 hown6 hb6 hg6))
      have hB6 : Below w.heap.size w w6 := (HBW.out.trans hb5).trans (((Below.refl _ w5).alloc (Nat.le_trans hsz hb5.size) _).trans hb6)
      have hX6 : Bs w6 w.heap.size (.slice ao5 s c5) s _ := ⟨hown5.1, owns_grown (hown5.alloc _).2 hg6 (fun g h1 h2 => owns_apart hown5.2 (owns_grown hE2.out hg5 (fun g h1 h2 => owns_apart hE2.out hX2.out.2 (by decide) g h1 h2)) (by decide) g h1 h2)⟩
      refine ⟨⟨k + 1, s, c5, c6, ao5, ao6, by omega, by simp, rfl, rfl, hs9, Lib.hid ⟨HSM.out, ?_, ?_, hB6⟩⟩, by simp only [RowKit.intOf]; omega⟩
      · rw [endB_succ HL.out.1]
        exact hX6
      · rw [endsB_succ, ← hse.out]
        exact hown6
    · obtain rfl : k = n := by omega
      have k0 : ¬ (k : Int) < (k : Int) := by omega
      have hk2 : LL.take k = LL := List.take_of_length_le (by have := H1.out.1; omega)
      have hrel' := hrel.out
      rw [hk2] at hrel'
      have hr := hrel'.2.1.1
      obtain ⟨z, hz, hmod⟩ : ∃ z, z ≤ r ∧ (q : Int) % ((r : Int) + 1) = (z : Int) := ⟨q % (r + 1), by have := Nat.mod_lt q (show 0 < r + 1 by omega); omega, by rw [show (r : Int) + 1 = ((r + 1 : Nat) : Int) by omega]; rfl⟩
      have r1 : ((r : Int) + 1 == 0) = false := by simp; omega
      have r5 : r ≤ 2200000 := by omega
      have rc : r ≤ c := by
        obtain ⟨_, _, e, h0, _⟩ := hrel'.2.1.reads
        simp only [Value.slice.injEq, bv_length] at e h0
        omega
      have zc : (z : Int) ≤ (c : Int) := by omega
      have zc2 : z ≤ c := by omega
      have HR := Lib.hid hrel'
      have HRL := Lib.hid hr
      have RP := Lib.hid (HR.out.2.1.reads.prefix z (by omega))
      clear hk2 hr hrel hrel'
      go_wp2_with fail
      refine (ref_scan _ z _ wr RP.out (by rw [List.length_take, ← HRL.out]; omega) (Lib.hid (by omega))).mono ?_
      rintro e w6 ⟨hb6, l, n9, al, cl, hs, hn9, rfl, ho⟩
      have hll := bulk_scans' hs
      have hzl : ((frms (allRecs LL)).take z).length = z := by rw [List.length_take, ← HRL.out]; omega
      rw [hzl] at hn9
      have HL := Lib.hid hs
      have HRW := Lib.hid (ho.rows (by unfold maxLen; omega))
      have HE := Lib.hid ((Reads.own (by rw [iv_length, endsB_length]; exact HR.out.2.2.1)).later hb6 : Reads w6 (.slice ao2 (iv (endsB LL k)).length c2) (iv (endsB LL k)))
      have B6 := Lib.hid (HR.out.2.2.2.trans (hb6.mono HR.out.2.2.2.size))
      have hl9 : l.length ≤ 900000 := by omega
      have h90 : endB LL 0 = 0 := by simp [endB, allRecs, frms]
      have HZ := Lib.hid (And.intro hz h90)
      have hps : ∀ p ∈ l, p.length ≤ 2000000 := by
        by_cases hex : ∃ j, j ≤ LL.length ∧ endB LL j ≤ z ∧ (j = LL.length ∧ z ≤ (frms (allRecs LL)).length ∨ z < endB LL (j + 1))
        · obtain ⟨j, g1, g2, g3⟩ := hex
          intro p hp
          have := (cut_batches HR.out.1 g2 g1 g3 HL.out).2 p hp
          omega
        · exfalso
          have key : ∀ j, j ≤ LL.length → endB LL j ≤ z := by
            intro j
            induction j with
            | zero => intro _; rw [h90]; omega
            | succ j ih =>
              intro hj
              by_cases h : endB LL (j + 1) ≤ z
              · exact h
              · exact absurd ⟨j, by omega, ih (by omega), .inr (by omega)⟩ hex
          exact hex ⟨LL.length, Nat.le_refl _, key _ (Nat.le_refl _), .inl ⟨rfl, by rw [← HRL.out]; exact hz⟩⟩
      have HPS := Lib.hid hps
      obtain ⟨ll, hll2⟩ : ∃ ll, ll = l.length := ⟨_, rfl⟩
      rw [← hll2] at HRW hl9 ⊢
      clear hb6 hs hn9 ho hmod r1 rc zc zc2 hz h90 hll hzl hps hll2
      go_wp2_with fail
      refine (replay_any _ ll _ w6 HRW.out (HTB.out.later B6.out) hl9).mono ?_
      rintro e w7 ⟨hb7, LM, u, am, jm, cm, hpl, _, _, rfl, hL⟩
      have HM := Lib.hid (And.intro hpl hL)
      have B7 := Lib.hid (B6.out.trans (hb7.mono B6.out.size))
      have HE7 := Lib.hid (HE.out.later hb7)
      clear hpl hL hb7
      go_wp2_with fail
      go_loopw [15] (fun nv wr => ∃ j : Nat, j ≤ k ∧ nv = .int .i64 j ∧ Hid (endB LL j ≤ z) ∧ w7 = wr)
        (fun nv _ => k - (RowKit.intOf nv).toNat)
      case atStart => exact ⟨0, Nat.zero_le _, rfl, Lib.hid (by rw [HZ.out.2]; omega), rfl⟩
      case round =>
        obtain ⟨j, hj, rfl, hjz, rfl⟩ := hrel
        have hjk : j < k → ∃ a, ao2 = some a ∧ w7.cell? (a.add j) = some (.int .i64 (endB LL (j + 1))) := by
          intro hlt
          obtain ⟨ao', c', e, h0, h1, h2⟩ := HE7.out
          simp only [Value.slice.injEq] at e
          obtain ⟨rfl, _, rfl⟩ := e
          have h3 : (iv (endsB LL k))[j]? = some (.int .i64 (endB LL (j + 1))) := by simp [iv, endsB_at LL k j hlt]
          cases ao2 with
          | none => rw [(h1 rfl).1] at h3; cases h3
          | some a => exact ⟨a, rfl, h2 a rfl j _ h3⟩
        by_cases hgo : j < k ∧ endB LL (j + 1) ≤ z
        · obtain ⟨a, rfl, hc⟩ := hjk hgo.1
          have j0 : (j : Int) < (k : Int) := by omega
          have j1 : (endB LL (j + 1) : Int) ≤ (z : Int) := by omega
          have HN := Lib.hid hgo.2
          clear hjk hgo
          go_wp2_with fail
          exact ⟨⟨j + 1, by omega, by simp, HN, trivial⟩, by simp [RowKit.intOf]; omega⟩
        · have hx : ∃ u, play l 0 [] [] 0 = (LL.take j, u) := by
            have h1 := H1.out.1
            have h2 := HRL.out
            have h3 := HZ.out.1
            refine (cut_batches (k := z) HR.out.1 hjz.out (by omega) ?_ HL.out).1
            by_cases h : j < k
            · right
              have : ¬ endB LL (j + 1) ≤ z := fun h' => hgo ⟨h, h'⟩
              omega
            · left; omega
          obtain ⟨u2, hx⟩ := hx
          have hLM : LM = LL.take j := by
            have := HM.out.1.symm.trans hx
            simp only [Prod.mk.injEq] at this
            exact this.1
          obtain ⟨RJ, hkc⟩ := (H1.out.later B7.out).prefix j hj
          rw [← hLM] at RJ
          have S := same_b_true _ _ _ _ LM w7 HM.out.2 RJ
          have x1 : (j : Int) ≤ (c1 : Int) := by omega
          have x2 : j ≤ c1 := by omega
          clear RJ hkc hLM hx
          by_cases hlt : j < k
          · obtain ⟨a, rfl, hc⟩ := hjk hlt
            have j0 : (j : Int) < (k : Int) := by omega
            have j1 : ¬ (endB LL (j + 1) : Int) ≤ (z : Int) := by omega
            clear hjk hgo
            go_wp2_with (first | (go_at_call 16; refine S.mono ?_; rintro e w' ⟨rfl, jj, rfl⟩; clear S) | (go_at_call 8; refine (awake_batch _ (HTB.out.later (below_drewN B7.out jj))).mono ?_; rintro e w' ⟨rfl, hb9⟩))
            go_ret
            exact ⟨rfl, (below_drewN B7.out jj).trans (hb9.mono B7.out.size)⟩
          · obtain rfl : j = k := by omega
            have j0 : ¬ (j : Int) < (j : Int) := by omega
            clear hjk hgo
            go_wp2_with (first | (go_at_call 16; refine S.mono ?_; rintro e w' ⟨rfl, jj, rfl⟩; clear S) | (go_at_call 8; refine (awake_batch _ (HTB.out.later (below_drewN B7.out jj))).mono ?_; rintro e w' ⟨rfl, hb9⟩))
            go_ret
            exact ⟨rfl, (below_drewN B7.out jj).trans (hb9.mono B7.out.size)⟩

theorem cuts_nat (v1 : Value) (n : Nat) (z : Int) (LL : List (List Opm)) (w : World) (h1 : Obs w v1 n LL) (ht : Tab w) (hz : 0 ≤ z ∧ z ≤ 65535) :
    Calls Tryd.prog 4 #[v1, .int .u16 z] w fun e w' => e = .returned (.bool true) ∧ Below w.heap.size w w' := by
  obtain ⟨q, rfl⟩ : ∃ q : Nat, z = (q : Int) := ⟨z.toNat, (Int.toNat_of_nonneg hz.1).symm⟩
  exact cuts_batch v1 n q LL w h1 ht (by omega)

end Go.Proofs.YtgpacbmiliefiaaDoor
