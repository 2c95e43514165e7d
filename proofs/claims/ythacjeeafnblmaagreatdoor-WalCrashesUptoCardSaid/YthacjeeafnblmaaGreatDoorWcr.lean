/- WalCrashes, walked. Numbers and types by name. -/
import Derived.Test.YthacjeeafnblmaaGreatDoorWjo
namespace Go.Proofs.YthacjeeafnblmaaGreatDoor
open Go.RowKit Go.Lib
set_option maxRecDepth 100000

theorem own_one (w : World) (base el z : Nat) (v : Value) (hz : z = w.heap.size) (hb : base ≤ w.heap.size) : (w.alloc (.cells [v].toArray el (0, 0))).ownsRow base el 1 (.slice (some ⟨z, 0, none⟩) 1 1) 1 [v] := by
  subst hz
  exact ⟨rfl, .inr ⟨w.heap.size, 1, #[v], rfl, hb, heap_alloc_new w _, Nat.le_refl _, by unfold maxLen; decide, rfl, rfl⟩⟩

set_option maxHeartbeats 8000000 in
theorem crashes_law (v1 v2 : Value) (n m : Nat) (A B : List Opm) (sec dn : Bool) (kp : Nat) (w : World) (h1 : Opr w v1 n A) (h2 : Opr w v2 m B) (hkp : kp < 65536) (hbA : bulkO A ≤ 1200000) (hbB : bulkO B ≤ 1200000) (ht : Tab w) :
    Calls Tryz.prog 6 #[v1, v2, .bool sec, .bool dn, .int .u16 kp] w fun e w' => e = .returned (.bool true) ∧ Below w.heap.size w w' := by
  obtain ⟨a1, c1, rfl⟩ := h1.shape
  obtain ⟨a2, c2, rfl⟩ := h2.shape
  have H1 := Lib.hid h1
  have H2 := Lib.hid h2
  have HTB := Lib.hid ht
  have O1 := ref_ops_all _ m B w h2 hbB
  have O2 := Lib.hid (fun (w' : World) (hg : Grow w w') => ref_ops_all _ n A w' (h1.later hg) hbA)
  obtain ⟨sc, hsc⟩ : ∃ sc, sc = sec := ⟨_, rfl⟩
  have HSC := Lib.hid hsc
  clear h1 h2 ht hbA hbB hsc
  go_enter Tryz.func6, Tryz.ntmps6
  go_wp2_with fail
  refine O1.mono ?_
  rintro e w1 ⟨ax, mx, cx, z1, rfl, hz1, hb1⟩
  have G1 : Hid (Grow w w1) := Lib.hid hb1
  have HX : Hid (z1 = 0 → okOps B = true ∧ mx = (frms (recs B)).length) := Lib.hid fun h => ⟨(hz1 h).1, (hz1 h).2.1⟩
  have C2 := O2.out w1 hb1
  clear hz1 hb1 O1 O2
  go_wp2_with fail
  refine C2.mono ?_
  rintro e w2 ⟨ay0, my0, cy0, z2, rfl, hz2, hb2⟩
  have G2 : Hid (Grow w w2) := Lib.hid (G1.out.trans hb2)
  have HY : Hid (z2 = 0 → okOps A = true) := Lib.hid fun h => (hz2 h).1
  clear hz2 hb2 C2 G1
  have hC := heavy_wal (.slice (some ⟨w2.heap.size, 0, none⟩) 2 2) 2 [A, B] none ⟨0, 0, none⟩ 0 0 (fun _ => ⟨0, none, 0, [], 0, false, none, 0, []⟩) _ (two_ops (H1.out.later G2.out) (H2.out.later G2.out)) ⟨.inr ⟨rfl, rfl⟩, Nat.zero_le _, fun i hi => absurd hi (Nat.not_lt_zero _)⟩
  go_wp2_with fail
  refine hC.mono ?_
  rintro e w3 ⟨g, q, rfl, hw3, hb⟩
  have G3 : Hid (Grow w w3) := Lib.hid (G2.out.trans (by rw [hw3]; exact below_drewN ((Below.refl _ w2).alloc (Nat.le_refl _) _) q))
  clear hC hw3
  cases g with
  | true =>
    clear hb
    go_wp2_with (go_at_call 8; refine (awake_wal _ (HTB.out.later G3.out)).mono ?_; rintro e w' ⟨rfl, hb9⟩)
    go_ret
    exact ⟨rfl, G3.out.trans hb9⟩
  | false =>
  have HL := Lib.hid (hb rfl)
  clear hb
  by_cases x1 : z1 = 0
  case neg =>
    go_wp2_with (go_at_call 8; refine (awake_wal _ (HTB.out.later G3.out)).mono ?_; rintro e w' ⟨rfl, hb9⟩)
    go_ret
    exact ⟨rfl, G3.out.trans hb9⟩
  by_cases x2 : z2 = 0
  case neg =>
    go_wp2_with (go_at_call 8; refine (awake_wal _ (HTB.out.later G3.out)).mono ?_; rintro e w' ⟨rfl, hb9⟩)
    go_ret
    exact ⟨rfl, G3.out.trans hb9⟩
  subst x1
  subst x2
  have hsA : small A := ⟨(HL.out.2.2.1 0 A rfl).1, HY.out rfl⟩
  have hsB : small B := ⟨(HL.out.2.2.1 1 B rfl).1, (HX.out rfl).1⟩
  have hlA : (frms (recs A)).length ≤ 7000 := by have h1 := HL.out.2.2.1 0 A rfl; have := recs_size h1.1; omega
  have hlB : (frms (recs B)).length ≤ 7000 := by have h1 := HL.out.2.2.1 1 B rfl; have := recs_size h1.1; omega
  have hmx := (HX.out rfl).2
  have hmx7 : mx ≤ 7000 := by omega
  obtain ⟨kk, hkk⟩ : ∃ kk, kk = kp % (mx + 2) := ⟨_, rfl⟩
  have q1 : wrap64 ((kp : Nat) : Int) = (kp : Int) := wrap64_id _ (by omega)
  have q2 : wrap64 ((mx : Int) + 2) = ((mx + 2 : Nat) : Int) := by rw [wrap64_id _ (by omega)]; omega
  have q3 : (kp : Int) % ((mx : Int) + 2) = (kk : Int) := by rw [hkk]; push_cast; rfl
  have q5 : ¬ ((mx : Int) + 2) = 0 := by omega
  have HS := Lib.hid (And.intro hsA (And.intro hsB (And.intro hlA (And.intro hlB (And.intro hmx hmx7)))))
  clear hsA hsB hlA hlB hmx hmx7 HX HY HL hkk hkp
  cases sec
  all_goals
    go_wp2_with fail
    have hWk : Reads (w3.alloc (.cells (iv [(kk : Int)]).toArray 3 (0, 0))) (.slice (some ⟨w3.heap.size, 0, none⟩) 1 1) (iv [(kk : Int)]) := Reads.lit w3 (iv [(kk : Int)]) 3 (0, 0) 1 rfl
    have gW : Grow w3 (w3.alloc (.cells (iv [(kk : Int)]).toArray 3 (0, 0))) := (Below.refl _ w3).alloc (Nat.le_refl _) _
    change Calls _ _ _ (w3.alloc (.cells (iv [(kk : Int)]).toArray 3 (0, 0))) _
    obtain ⟨W, hW⟩ : ∃ W, W = w3.alloc (.cells (iv [(kk : Int)]).toArray 3 (0, 0)) := ⟨_, rfl⟩
    rw [← hW] at hWk gW ⊢
    have GW : Hid (Grow w W) := Lib.hid (G3.out.trans gW)
    refine (new_cd 100000 _ dn (.slice none 0 0) (.slice (some ⟨w3.heap.size, 0, none⟩) 1 1) [] [(kk : Int)] W (Reads.nil W) hWk (by simp) (by simp)).mono ?_
    rintro e w4 ⟨b, F, rfl, hCD, t1⟩
    obtain ⟨M, hM⟩ : ∃ M, M = MD.new 100000 (if sc = true then 6 else 5) dn [] [(kk : Int)] := ⟨_, rfl⟩
    have hCD' : CD w4 W.heap.size b M F := by rw [hM, HSC.out]; exact hCD
    have hS1 : SolD (· < W.heap.size) w4 W.heap.size b M := ⟨fun k hk => Nat.lt_of_lt_of_le hk t1.size, F, hCD', fun k hk hx => by have := (hCD'.lt k hk).1; exact absurd hx (by omega)⟩
    have hW1 : Well 26000 M 0 := by rw [hM]; exact well_new _ _ _ _ _ _ (by decide) (by simp) (by simp)
    have g4 : Hid (Grow W w4) := Lib.hid (turn_grow t1)
    obtain ⟨M1, hM1⟩ : ∃ M1, M1 = (openP M).M := ⟨_, rfl⟩
    obtain ⟨R1, hR1⟩ : ∃ R1, R1 = commitP M1 0 false A := ⟨_, rfl⟩
    obtain ⟨R2, hR2⟩ : ∃ R2, R2 = commitP R1.M R1.n R1.s B := ⟨_, rfl⟩
    obtain ⟨f1, f2, f3, f4, f5, f6, f7, f8, f9, f10, f11⟩ := crash_two HS.out.1 HS.out.2.1 sc dn kk hM hM1 hR1 hR2 (by have := HS.out.2.2.1; omega) (by have := HS.out.2.2.2.1; omega)
    have hW2 : Well 26000 M1 3 := by rw [hM1]; exact well_open hW1
    have hW3 : Well 26000 R1.M 6 := by rw [hR1]; exact well_commit hW2 0 false A (by have := HS.out.2.2.1; omega)
    have hW4 : Well 26000 R2.M 9 := by rw [hR2]; exact well_commit hW3 _ _ B (by have := HS.out.2.2.2.1; omega)
    have hW5 : Well 26000 (R2.M.restart 100000 0 false [] []) 10 := well_restart hW4 (by decide) (by simp) (by simp)
    have C1 := sol_open hS1 (TabAt.mk HTB.out (GW.out.trans g4.out) GW.out.size) hW1 (by decide) room_mid f1
    rw [f2, ← hM1] at C1
    have C2 := Lib.hid (fun (w' : World) (p : Nat) (hS : Sol (· < W.heap.size) w' W.heap.size b p M1 0 false) (hg : Grow W w') => sol_commit hS (HTB.out.later (GW.out.trans hg)) (H1.out.later (GW.out.trans hg)) HS.out.1.1 hW2 (by decide) room_mid (by have := HS.out.2.2.1; omega) (by decide))
    rw [← hR1] at C2
    have C3 := Lib.hid (fun (w' : World) (p : Nat) (hS : Sol (· < W.heap.size) w' W.heap.size b p R1.M R1.n R1.s) (hg : Grow W w') => sol_commit hS (HTB.out.later (GW.out.trans hg)) (H2.out.later (GW.out.trans hg)) HS.out.2.1.1 hW3 (by decide) room_mid (by have := HS.out.2.2.2.1; omega) (by have := HS.out.2.2.1; omega))
    rw [← hR2] at C3
    obtain ⟨MR, hMR⟩ : ∃ MR, MR = R2.M.restart 100000 0 false [] [] := ⟨_, rfl⟩
    have C4 := Lib.hid (fun (w' : World) (p : Nat) (hS : SolD (fun k => k < W.heap.size ∨ k = p) w' W.heap.size b R2.M) => sol_restart hS (well_lim room_mid hW4 (by decide)) 100000 0 false)
    rw [← hMR] at C4 f10 f11 hW5
    have HF := Lib.hid (And.intro f4 (And.intro f7 (And.intro f8 (And.intro f10 (And.intro f11 hW5)))))
    clear hCD hCD' hS1 hW1 hM hM1 hR1 hR2 f1 f2 f3 f4 f5 f6 f7 f8 f9 f10 f11 hW2 hW3 hW4 hW5 hMR t1 hWk gW hW G3
    unfold theDisk at C1 ⊢
    go_wp2_with fail
    refine C1.mono ?_
    rintro e w5 ⟨p, ao, jn, c, lo, hi, rfl, hS, hob, hst⟩
    have g5 : Hid (Grow W w5) := Lib.hid (stays_two g4.out hst)
    have D2 := C2.out w5 p (hS.less (Y := (· < W.heap.size)) fun k hk => .inl hk) g5.out
    rw [HF.out.1] at D2
    clear hS hob hst C1 C2 g4
    go_wp2_with (go_at_call 13; refine (num1_any _ _).mono ?_; rintro e w' ⟨rfl, rfl⟩)
    refine D2.mono ?_
    rintro e w6 ⟨rfl, hS, hst⟩
    have g6 : Hid (Grow W w6) := Lib.hid (stays_two g5.out hst)
    have D3 := C3.out w6 p hS g6.out
    rw [HF.out.2.1] at D3
    clear hS hst C3 D2 g5
    go_wp2_with fail
    refine D3.mono ?_
    rintro e w7 ⟨rfl, hS, hst⟩
    have g7 : Hid (Grow W w7) := Lib.hid (stays_two g6.out hst)
    have hpar := hS.parted
    rw [HF.out.2.2.1] at hpar
    have HP := Lib.hid hpar
    have D4 := C4.out w7 p hpar.1
    clear hS hst D3 g6 hpar C4
    unfold theDisk at D4
    go_wp2_with fail
    refine D4.mono ?_
    rintro e w8 ⟨rfl, hS, hst⟩
    have g8 : Hid (Grow W w8) := Lib.hid (stays_two g7.out (hst.less fun k hk => .inl hk))
    have HC8 := Lib.hid (HP.out.2.stays hst (.inr rfl))
    have D5 := sol_open hS (TabAt.mk HTB.out (GW.out.trans g8.out) GW.out.size) HF.out.2.2.2.2.2 (by decide) room_mid HF.out.2.2.2.1
    rw [HF.out.2.2.2.2.1] at D5
    clear hS hst D4 g7 HP
    unfold theDisk at D5
    go_wp2_with fail
    refine D5.mono ?_
    rintro e w9 ⟨q9, ao9, j9, c9, lo9, hi9, rfl, _, hob, hst⟩
    have g9 : Hid (Grow W w9) := Lib.hid (stays_two g8.out (hst.less fun k hk => .inl hk))
    have HC9 := Lib.hid (HC8.out.stays hst (.inr rfl))
    have HOB := Lib.hid hob.obs
    clear hob hst D5 g8 HC8 HF
    have HQN : Hid (mx = (frms (recs B)).length) := Lib.hid HS.out.2.2.2.2.1
    obtain ⟨LL, hLL⟩ : ∃ LL : List (List Opm), LL = if isThere sc dn kk (frms (recs B)).length = true then [A, B] else [A] := ⟨_, rfl⟩
    rw [← hLL] at HOB
    have HLL := Lib.hid hLL
    have HC1 : Hid (Cells ((w9.alloc (.cells [Value.slice a1 n c1].toArray 49 (0, 0))).alloc (.cells [Value.slice a2 m c2].toArray 49 (0, 0))) (.slice (some ⟨w9.heap.size + 1, 0, none⟩) 1 1) 1 1 [.slice a2 m c2]) := Lib.hid (by
      have h := Cells.lit (w9.alloc (.cells [Value.slice a1 n c1].toArray 49 (0, 0))) [.slice a2 m c2] 49 (0, 0) 1 1 rfl
      rw [show (w9.alloc (.cells [Value.slice a1 n c1].toArray 49 (0, 0))).heap.size = w9.heap.size + 1 by simp] at h
      exact h)
    have HO1 : Hid ((w9.alloc (.cells [Value.slice a1 n c1].toArray 49 (0, 0))).ownsRow w9.heap.size 49 1 (.slice (some ⟨w9.heap.size, 0, none⟩) 1 1) 1 [.slice a1 n c1]) := Lib.hid (own_one w9 _ _ _ _ rfl (Nat.le_refl _))
    have g1 : Hid (Grow w9 (w9.alloc (.cells [Value.slice a1 n c1].toArray 49 (0, 0)))) := Lib.hid ((Below.refl _ w9).alloc (Nat.le_refl _) _)
    have F2 : Hid (2 ≤ 1000000) := Lib.hid (by decide)
    clear hLL q3 q5
    by_cases hk : mx ≤ kk
    all_goals
      first | (have hk1 : (mx : Int) ≤ (kk : Int) := by omega) | (have hk1 : ¬ (mx : Int) ≤ (kk : Int) := by omega)
      cases dn
      all_goals
        first
        | (have hth : LL = [A, B] := by rw [HLL.out, HSC.out, ← HQN.out]; simp [isThere, hk]; done
           have HTH := Lib.hid hth
           clear hth
           go_wp2_with (at_builtin; refine wpList_append_gen elemOps rfl (.tmp 118) (.tmp 120) rfl w9.heap.size (.slice (some ⟨w9.heap.size, 0, none⟩) 1 1) 1 [.slice a1 n c1] rfl (HO1.out.alloc _) (.slice (some ⟨w9.heap.size + 1, 0, none⟩) 1 1) 1 [.slice a2 m c2] rfl HC1.out one_sl9 2 rfl F2 (by decide) (by simp; omega) ?_; intro ao10 c10 wv hown10 hb10 hg10 ho10)
           have gv : Grow w9 wv := Below.trans ((Below.refl w9.heap.size w9).alloc (Nat.le_refl _) _) (Below.trans ((Below.refl w9.heap.size _).alloc (by simp) _) hb10)
           have GV : Hid (Grow w wv) := Lib.hid ((GW.out.trans g9.out).trans gv)
           have hO2 : Obs wv (.slice ao10 2 c10) 2 LL := by rw [HTH.out]; exact (Wl.two (base := w9.heap.size) H1.out H2.out hown10).obs GV.out (by unfold maxLen; decide)
           have SB := same_batches _ _ _ _ _ _ wv (HOB.out.later gv) hO2
           have HCV := Lib.hid (HC9.out.stays (Stays.of_below gv) (lt_of HC9.out))
           clear hown10 hb10 hg10 ho10 hO2 gv HTH)
        | (have hth : LL = [A] := by rw [HLL.out, HSC.out, ← HQN.out]; simp [isThere, hk]; done
           have HTH := Lib.hid hth
           clear hth
           go_wp2_with fail
           have hO2 : Obs (w9.alloc (.cells [Value.slice a1 n c1].toArray 49 (0, 0))) (.slice (some ⟨w9.heap.size, 0, none⟩) 1 1) 1 LL := by rw [HTH.out]; exact (Wl.one (base := w9.heap.size) H1.out HO1.out).obs ((GW.out.trans g9.out).trans g1.out) (by unfold maxLen; decide)
           have SB := same_batches _ _ _ _ _ _ _ (HOB.out.later g1.out) hO2
           have HCV := Lib.hid (HC9.out.stays (Stays.of_below g1.out) (lt_of HC9.out))
           have GV := Lib.hid ((GW.out.trans g9.out).trans g1.out)
           clear hO2 HTH)
        go_wp2_with (first | (go_at_call 13; refine (num1_any _ _).mono ?_; rintro e w' ⟨rfl, rfl⟩) | (go_at_call 19; refine (sick_at b p _ true _ HCV.out).mono ?_; rintro e w' ⟨rfl, rfl⟩) | (go_at_call 14; refine SB.mono ?_; rintro e wz ⟨bb, kz, rfl, hwz, hbz⟩; obtain rfl : bb = true := hbz.2 rfl; have GZ : Hid (Grow w wz) := Lib.hid (by rw [hwz]; exact below_drewN GV.out kz); clear hwz hbz SB) | (go_at_call 8; refine (awake_wal _ (HTB.out.later GZ.out)).mono ?_; rintro e w' ⟨rfl, hb9⟩))
        go_ret
        exact ⟨rfl, GZ.out.trans hb9⟩

theorem crashes_int (v1 v2 : Value) (n m : Nat) (A B : List Opm) (sec dn : Bool) (kp : Int) (w : World) (h1 : Opr w v1 n A) (h2 : Opr w v2 m B) (hkp : 0 ≤ kp ∧ kp ≤ 65535) (hbA : bulkO A ≤ 1048576) (hbB : bulkO B ≤ 1048576) (ht : Tab w) :
    Calls Tryz.prog 6 #[v1, v2, .bool sec, .bool dn, .int .u16 kp] w fun e w' => e = .returned (.bool true) ∧ Below w.heap.size w w' := by
  obtain ⟨k, rfl⟩ : ∃ k : Nat, kp = k := ⟨kp.toNat, by omega⟩
  exact crashes_law v1 v2 n m A B sec dn k w h1 h2 (by omega) (by omega) (by omega) ht

end Go.Proofs.YthacjeeafnblmaaGreatDoor
