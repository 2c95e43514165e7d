/- The code's log: what each call does. Numbers and types by name. -/
import Derived.Test.YthacjeeafnblmaaGreatDoorScn
import Derived.Test.YthacjeeafnblmaaGreatDoorCr
import Derived.Test.YthacjeeafnblmaaGreatDoorBtc
import Derived.WalkMore
namespace Go.Proofs.YthacjeeafnblmaaGreatDoor
open Go.RowKit Go.Lib
set_option maxRecDepth 100000

theorem commitC_e (M : MD) (e : Int) (n : Nat) : (commitC M e n).e = e := by
  unfold commitC
  split
  · rename_i h; exact h.symm
  · rfl
theorem commitC_n (M : MD) (e : Int) (n : Nat) : (commitC M e n).n = n := by
  unfold commitC
  split <;> rfl

theorem wal_ready (b q : Nat) (n : Nat) (s : Bool) (w : World) (h : CO w b q n s) :
    Calls Tryz.prog 43 #[.pointer (some ⟨q, 0, none⟩)] w fun e w' => e = .returned (.int .i64 (if s = true then 8 else 0)) ∧ w = w' := by
  have c2 := wob_2 h
  clear h
  go_enter Tryz.func43, Tryz.ntmps43
  cases s with
  | true =>
    go_wp2_with fail
    go_ret
    exact ⟨rfl, rfl⟩
  | false =>
    go_wp2_with fail
    go_ret
    exact ⟨rfl, rfl⟩
theorem wal_ready_nil (w : World) : Calls Tryz.prog 43 #[.pointer none] w fun e w' => e = .returned (.int .i64 3) ∧ w = w' := by
  go_enter Tryz.func43, Tryz.ntmps43
  go_wp2_with fail
  go_ret
  exact ⟨rfl, rfl⟩

theorem wal_size (b q : Nat) (n : Nat) (s : Bool) (w : World) (h : CO w b q n s) :
    Calls Tryz.prog 22 #[.pointer (some ⟨q, 0, none⟩)] w fun e w' => e = .returned (.int .i64 (n : Int)) ∧ w' = w := by
  have c1 := wob_1 h
  clear h
  go_enter Tryz.func22, Tryz.ntmps22
  go_wp2_with fail
  go_ret
  exact ⟨rfl, rfl⟩
theorem wal_sick (b q : Nat) (n : Nat) (s : Bool) (w : World) (h : CO w b q n s) :
    Calls Tryz.prog 19 #[.pointer (some ⟨q, 0, none⟩)] w fun e w' => e = .returned (.bool s) ∧ w' = w := by
  have c2 := wob_2 h
  clear h
  go_enter Tryz.func19, Tryz.ntmps19
  go_wp2_with fail
  go_ret
  exact ⟨rfl, rfl⟩
theorem wal_size_nil (w : World) : Calls Tryz.prog 22 #[.pointer none] w fun e w' => e = .returned (.int .i64 0) ∧ w' = w := by
  go_enter Tryz.func22, Tryz.ntmps22
  go_wp2_with fail
  go_ret
  exact ⟨rfl, rfl⟩
theorem wal_sick_nil (w : World) : Calls Tryz.prog 19 #[.pointer none] w fun e w' => e = .returned (.bool false) ∧ w' = w := by
  go_enter Tryz.func19, Tryz.ntmps19
  go_wp2_with fail
  go_ret
  exact ⟨rfl, rfl⟩
theorem wal_reset_nil (w : World) : Calls Tryz.prog 17 #[.pointer none] w fun e w' => e = .returned (.int .i64 3) ∧ w' = w := by
  go_enter Tryz.func17, Tryz.ntmps17
  go_wp2_with (go_at_call 43; refine (wal_ready_nil _).mono ?_; rintro e w' ⟨rfl, rfl⟩)
  go_ret
  exact ⟨rfl, rfl⟩
theorem wal_commit_nil (v : Value) (n : Nat) (L : List Opm) (w : World) (hr : Opr w v n L) : Calls Tryz.prog 20 #[.pointer none, v] w fun e w' => e = .returned (.int .i64 3) ∧ w' = w := by
  obtain ⟨ao, c, rfl⟩ := hr.shape
  clear hr
  go_enter Tryz.func20, Tryz.ntmps20
  go_wp2_with fail
  go_step3
  go_wp2_with fail
  refine (wal_ready_nil _).mono ?_
  rintro e w1 ⟨rfl, rfl⟩
  go_wp2_with fail
  go_step3
  go_wp2_with fail
  rw [Exit.noGoto_ret]
  go_ret
  exact ⟨rfl, rfl⟩

set_option maxHeartbeats 2000000 in
/-- What a Commit that failed has added is cut off, or the log gets sick. -/
theorem wal_undo (base b q : Nat) (M : MD) (n : Nat) (F : List Nat) (k : Int) (d m : Nat) (w : World) (h : CV w base b q M n false F) (hl : Lim M) (hm : k ≠ 7 → (M.read logK).1.length = m + d) (hm9 : m + d ≤ 1000000000000) :
    Calls Tryz.prog 45 #[.pointer (some ⟨q, 0, none⟩), .int .i64 k, .int .i64 (d : Int)] w fun e w' => e = .returned (.tuple #[]) ∧ CVNext w w' base b q (commitC M k m).M n (commitC M k m).s F := by
  have c0 := wob_0 h.2.2
  have c2 := wob_2 h.2.2
  have f2 := wob_free h.2.2 2
  unfold theDisk at c0
  unfold commitC
  by_cases h7 : k = 7
  · subst h7
    rw [if_pos rfl]
    have HN := Lib.hid h
    clear h hl hm hm9
    go_enter Tryz.func45, Tryz.ntmps45
    go_wp2_with fail
    refine bodyPost_ret (results_none rfl _ _ _) rfl ?_
    exact ⟨rfl, HN.out.set_s true⟩
  · rw [if_neg h7]
    have hlen := hm h7
    have HR := read_cd base b M F logS w h.1 hl.fs (by decide)
    rw [logS_list] at HR
    obtain ⟨RB, hRB⟩ : ∃ RB, RB = (M.read logK).1 := ⟨_, rfl⟩
    obtain ⟨re, hre⟩ : ∃ re, re = (M.read logK).2 := ⟨_, rfl⟩
    rw [← hRB, ← hre] at HR
    rw [← hRB] at hlen
    rw [hlen] at HR
    unfold theDisk logS at HR
    have HN := Lib.hid (And.intro h (And.intro hl hm9))
    have e1 : wrap64 ((m : Nat) : Int) = (m : Int) := wrap64_id _ (by omega)
    have HE := Lib.hid e1
    have HC := fun w1 (hc : CD w1 base b M F) => cut_cd base b M F logS m w1 hc hl (by decide)
    rw [logS_list] at HC
    unfold logS Acted at HC
    obtain ⟨kc, hkc⟩ : ∃ kc, kc = (M.act (opCut logK m)).1 := ⟨_, rfl⟩
    obtain ⟨MC, hMC⟩ : ∃ MC, MC = (M.act (opCut logK m)).2 := ⟨_, rfl⟩
    rw [← hkc, ← hMC] at HC ⊢
    unfold theDisk at HC
    have HC' := Lib.hid HC
    clear h hl hm hm9 hlen hRB hre HC hkc hMC e1
    go_enter Tryz.func45, Tryz.ntmps45
    go_wp2_with fail
    refine HR.mono ?_
    rintro e w1 ⟨ao, c, rfl, _, t⟩
    have H1 := Lib.hid (And.intro (HN.out.1.new t) t)
    have c0 := wob_0 H1.out.1.2.2
    unfold theDisk at c0
    have HC := HC'.out w1 H1.out.1.1
    clear t HR c2 f2
    have e1 := HE.out
    go_wp2_with fail
    refine HC.mono ?_
    rintro e w2 ⟨k', rfl, rfl, hn⟩
    have H2 := Lib.hid ((H1.out.1.disk hn).after H1.out.2)
    have f2 := wob_free (H2.out.choose_spec.1).2.2 2
    have c2 := wob_2 (H2.out.choose_spec.1).2.2
    clear hn HC HC' c0 e1
    by_cases h0 : k' = 0
    · subst h0
      go_wp2_with fail
      go_end0
      exact ⟨rfl, H2.out.then fun F1 h1 => h1.set_s false⟩
    · go_wp2_with fail
      go_end0
      refine ⟨rfl, H2.out.then fun F1 h1 => ?_⟩
      rw [show decide (k' ≠ 0) = (k' != 0) from by simp [h0]]
      exact h1.set_s _

set_option maxHeartbeats 4000000 in
theorem wal_commit_v (base b q : Nat) (M : MD) (n : Nat) (s : Bool) (F : List Nat) (v : Value) (m : Nat) (L : List Opm) (w : World) (h : CW w base b q M n s F) (ht : Tab w) (hr : Opr w v m L) (hb : bulkO L ≤ 5000) {K J j : Nat} (hw : Well K M j) (hj : j + 2 ≤ J) (hK : Room K J) (hK2 : (frms (recs L)).length ≤ K) (hn : n ≤ 900000000) :
    Calls Tryz.prog 20 #[.pointer (some ⟨q, 0, none⟩), v] w (Left fun k w' => k = (commitP M n s L).e ∧ CVNext w w' base b q (commitP M n s L).M (commitP M n s L).n (commitP M n s L).s F) := by
  obtain ⟨ao, c, rfl⟩ := hr.shape
  have HRY := wal_ready b q n s w h.2.2
  have HN := Lib.hid h.v
  have HFI := Lib.hid h.fits
  unfold commitP
  cases s with
  | true =>
    rw [if_pos rfl] at HRY ⊢
    clear h hr ht
    go_enter Tryz.func20, Tryz.ntmps20
    go_wp2_with fail
    go_step3
    go_wp2_with fail
    refine HRY.mono ?_
    rintro e w1 ⟨rfl, rfl⟩
    clear HRY
    go_wp2_with fail
    go_step3
    go_wp2_with fail
    rw [Exit.noGoto_ret]
    go_ret
    exact ⟨8, rfl, rfl, HN.out.next (Turn.refl _ _)⟩
  | false =>
    rw [if_neg (by simp)] at HRY ⊢
    have HA := Lib.hid (And.intro hw (And.intro hj (And.intro hK (And.intro hK2 (And.intro hn hb)))))
    cases hok : okOps L with
    | false =>
      rw [if_pos rfl]
      have HO := batch_bad _ m L w hr hok
      clear h hr ht hw hj hK hK2 hn hb hok HA
      go_enter Tryz.func20, Tryz.ntmps20
      go_wp2_with fail
      go_step3
      go_wp2_with fail
      refine HRY.mono ?_
      rintro e w1 ⟨rfl, rfl⟩
      clear HRY
      go_wp2_with fail
      go_step3
      go_wp2_with fail
      refine HO.mono ?_
      rintro e w1 ⟨rfl, h2⟩
      have H2 := Lib.hid h2
      clear h2 HO
      go_wp2_with fail
      rw [Exit.noGoto_ret]
      go_ret
      have t2 := turn_below H2.out
      exact ⟨1, rfl, rfl, (HN.out.new t2).next t2.nil_any⟩
    | true =>
      rw [if_neg (by simp)]
      have HO := batch_any _ m L w hr ht hok hb
      clear h hr ht hw hj hK hK2 hn hb
      obtain ⟨x, hx⟩ : ∃ x, x = frms (recs L) := ⟨_, rfl⟩
      have hx2 : x.length ≤ 110000 := by rw [hx]; exact recs_frms HA.out.2.2.2.2.2
      have hxK : x.length ≤ K := by rw [hx]; exact HA.out.2.2.2.1
      rw [← hx] at HO ⊢
      clear hx hok
      unfold commitA
      have HWA := Lib.hid (well_append HA.out.1 logK x hxK)
      have HHA := has_append (HFI.out rfl) x
      obtain ⟨k1, hk1⟩ : ∃ k, k = (M.act (opAppend logK x)).1 := ⟨_, rfl⟩
      obtain ⟨M1, hM1⟩ : ∃ M', M' = (M.act (opAppend logK x)).2 := ⟨_, rfl⟩
      rw [← hk1, ← hM1] at HHA ⊢
      rw [← hM1] at HWA
      have HHA' := Lib.hid HHA
      have HWB := Lib.hid (well_sync HWA.out logK)
      have HHB : Hid (∀ l, Has M1 l → (M1.act (opSync logK)).1 ≠ 7 → Has (M1.act (opSync logK)).2 l) := Lib.hid fun l hl => (has_sync hl).2
      obtain ⟨k2, hk2⟩ : ∃ k, k = (M1.act (opSync logK)).1 := ⟨_, rfl⟩
      obtain ⟨M2, hM2⟩ : ∃ M', M' = (M1.act (opSync logK)).2 := ⟨_, rfl⟩
      rw [← hk2, ← hM2] at HHB ⊢
      rw [← hM2] at HWB
      have HK1 := Lib.hid hk1
      have HM1' := Lib.hid hM1
      have HK2 := Lib.hid hk2
      have HM2 := Lib.hid hM2
      clear hk1 hM1 hk2 hM2 HHA
      go_enter Tryz.func20, Tryz.ntmps20
      go_wp2_with fail
      go_step3
      go_wp2_with fail
      refine HRY.mono ?_
      rintro e w1 ⟨rfl, rfl⟩
      clear HRY
      go_wp2_with fail
      go_step3
      go_wp2_with fail
      refine HO.mono ?_
      rintro e w1 ⟨ao1, m1, c1, rfl, h1, h2⟩
      have t1 := turn_below h2
      have hm1 := h1.1
      have hCV := HN.out
      have H1 := Lib.hid (hCV.new t1)
      have c0 := wob_0 H1.out.2.2
      unfold theDisk at c0
      have HL := well_lim HA.out.2.2.1 HA.out.1 (by have := HA.out.2.1; omega)
      have HAP := append_cd base b M F logS (.slice ao1 m1 c1) x w1 H1.out.1 HL (by decide) h1.reads (by omega) (fun _ a n' c' e hm => by
        have hlt := (hCV.1.lt _ hm).2
        have hown : (Value.slice ao1 m1 c1).ownBlock = some a.block := by rw [e]; rfl
        have := (h1.2.lt _ hown).1
        omega)
      rw [logS_list] at HAP
      unfold theDisk logS Acted at HAP
      have HT1 := Lib.hid t1
      have HM1 := Lib.hid hm1
      clear h1 h2 HO t1 hm1 hCV HL
      rw [← HK1.out, ← HM1'.out] at HAP
      go_wp2_with fail
      refine HAP.mono ?_
      rintro e w2 ⟨k', rfl, rfl, hn⟩
      have H2 : Hid (CVNext w w2 base b q M1 n false F) := Lib.hid ((H1.out.disk hn).after HT1.out)
      clear hn HAP c0
      by_cases h0 : k' = 0
      · obtain ⟨F1, hCV, hr1, hr3⟩ := H2.out
        have c0 := wob_0 hCV.2.2
        unfold theDisk at c0
        have HL := well_lim HA.out.2.2.1 HWA.out (by have := HA.out.2.1; omega)
        have HAP := sync_cd base b M1 F1 logS w2 hCV.1 HL (by decide)
        rw [logS_list] at HAP
        unfold theDisk logS Acted at HAP
        rw [← HK2.out, ← HM2.out] at HAP
        have HR2' := Lib.hid (And.intro hCV (And.intro hr1 hr3))
        clear hCV HL HWA hr1 hr3
        subst h0
        go_wp2_with fail
        refine HAP.mono ?_
        rintro e w3 ⟨k', rfl, rfl, hn⟩
        have H3 : Hid (CVNext w w3 base b q M2 n false F) := Lib.hid (CVNext.then' HR2'.out.1 HR2'.out.2.1 HR2'.out.2.2 (HR2'.out.1.disk hn))
        clear hn HAP c0
        by_cases h2 : k' = 0
        · obtain ⟨F1, hCV, hr1, hr3⟩ := H3.out
          have c1 := wob_1 hCV.2.2
          have f1 := wob_free hCV.2.2 1
          clear hCV hr1 hr3 HWB
          subst h2
          go_wp2_with fail
          rw [Exit.noGoto_ret]
          go_ret
          refine ⟨0, rfl, ?_⟩
          try rw [if_pos rfl]
          try rw [if_pos rfl]
          refine ⟨rfl, H3.out.then fun F1 h1 => ?_⟩
          have := h1.set_n (n + m1)
          have hm1 := HM1.out
          have hn9 := HA.out.2.2.2.2.1
          have e : wrap64 ((n : Int) + (m1 : Int)) = ((n + m1 : Nat) : Int) := by rw [wrap64_id _ (by omega)]; omega
          rw [e]
          rw [← hm1]
          exact this
        · obtain ⟨F1, hCV, hr1, hr3⟩ := H3.out
          have HRV := Lib.hid (And.intro hCV (And.intro hr1 hr3))
          have HL := well_lim HA.out.2.2.1 HWB.out (by have := HA.out.2.1; omega)
          have HU := wal_undo base b q M2 n F1 k' m1 n w3 hCV HL (fun h7 => by have := (HHB.out _ (HHA'.out.1 (by first | rfl | trivial)) h7).read.2; rw [this, ← HM1.out]) (by have := HM1.out; have := HA.out.2.2.2.2.1; omega)
          have HKN := Lib.hid h2
          clear hCV hr1 hr3 HL HWB
          go_wp2_with fail
          refine HU.mono ?_
          rintro e w4 ⟨rfl, hn⟩
          have HN4 := Lib.hid hn
          clear hn HU h2
          go_wp2_with fail
          rw [Exit.noGoto_ret]
          go_ret
          refine ⟨k', rfl, ?_⟩
          try rw [if_pos rfl]
          try rw [if_neg HKN.out]
          refine ⟨(commitC_e _ _ _).symm, ?_⟩
          rw [commitC_n]
          exact CVNext.then' HRV.out.1 HRV.out.2.1 HRV.out.2.2 HN4.out
      · obtain ⟨F1, hCV, hr1, hr3⟩ := H2.out
        have HRV := Lib.hid (And.intro hCV (And.intro hr1 hr3))
        have HL := well_lim HA.out.2.2.1 HWA.out (by have := HA.out.2.1; omega)
        have HU := wal_undo base b q M1 n F1 k' 0 n w2 hCV HL (fun h7 => (HHA'.out.2 h0 h7).read.2) (by have := HA.out.2.2.2.2.1; omega)
        rw [Int.natCast_zero] at HU
        have HKN := Lib.hid h0
        clear hCV hr1 hr3 HL HWA HWB
        go_wp2_with fail
        refine HU.mono ?_
        rintro e w4 ⟨rfl, hn⟩
        have HN4 := Lib.hid hn
        clear hn HU h0
        go_wp2_with fail
        rw [Exit.noGoto_ret]
        go_ret
        refine ⟨k', rfl, ?_⟩
        try rw [if_neg HKN.out]
        refine ⟨(commitC_e _ _ _).symm, ?_⟩
        rw [commitC_n]
        exact CVNext.then' HRV.out.1 HRV.out.2.1 HRV.out.2.2 HN4.out

theorem wal_commit (base b q : Nat) (M : MD) (n : Nat) (s : Bool) (F : List Nat) (v : Value) (m : Nat) (L : List Opm) (w : World) (h : CW w base b q M n s F) (ht : Tab w) (hr : Opr w v m L) (hb : bulkO L ≤ 5000) {K J j : Nat} (hw : Well K M j) (hj : j + 2 ≤ J) (hK : Room K J) (hK2 : (frms (recs L)).length ≤ K) (hn : n ≤ 900000000) :
    Calls Tryz.prog 20 #[.pointer (some ⟨q, 0, none⟩), v] w (Left fun k w' => k = (commitP M n s L).e ∧ CWNext w w' base b q (commitP M n s L).M (commitP M n s L).n (commitP M n s L).s F) := by
  refine (wal_commit_v base b q M n s F v m L w h ht hr hb hw hj hK hK2 hn).mono ?_
  rintro e w' ⟨k, he, hk, hv⟩
  exact ⟨k, he, hk, hv.w (fits_commit h.fits L)⟩

set_option maxHeartbeats 4000000 in
theorem wal_reset (base b q : Nat) (M : MD) (n : Nat) (s : Bool) (F : List Nat) (w : World) (h : CW w base b q M n s F) (hl : Lim M) :
    Calls Tryz.prog 17 #[.pointer (some ⟨q, 0, none⟩)] w (Left fun k w' => k = (resetP M n s).e ∧ CWNext w w' base b q (resetP M n s).M (resetP M n s).n (resetP M n s).s F) := by
  have HF : Hid (∀ (e : Ending) (w' : World), Left (fun k w' => k = (resetP M n s).e ∧ CVNext w w' base b q (resetP M n s).M (resetP M n s).n (resetP M n s).s F) e w' → Left (fun k w' => k = (resetP M n s).e ∧ CWNext w w' base b q (resetP M n s).M (resetP M n s).n (resetP M n s).s F) e w') := Lib.hid fun e w' hh => by
    obtain ⟨k, he, hk, hv⟩ := hh
    exact ⟨k, he, hk, hv.w (fits_reset h.fits)⟩
  refine Calls.mono ?_ HF.out
  clear HF
  have HRY := wal_ready b q n s w h.2.2
  have c0 := wob_0 h.2.2
  unfold theDisk at c0
  unfold resetP
  cases s with
  | true =>
    rw [if_pos rfl] at HRY ⊢
    have HN := Lib.hid h.v
    clear h
    go_enter Tryz.func17, Tryz.ntmps17
    go_wp2_with fail
    refine HRY.mono ?_
    rintro e w1 ⟨rfl, rfl⟩
    clear HRY
    go_wp2_with fail
    go_ret
    exact ⟨8, rfl, rfl, HN.out.next (Turn.refl _ _)⟩
  | false =>
    rw [if_neg (by simp)] at HRY ⊢
    have HC := cut_cd base b M F logS 0 w h.1 hl (by decide)
    rw [logS_list] at HC
    unfold theDisk logS at HC
    have HN := Lib.hid h.v
    obtain ⟨k, hk⟩ : ∃ k, k = (M.act (opCut logK 0)).1 := ⟨_, rfl⟩
    obtain ⟨M', hM'⟩ : ∃ M', M' = (M.act (opCut logK 0)).2 := ⟨_, rfl⟩
    unfold Acted at HC
    rw [← hk, ← hM'] at HC ⊢
    clear h hk hM'
    go_enter Tryz.func17, Tryz.ntmps17
    go_wp2_with fail
    refine HRY.mono ?_
    rintro e w1 ⟨rfl, rfl⟩
    clear HRY
    go_wp2_with fail
    refine HC.mono ?_
    rintro e w1 ⟨k', rfl, rfl, hn⟩
    have H1 := Lib.hid (HN.out.disk hn)
    have f1 := wob_free (H1.out.choose_spec.1).2.2 1
    have f2 := wob_free (H1.out.choose_spec.1).2.2 2
    have c1 := wob_1 (H1.out.choose_spec.1).2.2
    have c2 := wob_2 (H1.out.choose_spec.1).2.2
    clear hn HC c0
    by_cases h0 : k' = 0
    · subst h0
      go_wp2_with fail
      go_ret
      refine ⟨0, rfl, rfl, ?_⟩
      try rw [if_pos rfl]
      exact (H1.out.then fun F1 h1 => h1.set_n 0)
    · have HK := Lib.hid h0
      by_cases h7 : k' = 7
      · subst h7
        go_wp2_with fail
        go_ret
        refine ⟨7, rfl, rfl, ?_⟩
        try rw [if_neg HK.out]
        exact H1.out.then fun F1 h1 => h1.set_s true
      · go_wp2_with fail
        go_ret
        refine ⟨k', rfl, rfl, ?_⟩
        try rw [if_neg HK.out]
        try rw [show decide (k' = 7) = false from decide_eq_false h7]
        exact H1.out

end Go.Proofs.YthacjeeafnblmaaGreatDoor
