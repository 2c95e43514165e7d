/- Logs of whole batches, of batches and a part of one, on a disk that has the log alone: plain facts. Numbers and types by name. -/
import Derived.Test.YthacjeeafnblmaaGreatDoorWtc
import Derived.Test.YthacjeeafnblmaaGreatDoorFls
import Derived.Test.YthacjeeafnblmaaGreatDoorWpl
/- The code's log: batches and Open. Numbers and types by name. -/
namespace Go.Proofs.YthacjeeafnblmaaGreatDoor
open Go.RowKit Go.Lib
set_option maxRecDepth 100000

/-- The table of powers lies below the disk's blocks. -/
def TabAt (base : Nat) (w : World) : Prop := ∃ w0 : World, Tab w0 ∧ w0.heap.size ≤ base ∧ Grow w0 w
theorem TabAt.mk {base : Nat} {w0 w : World} (h : Tab w0) (hg : Grow w0 w) (hb : w0.heap.size ≤ base) : TabAt base w := ⟨w0, h, hb, hg⟩
theorem TabAt.tab {base : Nat} {w : World} (h : TabAt base w) : Tab w := by
  obtain ⟨w0, h1, _, h3⟩ := h
  exact h1.later h3
theorem TabAt.next {base b : Nat} {w w' : World} {M M' : MD} {F : List Nat} (h : TabAt base w) (hc : CD w base b M F) (hn : Next w w' base b M' F) : TabAt base w' := by
  obtain ⟨w0, h1, h2, h3⟩ := h
  obtain ⟨F', _, _, t⟩ := hn
  refine ⟨w0, h1, h2, Below.trans h3 (Stays.below (Stays.of_turn t fun q hq => ⟨Nat.lt_of_lt_of_le hq h3.size, fun hm => ?_⟩))⟩
  have := (hc.lt q hm).1
  have hq' : q < w0.heap.size := hq
  omega

theorem Rws.cap {w : World} {ao : Option Addr} {n c : Nat} {ps : List (List UInt8)} (h : Rws w (.slice ao n c) n ps) : n ≤ c := by
  obtain ⟨h1, h2, vs, ⟨ao', c', e, h0, _⟩, hl, _⟩ := h
  simp only [Value.slice.injEq] at e
  obtain ⟨_, e1, e2⟩ := e
  omega

set_option maxHeartbeats 4000000 in
theorem wal_batches (v : Value) (m : Nat) (b : List UInt8) (w : World) (hr : Reads w v (bv b)) (hm : m = b.length) (hl : m ≤ 7200000) (ht : Tab w) :
    Calls Tryz.prog 33 #[v] w fun e w' => ∃ aj jn cj lo, e = .returned (.tuple #[.slice aj jn cj, .int .i64 ((endOf b : Nat) : Int)]) ∧ Turn [] w w' ∧ w.heap.size ≤ lo ∧ ObsB w' lo w'.heap.size (.slice aj jn cj) jn (batsOf b) := by
  obtain ⟨ao, c, rfl⟩ : ∃ ao c, v = .slice ao m c := by obtain ⟨ao, c, rfl, _⟩ := hr; exact ⟨ao, c, by rw [bv_length, hm]⟩
  have HBL := Lib.hid (And.intro hl hm)
  have HTB := Lib.hid ht
  have HS := scan_any _ m b w hr hm (Lib.hid (by omega))
  clear hr hm hl ht
  go_enter Tryz.func33, Tryz.ntmps33
  go_wp2_with fail
  refine HS.mono ?_
  rintro e w3 ⟨hb3, l, n3, al, cl, hsc, hn3, rfl, hown⟩
  have hl8 := bulk_scans' hsc
  have hsz := scans_size hsc
  have HS : Hid (scn b = l ∧ (frms l).length ≤ 7200000 ∧ l.length ≤ 900000) := Lib.hid ⟨scn_of hsc, by have := HBL.out.1; have := HBL.out.2; omega, by have := HBL.out.1; have := HBL.out.2; omega⟩
  have HG3 : Hid (Turn [] w w3 ∧ Ows w3 w.heap.size (.slice al l.length cl) l.length l ∧ Grow w w3) := Lib.hid ⟨turn_below hb3, hown, hb3⟩
  obtain ⟨ll, hll⟩ : ∃ ll, ll = l.length := ⟨_, rfl⟩
  rw [← hll] at HG3 HS ⊢
  have HLL := Lib.hid hll
  have HC : Hid (ll ≤ cl) := Lib.hid (Rws.cap (HG3.out.2.1.rows (by have := HS.out.2.2; unfold maxLen; omega)))
  clear hb3 hsc hn3 hown hl8 hsz hll
  go_wp2_with fail
  refine (replay_from _ ll l w3 (HG3.out.2.1.rows (by have := HS.out.2.2; unfold maxLen; omega)) (HTB.out.later HG3.out.2.2) HS.out.2.2).mono ?_
  rintro e w4 ⟨hb4, LL, u, aj, jn, cj, hplay, hu, hLL, rfl, hobs⟩
  have HP : Hid (batsOf b = LL ∧ endOf b = (frms (l.take u)).length ∧ u ≤ ll) := Lib.hid ⟨by unfold batsOf; rw [HS.out.1, hplay], by unfold endOf usedOf; rw [HS.out.1, hplay], by rw [HLL.out]; exact hu⟩
  have HG4 : Hid (Turn [] w3 w4 ∧ ObsB w4 w3.heap.size w4.heap.size (.slice aj jn cj) jn LL) := Lib.hid ⟨turn_below hb4, hobs.between⟩
  have HRW : Hid (Rws w4 (.slice al ll cl) ll l) := Lib.hid ((HG3.out.2.1.rows (by have := HS.out.2.2; unfold maxLen; omega)).later hb4)
  clear hb4 hplay hu hLL hobs
  have x1 : u ≤ ll := HP.out.2.2
  have x2 : ll ≤ cl := HC.out
  have x3 : u ≤ cl := Nat.le_trans x1 x2
  have x4 : ll ≤ 900000 := HS.out.2.2
  go_wp2_with fail
  go_loopw [3, 8, 23] (fun nv pv iv wr => ∃ i : Nat, i ≤ u ∧ iv = .int .i64 i ∧ nv = .int .i64 (((frms (l.take i)).length : Nat) : Int) ∧ wr = w4) (fun _ _ iv _ => u - (RowKit.intOf iv).toNat)
  case atStart => exact ⟨0, Nat.zero_le _, rfl, rfl, rfl⟩
  case round =>
    obtain ⟨i, hi, rfl, rfl, rfl⟩ := hrel
    by_cases h1 : i < u
    · have h3 : (i : Int) < (u : Int) := by omega
      have hi9 : i < 900000 := by omega
      have e3 : wrap64 ((i : Int) + 1) = ((i + 1 : Nat) : Int) := by rw [wrap64_id _ (by omega)]; omega
      clear hi9
      obtain ⟨a, p, ap, cp, rfl, hp, hcell, _, _⟩ := HRW.out.at (k := i) (by omega)
      have hnx := frms_next hp
      have htk := frms_take l (i + 1)
      have htot := HS.out.2.1
      obtain ⟨q, hq⟩ : ∃ q, q = (frms (l.take i)).length := ⟨_, rfl⟩
      obtain ⟨pl, hpl⟩ : ∃ pl, pl = p.length := ⟨_, rfl⟩
      rw [← hq, ← hpl] at hnx
      rw [← hpl] at hcell
      rw [← hq]
      have hq9 : q + 8 + pl ≤ 7200000 := by omega
      have HNX := Lib.hid hnx
      clear hp htk htot hpl hq hnx
      have e1 : wrap64 (8 + (pl : Int)) = ((8 + pl : Nat) : Int) := by rw [wrap64_id _ (by omega)]; omega
      have e2 : wrap64 ((q : Int) + ((8 + pl : Nat) : Int)) = ((q + 8 + pl : Nat) : Int) := by rw [wrap64_id _ (by omega)]; omega
      have HEE := Lib.hid (And.intro e1 (And.intro e2 (And.intro e3 hq9)))
      clear e1 e2 e3 hq9
      go_wp2_with fail
      refine ⟨⟨i + 1, by omega, ?_, ?_⟩, ?_⟩
      · rw [Int.natCast_succ]
      · refine ⟨?_, trivial⟩
        rw [HEE.out.1, HEE.out.2.1, HNX.out]
      · simp [RowKit.intOf]
        omega
    · obtain rfl : i = u := by omega
      have h3 : ¬ (i : Int) < (i : Int) := by omega
      go_wp2_with fail
      go_ret2
      refine ⟨aj, jn, cj, ?_, HG3.out.1.trans HG4.out.1, w3.heap.size, HG3.out.1.size, ?_⟩
      · rw [HP.out.2.1]; rfl
      · rw [HP.out.1]; exact HG4.out.2

/-- On the way: the disk, and what was told, in blocks that the disk has not. -/
def MidC (w w5 : World) (base b : Nat) (M5 : MD) (F : List Nat) (v : Value) (jn : Nat) (LL : List (List Opm)) : Prop :=
  ∃ F1, CD w5 base b M5 F1 ∧ (∀ k ∈ F1, k ∈ F ∨ w.heap.size ≤ k) ∧ Turn F w w5 ∧ ∃ lo hi, w.heap.size ≤ lo ∧ hi ≤ w5.heap.size ∧ ObsB w5 lo hi v jn LL ∧ ∀ k ∈ F1, k < lo ∨ hi ≤ k
theorem MidC.next {w w5 : World} {base b : Nat} {M5 : MD} {F : List Nat} {v : Value} {jn : Nat} {LL : List (List Opm)} (h : MidC w w5 base b M5 F v jn LL) : Next w w5 base b M5 F := by
  obtain ⟨F1, h1, h2, h3, _⟩ := h
  exact ⟨F1, h1, h2, h3⟩
/-- A call of the disk on the way. -/
theorem MidC.step {w w5 w6 : World} {base b : Nat} {M5 M6 : MD} {F : List Nat} {v : Value} {jn : Nat} {LL : List (List Opm)} {F1 : List Nat} (h1 : CD w5 base b M5 F1 ∧ (∀ k ∈ F1, k ∈ F ∨ w.heap.size ≤ k) ∧ Turn F w w5 ∧ ∃ lo hi, w.heap.size ≤ lo ∧ hi ≤ w5.heap.size ∧ ObsB w5 lo hi v jn LL ∧ ∀ k ∈ F1, k < lo ∨ hi ≤ k)
    (hn : Next w5 w6 base b M6 F1) : MidC w w6 base b M6 F v jn LL := by
  obtain ⟨h1, h2, h4, lo, hi, h5, h6, h7, h8⟩ := h1
  obtain ⟨F2, k1, k2, k4⟩ := hn
  have hs := h4.size
  refine ⟨F2, k1, fun k hk => ?_, h4.trans' k4 h2, lo, hi, h5, Nat.le_trans h6 k4.size, h7.turn k4 h8, fun k hk => ?_⟩
  · rcases k2 k hk with h | h
    · exact h2 k h
    · exact .inr (by omega)
  · rcases k2 k hk with h | h
    · exact h8 k h
    · exact .inr (by omega)

set_option maxHeartbeats 4000000 in
theorem wal_open (base b : Nat) (M : MD) (F : List Nat) (w : World) (h : CD w base b M F) (ht : TabAt base w) {K J j : Nat} (hw : Well K M j) (hj : j + 3 ≤ J) (hR : Room K J) :
    Calls Tryz.prog 11 #[theDisk b] w (COpened w base b F (openP M)) := by
  have HFT : Hid (∀ q F' w', CV w' base b q (openP M).M (openP M).n false F' → (openP M).e = 0 → CW w' base b q (openP M).M (openP M).n false F') := Lib.hid fun q F' w' hv h0 => hv.w (fits_open hw.up h0)
  have HRD := read_cd base b M F logS w h (well_lim hR hw (by omega)).fs (by decide)
  have HCR := fun w' (t : Turn [] w w') => create_cd base b M F logS w' (h.new t) (well_lim hR hw (by omega)) (by decide)
  rw [logS_list] at HRD HCR
  unfold theDisk logS at HRD HCR
  have hbl := well_read hR hw (by omega) logK
  have hbn := mread_none (M := M) (k := logK)
  have HW := Lib.hid (And.intro hw (And.intro hj hR))
  have HWC := Lib.hid (well_create hw logK)
  have HTB := Lib.hid ht
  obtain ⟨B, hb⟩ : ∃ B, B = (M.read logK).1 := ⟨_, rfl⟩
  obtain ⟨e0, he0⟩ : ∃ e, e = (M.read logK).2 := ⟨_, rfl⟩
  obtain ⟨k1, hk1⟩ : ∃ k, k = (M.act (opCreate logK)).1 := ⟨_, rfl⟩
  obtain ⟨M1, hM1⟩ : ∃ M', M' = (M.act (opCreate logK)).2 := ⟨_, rfl⟩
  unfold Acted at HCR
  rw [← hb] at hbl hbn
  rw [← he0] at hbn
  rw [← hM1] at HWC
  rw [← hb, ← he0] at HRD
  rw [← hk1, ← hM1] at HCR
  obtain ⟨O, hO⟩ : ∃ O : Opened, O = openP M := ⟨_, rfl⟩
  rw [← hO] at HFT ⊢
  unfold openP at hO
  rw [← hb, ← he0, ← hk1, ← hM1] at hO
  have HO := Lib.hid hO
  clear hO
  obtain ⟨m, hm⟩ : ∃ m, m = B.length := ⟨_, rfl⟩
  rw [← hm] at HRD
  have HBL := Lib.hid (And.intro hbl (And.intro hbn hm))
  have HCR' := Lib.hid HCR
  have H0 := Lib.hid h
  clear hb he0 hk1 hM1 hbl hbn hm h hw hj hR HCR ht
  unfold theDisk
  go_enter Tryz.func11, Tryz.ntmps11
  go_wp2_with fail
  go_step3
  go_wp2_with fail
  refine HRD.mono ?_
  rintro e w1 ⟨ao, c, rfl, hB, t⟩
  have HB1 := Lib.hid (And.intro hB t)
  clear hB t HRD
  by_cases h3 : e0 = 3
  case' pos =>
    have HO1 : Hid (O = if k1 = 0 then openQ M1 B else ⟨k1, M1, 0, []⟩) := Lib.hid (by rw [HO.out, if_pos h3, HBL.out.2.1 h3])
    subst h3
    clear HO
    have HC := HCR'.out w1 HB1.out.2
    go_wp2_with fail
    refine HC.mono ?_
    rintro e w2 ⟨k', rfl, rfl, hn⟩
    have H2 : Hid (Next w w2 base b M1 F) := Lib.hid (Next.after HB1.out.2.nil_any hn)
    have HRB : Hid (Reads w2 (.slice ao m c) (bv B)) := Lib.hid (HB1.out.1.turn hn.choose_spec.2.2 fun k hk => (H0.out.lt k hk).2)
    clear hn HC HCR'
    by_cases h4 : k' = 0
    case' neg =>
      have HQ : Hid (O = ⟨k', M1, 0, []⟩) := Lib.hid (by rw [HO1.out, if_neg h4])
      clear HO1
      go_wp2_with fail
      go_step3
      go_wp2_with fail
      rw [Exit.noGoto_ret]
      go_ret3
      rw [HQ.out]
      exact .inl ⟨h4, rfl, H2.out⟩
    have HQ : Hid (O = openQ M1 B) := Lib.hid (by rw [HO1.out, if_pos h4])
    have HE : Hid (Next w w2 base b M1 F) := H2
    have HWE : Hid (Well K M1 (j + 1)) := HWC
    subst h4
    clear H2 HO1
    obtain ⟨we, rfl⟩ : ∃ we, we = w2 := ⟨_, rfl⟩
    obtain ⟨ME, rfl⟩ : ∃ ME, ME = M1 := ⟨_, rfl⟩
  case' neg =>
    by_cases h4 : e0 = 0
    case' neg =>
      have HQ : Hid (O = ⟨e0, M, 0, []⟩) := Lib.hid (by rw [HO.out, if_neg h3, if_neg h4])
      clear HO
      go_wp2_with fail
      go_step3
      go_wp2_with fail
      rw [Exit.noGoto_ret]
      go_ret3
      rw [HQ.out]
      exact .inl ⟨h4, rfl, H0.out.next_new HB1.out.2⟩
    have HQ : Hid (O = openQ M B) := Lib.hid (by rw [HO.out, if_neg h3, if_pos h4])
    have HE : Hid (Next w w1 base b M F) := Lib.hid (H0.out.next_new HB1.out.2)
    have HRB : Hid (Reads w1 (.slice ao m c) (bv B)) := Lib.hid HB1.out.1.reads
    have HWE : Hid (Well K M (j + 1)) := Lib.hid (well_more HW.out.1 (by omega))
    subst h4
    clear HO HCR' HWC
    obtain ⟨we, rfl⟩ : ∃ we, we = w1 := ⟨_, rfl⟩
    obtain ⟨ME, rfl⟩ : ∃ ME, ME = M := ⟨_, rfl⟩
  all_goals
    clear HB1
    go_wp2_with fail
    go_step3
    go_wp2_with fail
    refine (wal_batches _ m B we HRB.out HBL.out.2.2 (by have := HBL.out.1; have := HBL.out.2.2; omega) (HTB.out.next H0.out HE.out).tab).mono ?_
    rintro e w4 ⟨aj, jn, cj, lo, rfl, t4, hlo, hobs⟩
    obtain ⟨q, hq⟩ : ∃ q, q = endOf B := ⟨_, rfl⟩
    obtain ⟨LL, hLL⟩ : ∃ LL, LL = batsOf B := ⟨_, rfl⟩
    have HEND : Hid (endOf B = q ∧ batsOf B = LL) := Lib.hid ⟨hq.symm, hLL.symm⟩
    rw [← hq]
    rw [← hLL] at hobs
    have HOB : Hid (MidC w w4 base b ME F (.slice aj jn cj) jn LL) := Lib.hid (by
      obtain ⟨F1, hCD, hf, ht⟩ := HE.out
      exact ⟨F1, hCD.new t4, hf, ht.trans t4.nil_any, lo, w4.heap.size, Nat.le_trans ht.size hlo, Nat.le_refl _, hobs, fun k hk => .inl (Nat.lt_of_lt_of_le (hCD.lt k hk).2 hlo)⟩)
    clear hq hLL t4 hlo hobs HE HRB
    by_cases hqm : q < m
    case' pos =>
      have h5 : (q : Int) < (m : Int) := by omega
      obtain ⟨F1, hmid⟩ := HOB.out
      have HC := cut_cd base b ME F1 logS q w4 hmid.1 (well_lim HW.out.2.2 HWE.out (by have := HW.out.2.1; omega)) (by decide)
      rw [logS_list] at HC
      unfold theDisk logS Acted at HC
      have HQ1 : Hid (O = if (ME.act (opCut logK q)).1 = 0 then openR (ME.act (opCut logK q)).2 B else ⟨(ME.act (opCut logK q)).1, (ME.act (opCut logK q)).2, 0, []⟩) := Lib.hid (by rw [HQ.out]; unfold openQ; rw [HEND.out.1, if_pos (by rw [← HBL.out.2.2]; exact hqm)])
      have HW2 := Lib.hid (well_cut HWE.out logK q)
      obtain ⟨k2, hk2⟩ : ∃ k, k = (ME.act (opCut logK q)).1 := ⟨_, rfl⟩
      obtain ⟨M2, hM2⟩ : ∃ M', M' = (ME.act (opCut logK q)).2 := ⟨_, rfl⟩
      rw [← hk2, ← hM2] at HC HQ1
      rw [← hM2] at HW2
      have HOB1 := Lib.hid hmid
      clear hmid hk2 hM2 HOB HQ
      go_wp2_with fail
      refine HC.mono ?_
      rintro e w5 ⟨k', rfl, rfl, hn⟩
      have HOB := Lib.hid (MidC.step HOB1.out hn)
      clear HOB1 hn HC
      by_cases h4 : k' = 0
      case' neg =>
        have HQ : Hid (O = ⟨k', M2, 0, []⟩) := Lib.hid (by rw [HQ1.out, if_neg h4])
        clear HQ1
        go_wp2_with fail
        rw [Exit.noGoto_ret]
        go_ret3
        rw [HQ.out]
        exact .inl ⟨h4, rfl, HOB.out.next⟩
      have HQ : Hid (O = openR M2 B) := Lib.hid (by rw [HQ1.out, if_pos h4])
      subst h4
      clear HWE HQ1
      have HWE : Hid (Well K M2 (j + 2)) := HW2
      obtain ⟨wf, rfl⟩ : ∃ wf, wf = w5 := ⟨_, rfl⟩
      obtain ⟨MF, rfl⟩ : ∃ MF, MF = M2 := ⟨_, rfl⟩
    case' neg =>
      have h5 : ¬ (q : Int) < (m : Int) := by omega
      have HQ' : Hid (O = openR ME B) := Lib.hid (by rw [HQ.out]; unfold openQ; rw [HEND.out.1, if_neg (by rw [← HBL.out.2.2]; exact hqm)])
      clear HQ
      have HQ := HQ'
      have HWE' : Hid (Well K ME (j + 2)) := Lib.hid (well_more HWE.out (by omega))
      clear HWE HQ'
      have HWE := HWE'
      obtain ⟨wf, rfl⟩ : ∃ wf, wf = w4 := ⟨_, rfl⟩
      obtain ⟨MF, rfl⟩ : ∃ MF, MF = ME := ⟨_, rfl⟩
    all_goals
      have HL := well_lim HW.out.2.2 HWE.out (by have := HW.out.2.1; omega)
      obtain ⟨F1, hmid⟩ := HOB.out
      have HC := sync_cd base b MF F1 logS wf hmid.1 HL (by decide)
      rw [logS_list] at HC
      unfold theDisk logS Acted at HC
      have HQ1 : Hid (O = if (MF.act (opSync logK)).1 = 0 then ⟨0, (MF.act (opSync logK)).2, q, LL⟩ else ⟨(MF.act (opSync logK)).1, (MF.act (opSync logK)).2, 0, []⟩) := Lib.hid (by rw [HQ.out]; unfold openR; rw [HEND.out.1, HEND.out.2])
      obtain ⟨k2, hk2⟩ : ∃ k, k = (MF.act (opSync logK)).1 := ⟨_, rfl⟩
      obtain ⟨M2, hM2⟩ : ∃ M', M' = (MF.act (opSync logK)).2 := ⟨_, rfl⟩
      rw [← hk2, ← hM2] at HC HQ1
      have HOB1 := Lib.hid hmid
      clear hmid hk2 hM2 HOB HQ HL HWE HW HBL
      go_wp2_with fail
      refine HC.mono ?_
      rintro e w5 ⟨k', rfl, rfl, hn⟩
      have HOB := Lib.hid (MidC.step HOB1.out hn)
      clear HOB1 hn HC
      by_cases h4 : k' = 0
      case' neg =>
        have HQ : Hid (O = ⟨k', M2, 0, []⟩) := Lib.hid (by rw [HQ1.out, if_neg h4])
        clear HQ1
        go_wp2_with fail
        rw [Exit.noGoto_ret]
        go_ret3
        rw [HQ.out]
        exact .inl ⟨h4, rfl, HOB.out.next⟩
      have HQ : Hid (O = ⟨0, M2, q, LL⟩) := Lib.hid (by rw [HQ1.out, if_pos h4])
      subst h4
      clear HQ1
      go_wp2_with fail
      rw [Exit.noGoto_ret]
      go_ret3
      have HF := HFT.out
      rw [HQ.out] at HF ⊢
      refine .inr ⟨rfl, ?_⟩
      obtain ⟨F2, k1, k2, k4, lo, hi, l1, l2, l3, l4⟩ := HOB.out
      have ta : Turn [] w5 (w5.alloc (wob 80 (theDisk b) q false)) := (Turn.refl [] w5).alloc _
      have hq5 : w5.heap.size ∉ F2 := fun hm => by have := (k1.lt _ hm).2; omega
      exact ⟨w5.heap.size, aj, jn, cj, lo, hi, F2, rfl, HF _ _ _ ⟨k1.new ta, hq5, heap_alloc_new w5 _⟩ rfl, k2, k4.trans ta.nil_any, l1, Nat.le_trans l2 ta.size, k4.size, .inr l2, l3.turn ta (by simp), l4⟩

theorem wal_open_nil (w : World) : Calls Tryz.prog 11 #[.pointer none] w fun e w' => (∃ ao c, e = .returned (.tuple #[.pointer none, .slice ao 0 c, .int .i64 3])) ∧ Below w.heap.size w w' := by
  go_enter Tryz.func11, Tryz.ntmps11
  go_wp2_with fail
  go_step3
  go_wp2_with fail
  refine (read_nil _ _).mono ?_
  rintro e w1 ⟨rfl, rfl⟩
  go_wp2_with fail
  refine (create_nil _ _).mono ?_
  rintro e w2 ⟨rfl, hb⟩
  have HB := Lib.hid hb
  clear hb
  go_wp2_with fail
  go_step3
  go_wp2_with fail
  rw [Exit.noGoto_ret]
  go_ret3
  exact ⟨⟨none, 0, rfl⟩, HB.out⟩

end Go.Proofs.YthacjeeafnblmaaGreatDoor

namespace Go.Proofs.YthacjeeafnblmaaGreatDoor
open Go.RowKit Go.Lib

/-- The bytes of batches. -/
def EB (LL : List (List Opm)) : List UInt8 := frms (allRecs LL)
theorem EB_nil : EB [] = [] := rfl
theorem EB_snoc (LL : List (List Opm)) (L : List Opm) : EB (LL ++ [L]) = EB LL ++ frms (recs L) := by unfold EB; rw [allRecs_snoc, frms_append]
theorem EB_one (L : List Opm) : EB [L] = frms (recs L) := by unfold EB allRecs; simp

theorem play_all : ∀ (LL : List (List Opm)) (ps : List (List UInt8)) (i : Nat) (done : List (List Opm)), (∀ L ∈ LL, small L) → play (allRecs LL ++ ps) i done [] i = play ps (i + (allRecs LL).length) (done ++ LL) [] (i + (allRecs LL).length)
  | [], ps, i, done, _ => by simp [allRecs]
  | L :: LL, ps, i, done, h => by
    have e : allRecs (L :: LL) ++ ps = recs L ++ (allRecs LL ++ ps) := by simp [allRecs]
    have e2 : (allRecs (L :: LL)).length = L.length + 1 + (allRecs LL).length := by simp [allRecs, recs]; omega
    rw [e, play_recs L (h L (by simp)).1 (h L (by simp)).2, play_all LL ps _ _ (fun L' hL' => h L' (by simp [hL'])), e2]
    simp only [List.append_assoc, List.singleton_append]
    rw [show i + L.length + 1 + (allRecs LL).length = i + (L.length + 1 + (allRecs LL).length) by omega]

theorem allRecs_short {LL : List (List Opm)} (h : ∀ L ∈ LL, small L) : ∀ p ∈ allRecs LL, p.length ≤ 1048576 := fun p hp => by
  obtain ⟨L, hL, hp⟩ := List.mem_flatMap.1 hp
  have := recs_short (h L hL).1 p hp
  omega

/-- Whole batches. -/
theorem bats_full {LL : List (List Opm)} (h : ∀ L ∈ LL, small L) : batsOf (EB LL) = LL ∧ endOf (EB LL) = (EB LL).length := by
  have h1 := scans_frms scans_nil (allRecs LL) (allRecs_short h)
  rw [List.append_nil, List.append_nil] at h1
  have h2 := play_all LL [] 0 [] h
  rw [List.append_nil, Nat.zero_add, List.nil_append] at h2
  have h3 : play (allRecs LL) 0 [] [] 0 = (LL, (allRecs LL).length) := by rw [h2, play]
  unfold batsOf endOf usedOf EB
  rw [scn_of h1, h3]
  exact ⟨rfl, by rw [List.take_length]⟩

/-- Whole batches and a part of one. -/
theorem bats_part {LL : List (List Opm)} (h : ∀ L ∈ LL, small L) {L : List Opm} (hL : small L) {t : Nat} (ht : t < (frms (recs L)).length) : batsOf (EB LL ++ (frms (recs L)).take t) = LL ∧ endOf (EB LL ++ (frms (recs L)).take t) = (EB LL).length := by
  obtain ⟨j, m, hj, hs⟩ := scans_inside (ps := recs L) (fun p hp => by have := recs_short hL.1 p hp; omega) ht
  have h1 := scans_frms hs (allRecs LL) (allRecs_short h)
  have hjl : j ≤ L.length := by unfold recs at hj; simp at hj; omega
  have et : (recs L).take j = (L.take j).map pay := by
    unfold recs
    rw [List.take_append_of_le_length (by simpa using hjl), List.map_take]
  have h2 := play_all LL ((recs L).take j) 0 [] h
  rw [Nat.zero_add, List.nil_append] at h2
  have h3 : play (allRecs LL ++ (recs L).take j) 0 [] [] 0 = (LL, (allRecs LL).length) := by
    rw [h2, et, play_pays _ _ _ _ _ (fun o ho => small_all hL o (List.mem_of_mem_take ho))]
  unfold batsOf endOf usedOf EB
  rw [scn_of h1, h3]
  exact ⟨rfl, by rw [List.take_left' rfl]⟩

theorem find_log (b : List UInt8) (s : Nat) : [((logK, b, s) : Ent)].find? (isName logK) = some (logK, b, s) := by simp [isName]
theorem any_log (b : List UInt8) (s : Nat) : [((logK, b, s) : Ent)].any (isName logK) = true := by simp [isName]
theorem tot_log (b : List UInt8) (s : Nat) : tot [((logK, b, s) : Ent)] = b.length := by simp [tot]
theorem upd_log (u : Ent → Ent) (b : List UInt8) (s : Nat) : updE logK u [((logK, b, s) : Ent)] = [u (logK, b, s)] := by simp [updE, isName]

theorem append_log (l : List UInt8) (cap : Int) (b : List UInt8) (s : Nat) : opAppend logK l cap [(logK, b, s)] = if cap < (b.length : Int) + l.length then (5, [(logK, b, s)]) else (0, [(logK, b ++ l, s)]) := by
  unfold opAppend
  rw [find_log]
  simp only [tot_log]
  split
  · rfl
  · rw [upd_log]
theorem sync_log (cap : Int) (b : List UInt8) (s : Nat) : opSync logK cap [(logK, b, s)] = (0, [(logK, b, b.length)]) := by
  unfold opSync
  rw [find_log]
  simp only [upd_log]
theorem cut_log (n : Nat) (cap : Int) (b : List UInt8) (s : Nat) (hn : n ≤ b.length) : opCut logK n cap [(logK, b, s)] = (0, [(logK, b.take n, min s n)]) := by
  unfold opCut
  rw [find_log]
  simp only [upd_log]
  rw [if_neg (by omega)]
  rfl
theorem create_log (cap : Int) : opCreate logK cap [] = (0, [(logK, [], 0)]) := by
  unfold opCreate
  rw [if_neg (by simp [logK]), if_neg (by simp)]
  rfl

/-- A call that is carried out. -/
def MD.did (M : MD) (op : Opn) : MD := { M with n := M.n + 1, fs := (op M.cap M.fs).2 }
theorem act_calm {M : MD} (h1 : M.dw = false) (h2 : M.n + 1 ≠ M.cr) (h3 : M.fail.contains (M.n + 1) = false) (op : Opn) : M.act op = ((op M.cap M.fs).1, M.did op) := by
  unfold MD.act
  rw [if_neg (by simp [h1]), if_neg h2, if_neg (by simp only [h3]; simp)]
  rfl

/-- A disk with no crash and no failure ahead, and the log alone. -/
structure Calm (M : MD) (b : List UInt8) (s : Nat) : Prop where
  dw : M.dw = false
  cr : M.cr ≤ M.n
  fail : M.fail = []
  fs : M.fs = [(logK, b, s)]

theorem Calm.act {M : MD} {b : List UInt8} {s : Nat} (h : Calm M b s) (op : Opn) : M.act op = ((op M.cap [(logK, b, s)]).1, { M with n := M.n + 1, fs := (op M.cap [(logK, b, s)]).2 }) := by
  rw [act_calm h.dw (by have := h.cr; omega) (by rw [h.fail]; rfl)]
  unfold MD.did
  rw [h.fs]
theorem Calm.next {M : MD} {b b' : List UInt8} {s s' : Nat} (h : Calm M b s) : Calm { M with n := M.n + 1, fs := [(logK, b', s')] } b' s' := ⟨h.dw, by have := h.cr; show M.cr ≤ M.n + 1; omega, h.fail, rfl⟩
theorem Calm.append {M : MD} {b : List UInt8} {s : Nat} (h : Calm M b s) (l : List UInt8) (hc : ¬ M.cap < (b.length : Int) + l.length) : (M.act (opAppend logK l)).1 = 0 ∧ Calm (M.act (opAppend logK l)).2 (b ++ l) s ∧ (M.act (opAppend logK l)).2.cap = M.cap := by
  rw [h.act, append_log, if_neg hc]
  exact ⟨rfl, h.next, rfl⟩
theorem Calm.full {M : MD} {b : List UInt8} {s : Nat} (h : Calm M b s) (l : List UInt8) (hc : M.cap < (b.length : Int) + l.length) : (M.act (opAppend logK l)).1 = 5 ∧ Calm (M.act (opAppend logK l)).2 b s ∧ (M.act (opAppend logK l)).2.cap = M.cap := by
  rw [h.act, append_log, if_pos hc]
  exact ⟨rfl, h.next, rfl⟩
theorem Calm.sync {M : MD} {b : List UInt8} {s : Nat} (h : Calm M b s) : (M.act (opSync logK)).1 = 0 ∧ Calm (M.act (opSync logK)).2 b b.length ∧ (M.act (opSync logK)).2.cap = M.cap := by
  rw [h.act, sync_log]
  exact ⟨rfl, h.next, rfl⟩
theorem Calm.cut {M : MD} {b : List UInt8} {s : Nat} (h : Calm M b s) (n : Nat) (hn : n ≤ b.length) : (M.act (opCut logK n)).1 = 0 ∧ Calm (M.act (opCut logK n)).2 (b.take n) (min s n) ∧ (M.act (opCut logK n)).2.cap = M.cap := by
  rw [h.act, cut_log n _ _ _ hn]
  exact ⟨rfl, h.next, rfl⟩
theorem Calm.read {M : MD} {b : List UInt8} {s : Nat} (h : Calm M b s) : M.read logK = (b, 0) := by
  unfold MD.read
  rw [if_neg (by simp [h.dw]), h.fs, find_log]

/-- Open on a calm disk. -/
theorem Calm.opens {M : MD} {b : List UInt8} {s : Nat} (h : Calm M b s) (he : endOf b ≤ b.length) : (openP M).e = 0 ∧ (openP M).n = endOf b ∧ (openP M).l = batsOf b ∧ Calm (openP M).M (b.take (endOf b)) (endOf b) ∧ (openP M).M.cap = M.cap := by
  unfold openP
  rw [h.read, if_neg (by show ¬ (0 : Int) = 3; decide), if_pos rfl]
  unfold openQ
  by_cases hlt : endOf b < b.length
  · obtain ⟨c1, c2, c3⟩ := h.cut (endOf b) he
    obtain ⟨d1, d2, d3⟩ := c2.sync
    rw [if_pos hlt, if_pos c1]
    unfold openR
    rw [if_pos d1]
    refine ⟨rfl, rfl, rfl, ?_, d3.trans c3⟩
    have : (b.take (endOf b)).length = endOf b := by rw [List.length_take]; omega
    rw [this] at d2
    exact d2
  · obtain ⟨d1, d2, d3⟩ := h.sync
    have heq : endOf b = b.length := by omega
    rw [if_neg hlt]
    unfold openR
    rw [if_pos d1]
    refine ⟨rfl, rfl, rfl, ?_, d3⟩
    rw [heq, List.take_length]
    exact d2
/-- Open on a disk without files, the first two calls of which are carried out. -/
theorem opens_new {M : MD} (hd : M.dw = false) (hfs : M.fs = []) (h1 : M.n + 1 ≠ M.cr) (h2 : M.fail.contains (M.n + 1) = false) (h3 : M.n + 1 + 1 ≠ M.cr) (h4 : M.fail.contains (M.n + 1 + 1) = false) :
    openP M = ⟨0, { M with n := M.n + 1 + 1, fs := [(logK, [], 0)] }, 0, []⟩ := by
  have e1 : M.act (opCreate logK) = (0, { M with n := M.n + 1, fs := [(logK, [], 0)] }) := by
    rw [act_calm hd h1 h2]
    unfold MD.did
    rw [hfs, create_log]
  have e2 : ({ M with n := M.n + 1, fs := [(logK, [], 0)] } : MD).act (opSync logK) = (0, { M with n := M.n + 1 + 1, fs := [(logK, [], 0)] }) := by
    rw [act_calm (M := { M with n := M.n + 1, fs := [(logK, [], 0)] }) hd h3 h4]
    unfold MD.did
    simp only
    rw [sync_log]
    rfl
  have hr : M.read logK = ([], 3) := by
    unfold MD.read
    rw [if_neg (by simp [hd]), hfs]
    rfl
  unfold openP
  rw [hr, if_pos rfl, e1, if_pos rfl]
  unfold openQ
  rw [endOf_nil, if_neg (by simp)]
  unfold openR
  rw [e2, if_pos rfl, endOf_nil, batsOf_nil]

/-- A commit on a calm disk, where there is room for it. -/
theorem Calm.commits {M : MD} {b : List UInt8} {s : Nat} (h : Calm M b s) {L : List Opm} (hok : okOps L = true) (hc : ¬ M.cap < (b.length : Int) + (frms (recs L)).length) (n : Nat) :
    (commitP M n false L).e = 0 ∧ (commitP M n false L).n = n + (frms (recs L)).length ∧ (commitP M n false L).s = false ∧ Calm (commitP M n false L).M (b ++ frms (recs L)) (b ++ frms (recs L)).length ∧ (commitP M n false L).M.cap = M.cap := by
  obtain ⟨a1, a2, a3⟩ := h.append (frms (recs L)) hc
  obtain ⟨b1, b2, b3⟩ := a2.sync
  unfold commitP
  rw [if_neg (by simp), if_neg (by simp [hok])]
  unfold commitA
  rw [if_pos a1, if_pos b1]
  exact ⟨rfl, rfl, rfl, b2, b3.trans a3⟩
/-- And where there is none. -/
theorem Calm.refuses {M : MD} {b : List UInt8} {s : Nat} (h : Calm M b s) {L : List Opm} (hok : okOps L = true) (hc : M.cap < (b.length : Int) + (frms (recs L)).length) :
    (commitP M b.length false L).e = 5 ∧ (commitP M b.length false L).n = b.length ∧ (commitP M b.length false L).s = false ∧ Calm (commitP M b.length false L).M b (min s b.length) ∧ (commitP M b.length false L).M.cap = M.cap := by
  obtain ⟨a1, a2, a3⟩ := h.full (frms (recs L)) hc
  obtain ⟨b1, b2, b3⟩ := a2.cut b.length (Nat.le_refl _)
  unfold commitP
  rw [if_neg (by simp), if_neg (by simp [hok])]
  unfold commitA
  rw [if_neg (by rw [a1]; decide), a1]
  unfold commitC
  rw [if_neg (by decide), b1]
  refine ⟨rfl, rfl, rfl, ?_, b3.trans a3⟩
  rw [List.take_length] at b2
  exact b2
/-- Reset on a calm disk. -/
theorem Calm.resets {M : MD} {b : List UInt8} {s : Nat} (h : Calm M b s) (n : Nat) : resetP M n false = ⟨0, (M.act (opCut logK 0)).2, 0, false⟩ ∧ Calm (M.act (opCut logK 0)).2 [] 0 ∧ (M.act (opCut logK 0)).2.cap = M.cap := by
  obtain ⟨b1, b2, b3⟩ := h.cut 0 (Nat.zero_le _)
  have b1' : (M.act (opCut logK 0)).1 = 0 := b1
  refine ⟨?_, ?_, b3⟩
  · unfold resetP
    rw [if_neg (by simp), b1', if_pos rfl]
    rfl
  · simpa using b2

theorem pays_size (M : List Opm) : (frms (M.map pay)).length ≤ 20 * M.length + bulkO M := by
  induction M with
  | nil => simp [frms]
  | cons o M ih =>
    have e : frms ((o :: M).map pay) = frm (pay o) ++ frms (M.map pay) := by simp [frms]
    have e2 : bulkO (o :: M) = 1 + o.key.size + o.val.size + bulkO M := by simp [bulkO]
    have := pay_length o
    rw [e, List.length_append, frm_length, e2, List.length_cons]
    omega
theorem recs_size {L : List Opm} (hb : bulkO L ≤ 5000) : (frms (recs L)).length ≤ 20 * L.length + bulkO L + 26 := by
  have hn := bulkO_length L
  have h2 := fin_length (n := L.length) (by omega)
  have := pays_size L
  unfold recs
  rw [frms_append, List.length_append]
  have e3 : (frms [fin L.length]).length = 8 + (fin L.length).length := by simp [frms, frm_length]
  omega
/-- How many bytes a batch is. -/
theorem recs_ok {L : List Opm} (hok : okOps L = true) (hb : bulkO L ≤ 5000) : (frms (recs L)).length ≤ 26000 := by
  have h3 : L.length ≤ 1000 := by
    unfold okOps at hok
    simp only [Bool.and_eq_true, decide_eq_true_eq] at hok
    omega
  have := recs_size hb
  omega

end Go.Proofs.YthacjeeafnblmaaGreatDoor
