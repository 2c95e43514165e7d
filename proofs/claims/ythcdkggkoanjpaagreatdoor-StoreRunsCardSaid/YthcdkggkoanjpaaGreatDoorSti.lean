/- What is asked of the code's store, and sessions with it. Numbers and types by name. -/
import Derived.Test.YthcdkggkoanjpaaGreatDoorSm
import Derived.Test.YthcdkggkoanjpaaGreatDoorCdc
import Derived.Test.YthcdkggkoanjpaaGreatDoorBtc
import Derived.Test.YthcdkggkoanjpaaGreatDoorWtc
namespace Go.Proofs.YthcdkggkoanjpaaGreatDoor
open Go.RowKit Go.Lib
set_option maxRecDepth 100000
def TabAt (base : Nat) (w : World) : Prop := ∃ w0 : World, Tab w0 ∧ w0.heap.size ≤ base ∧ Grow w0 w
theorem TabAt.mk {base : Nat} {w0 w : World} (h : Tab w0) (hg : Grow w0 w) (hb : w0.heap.size ≤ base) : TabAt base w := ⟨w0, h, hb, hg⟩
theorem TabAt.tab {base : Nat} {w : World} (h : TabAt base w) : Tab w := by
  obtain ⟨w0, h1, _, h3⟩ := h
  exact h1.later h3
theorem TabAt.next {base b : Nat} {w w' : World} {M M' : MD} {F : List Nat} (h : TabAt base w) (hc : CD w base b M F) (hn : Next w w' base b M' F) : TabAt base w' := by
  obtain ⟨w0, h1, h2, h3⟩ := h
  obtain ⟨F', _, _, t⟩ := hn
  refine ⟨w0, h1, h2, Below.trans h3 (Stays.below (Stays.of_turn t fun q hq => ⟨Nat.lt_of_lt_of_le hq h3.size, fun hm => ?_⟩))⟩
  have := (hc.lt q hm).1
  have hq' : q < w0.heap.size := hq
  omega
theorem Rws.cap {w : World} {ao : Option Addr} {n c : Nat} {ps : List (List UInt8)} (h : Rws w (.slice ao n c) n ps) : n ≤ c := by
  obtain ⟨h1, h2, vs, ⟨ao', c', e, h0, _⟩, hl, _⟩ := h
  simp only [Value.slice.injEq] at e
  obtain ⟨_, e1, e2⟩ := e
  omega
set_option maxHeartbeats 4000000 in
theorem wal_batches (v : Value) (m : Nat) (b : List UInt8) (w : World) (hr : Reads w v (bv b)) (hm : m = b.length) (hl : m ≤ 7200000) (ht : Tab w) :
    Calls Tryz.prog 66 #[v] w fun e w' => ∃ aj jn cj lo, e = .returned (.tuple #[.slice aj jn cj, .int .i64 ((endOf b : Nat) : Int)]) ∧ Turn [] w w' ∧ w.heap.size ≤ lo ∧ ObsB w' lo w'.heap.size (.slice aj jn cj) jn (batsOf b) := by
  obtain ⟨ao, c, rfl⟩ : ∃ ao c, v = .slice ao m c := by obtain ⟨ao, c, rfl, _⟩ := hr; exact ⟨ao, c, by rw [bv_length, hm]⟩
  have HBL := Lib.hid (And.intro hl hm)
  have HTB := Lib.hid ht
  have HS := scan_any _ m b w hr hm (Lib.hid (by omega))
  clear hr hm hl ht
  go_enter Tryz.func66, Tryz.ntmps66
  go_wp2_with fail
  refine HS.mono ?_
  rintro e w3 ⟨hb3, l, n3, al, cl, hsc, hn3, rfl, hown⟩
  have hl8 := bulk_scans' hsc
  have hsz := scans_size hsc
  have HS : Hid (scn b = l ∧ (frms l).length ≤ 7200000 ∧ l.length ≤ 900000) := Lib.hid ⟨scn_of hsc, by have := HBL.out.1; have := HBL.out.2; omega, by have := HBL.out.1; have := HBL.out.2; omega⟩
  have HG3 : Hid (Turn [] w w3 ∧ Ows w3 w.heap.size (.slice al l.length cl) l.length l ∧ Grow w w3) := Lib.hid ⟨turn_below hb3, hown, hb3⟩
  obtain ⟨ll, hll⟩ : ∃ ll, ll = l.length := ⟨_, rfl⟩
  rw [← hll] at HG3 HS ⊢
  have HLL := Lib.hid hll
  have HC : Hid (ll ≤ cl) := Lib.hid (Rws.cap (HG3.out.2.1.rows (by have := HS.out.2.2; unfold maxLen; omega)))
  clear hb3 hsc hn3 hown hl8 hsz hll
  go_wp2_with fail
  refine (replay_from _ ll l w3 (HG3.out.2.1.rows (by have := HS.out.2.2; unfold maxLen; omega)) (HTB.out.later HG3.out.2.2) HS.out.2.2).mono ?_
  rintro e w4 ⟨hb4, LL, u, aj, jn, cj, hplay, hu, hLL, rfl, hobs⟩
  have HP : Hid (batsOf b = LL ∧ endOf b = (frms (l.take u)).length ∧ u ≤ ll) := Lib.hid ⟨by unfold batsOf; rw [HS.out.1, hplay], by unfold endOf usedOf; rw [HS.out.1, hplay], by rw [HLL.out]; exact hu⟩
  have HG4 : Hid (Turn [] w3 w4 ∧ ObsB w4 w3.heap.size w4.heap.size (.slice aj jn cj) jn LL) := Lib.hid ⟨turn_below hb4, hobs.between⟩
  have HRW : Hid (Rws w4 (.slice al ll cl) ll l) := Lib.hid ((HG3.out.2.1.rows (by have := HS.out.2.2; unfold maxLen; omega)).later hb4)
  clear hb4 hplay hu hLL hobs
  have x1 : u ≤ ll := HP.out.2.2
  have x2 : ll ≤ cl := HC.out
  have x3 : u ≤ cl := Nat.le_trans x1 x2
  have x4 : ll ≤ 900000 := HS.out.2.2
  go_wp2_with fail
  go_loopw [3, 8, 23] (fun nv pv iv wr => ∃ i : Nat, i ≤ u ∧ iv = .int .i64 i ∧ nv = .int .i64 (((frms (l.take i)).length : Nat) : Int) ∧ wr = w4) (fun _ _ iv _ => u - (RowKit.intOf iv).toNat)
  case atStart => exact ⟨0, Nat.zero_le _, rfl, rfl, rfl⟩
  case round =>
    obtain ⟨i, hi, rfl, rfl, rfl⟩ := hrel
    by_cases h1 : i < u
    · have h3 : (i : Int) < (u : Int) := by omega
      have hi9 : i < 900000 := by omega
      have e3 : wrap64 ((i : Int) + 1) = ((i + 1 : Nat) : Int) := by rw [wrap64_id _ (by omega)]; omega
      clear hi9
      obtain ⟨a, p, ap, cp, rfl, hp, hcell, _, _⟩ := HRW.out.at (k := i) (by omega)
      have hnx := frms_next hp
      have htk := frms_take l (i + 1)
      have htot := HS.out.2.1
      obtain ⟨q, hq⟩ : ∃ q, q = (frms (l.take i)).length := ⟨_, rfl⟩
      obtain ⟨pl, hpl⟩ : ∃ pl, pl = p.length := ⟨_, rfl⟩
      rw [← hq, ← hpl] at hnx
      rw [← hpl] at hcell
      rw [← hq]
      have hq9 : q + 8 + pl ≤ 7200000 := by omega
      have HNX := Lib.hid hnx
      clear hp htk htot hpl hq hnx
      have e1 : wrap64 (8 + (pl : Int)) = ((8 + pl : Nat) : Int) := by rw [wrap64_id _ (by omega)]; omega
      have e2 : wrap64 ((q : Int) + ((8 + pl : Nat) : Int)) = ((q + 8 + pl : Nat) : Int) := by rw [wrap64_id _ (by omega)]; omega
      have HEE := Lib.hid (And.intro e1 (And.intro e2 (And.intro e3 hq9)))
      clear e1 e2 e3 hq9
      go_wp2_with fail
      refine ⟨⟨i + 1, by omega, ?_, ?_⟩, ?_⟩
      · rw [Int.natCast_succ]
      · refine ⟨?_, trivial⟩
        rw [HEE.out.1, HEE.out.2.1, HNX.out]
      · simp [RowKit.intOf]
        omega
    · obtain rfl : i = u := by omega
      have h3 : ¬ (i : Int) < (i : Int) := by omega
      go_wp2_with fail
      go_ret2
      refine ⟨aj, jn, cj, ?_, HG3.out.1.trans HG4.out.1, w3.heap.size, HG3.out.1.size, ?_⟩
      · rw [HP.out.2.1]; rfl
      · rw [HP.out.1]; exact HG4.out.2
def MidC (w w5 : World) (base b : Nat) (M5 : MD) (F : List Nat) (v : Value) (jn : Nat) (LL : List (List Opm)) : Prop :=
  ∃ F1, CD w5 base b M5 F1 ∧ (∀ k ∈ F1, k ∈ F ∨ w.heap.size ≤ k) ∧ Turn F w w5 ∧ ∃ lo hi, w.heap.size ≤ lo ∧ hi ≤ w5.heap.size ∧ ObsB w5 lo hi v jn LL ∧ ∀ k ∈ F1, k < lo ∨ hi ≤ k
theorem MidC.next {w w5 : World} {base b : Nat} {M5 : MD} {F : List Nat} {v : Value} {jn : Nat} {LL : List (List Opm)} (h : MidC w w5 base b M5 F v jn LL) : Next w w5 base b M5 F := by
  obtain ⟨F1, h1, h2, h3, _⟩ := h
  exact ⟨F1, h1, h2, h3⟩
theorem MidC.step {w w5 w6 : World} {base b : Nat} {M5 M6 : MD} {F : List Nat} {v : Value} {jn : Nat} {LL : List (List Opm)} {F1 : List Nat} (h1 : CD w5 base b M5 F1 ∧ (∀ k ∈ F1, k ∈ F ∨ w.heap.size ≤ k) ∧ Turn F w w5 ∧ ∃ lo hi, w.heap.size ≤ lo ∧ hi ≤ w5.heap.size ∧ ObsB w5 lo hi v jn LL ∧ ∀ k ∈ F1, k < lo ∨ hi ≤ k)
    (hn : Next w5 w6 base b M6 F1) : MidC w w6 base b M6 F v jn LL := by
  obtain ⟨h1, h2, h4, lo, hi, h5, h6, h7, h8⟩ := h1
  obtain ⟨F2, k1, k2, k4⟩ := hn
  have hs := h4.size
  refine ⟨F2, k1, fun k hk => ?_, h4.trans' k4 h2, lo, hi, h5, Nat.le_trans h6 k4.size, h7.turn k4 h8, fun k hk => ?_⟩
  · rcases k2 k hk with h | h
    · exact h2 k h
    · exact .inr (by omega)
  · rcases k2 k hk with h | h
    · exact h8 k h
    · exact .inr (by omega)
set_option maxHeartbeats 4000000 in
theorem wal_openW (base b : Nat) (M : MD) (F : List Nat) (w : World) (h : CD w base b M F) (ht : TabAt base w) {K J j : Nat} (hw : Well K M j) (hj : j + 3 ≤ J) (hR : RoomW K J) (hlg : (M.read logK).1.length ≤ 7200000) :
    Calls Tryz.prog 36 #[theDisk b] w (COpened w base b F (openP M)) := by
  have HFT : Hid (∀ q F' w', CV w' base b q (openP M).M (openP M).n false F' → (openP M).e = 0 → CW w' base b q (openP M).M (openP M).n false F') := Lib.hid fun q F' w' hv h0 => hv.w (fits_open hw.up h0)
  have HRD := read_cd base b M F logS w h (well_limW hR hw (by omega)).fs (by decide)
  have HCR := fun w' (t : Turn [] w w') => create_cd base b M F logS w' (h.new t) (well_limW hR hw (by omega)) (by decide)
  rw [logS_list] at HRD HCR
  unfold theDisk logS at HRD HCR
  have hbl := hlg
  have hbn := mread_none (M := M) (k := logK)
  have HW := Lib.hid (And.intro hw (And.intro hj hR))
  have HWC := Lib.hid (well_create hw logK)
  have HTB := Lib.hid ht
  obtain ⟨B, hb⟩ : ∃ B, B = (M.read logK).1 := ⟨_, rfl⟩
  obtain ⟨e0, he0⟩ : ∃ e, e = (M.read logK).2 := ⟨_, rfl⟩
  obtain ⟨k1, hk1⟩ : ∃ k, k = (M.act (opCreate logK)).1 := ⟨_, rfl⟩
  obtain ⟨M1, hM1⟩ : ∃ M', M' = (M.act (opCreate logK)).2 := ⟨_, rfl⟩
  unfold Acted at HCR
  rw [← hb] at hbl hbn
  rw [← he0] at hbn
  rw [← hM1] at HWC
  rw [← hb, ← he0] at HRD
  rw [← hk1, ← hM1] at HCR
  obtain ⟨O, hO⟩ : ∃ O : Opened, O = openP M := ⟨_, rfl⟩
  rw [← hO] at HFT ⊢
  unfold openP at hO
  rw [← hb, ← he0, ← hk1, ← hM1] at hO
  have HO := Lib.hid hO
  clear hO
  obtain ⟨m, hm⟩ : ∃ m, m = B.length := ⟨_, rfl⟩
  rw [← hm] at HRD
  have HBL := Lib.hid (And.intro hbl (And.intro hbn hm))
  have HCR' := Lib.hid HCR
  have H0 := Lib.hid h
  clear hb he0 hk1 hM1 hbl hlg hbn hm h hw hj hR HCR ht
  unfold theDisk
  go_enter Tryz.func36, Tryz.ntmps36
  go_wp2_with fail
  go_step3
  go_wp2_with fail
  refine HRD.mono ?_
  rintro e w1 ⟨ao, c, rfl, hB, t⟩
  have HB1 := Lib.hid (And.intro hB t)
  clear hB t HRD
  by_cases h3 : e0 = 3
  case' pos =>
    have HO1 : Hid (O = if k1 = 0 then openQ M1 B else ⟨k1, M1, 0, []⟩) := Lib.hid (by rw [HO.out, if_pos h3, HBL.out.2.1 h3])
    subst h3
    clear HO
    have HC := HCR'.out w1 HB1.out.2
    go_wp2_with fail
    refine HC.mono ?_
    rintro e w2 ⟨k', rfl, rfl, hn⟩
    have H2 : Hid (Next w w2 base b M1 F) := Lib.hid (Next.after HB1.out.2.nil_any hn)
    have HRB : Hid (Reads w2 (.slice ao m c) (bv B)) := Lib.hid (HB1.out.1.turn hn.choose_spec.2.2 fun k hk => (H0.out.lt k hk).2)
    clear hn HC HCR'
    by_cases h4 : k' = 0
    case' neg =>
      have HQ : Hid (O = ⟨k', M1, 0, []⟩) := Lib.hid (by rw [HO1.out, if_neg h4])
      clear HO1
      go_wp2_with fail
      go_step3
      go_wp2_with fail
      rw [Exit.noGoto_ret]
      go_ret3
      rw [HQ.out]
      exact .inl ⟨h4, rfl, H2.out⟩
    have HQ : Hid (O = openQ M1 B) := Lib.hid (by rw [HO1.out, if_pos h4])
    have HE : Hid (Next w w2 base b M1 F) := H2
    have HWE : Hid (Well K M1 (j + 1)) := HWC
    subst h4
    clear H2 HO1
    obtain ⟨we, rfl⟩ : ∃ we, we = w2 := ⟨_, rfl⟩
    obtain ⟨ME, rfl⟩ : ∃ ME, ME = M1 := ⟨_, rfl⟩
  case' neg =>
    by_cases h4 : e0 = 0
    case' neg =>
      have HQ : Hid (O = ⟨e0, M, 0, []⟩) := Lib.hid (by rw [HO.out, if_neg h3, if_neg h4])
      clear HO
      go_wp2_with fail
      go_step3
      go_wp2_with fail
      rw [Exit.noGoto_ret]
      go_ret3
      rw [HQ.out]
      exact .inl ⟨h4, rfl, H0.out.next_new HB1.out.2⟩
    have HQ : Hid (O = openQ M B) := Lib.hid (by rw [HO.out, if_neg h3, if_pos h4])
    have HE : Hid (Next w w1 base b M F) := Lib.hid (H0.out.next_new HB1.out.2)
    have HRB : Hid (Reads w1 (.slice ao m c) (bv B)) := Lib.hid HB1.out.1.reads
    have HWE : Hid (Well K M (j + 1)) := Lib.hid (well_more HW.out.1 (by omega))
    subst h4
    clear HO HCR' HWC
    obtain ⟨we, rfl⟩ : ∃ we, we = w1 := ⟨_, rfl⟩
    obtain ⟨ME, rfl⟩ : ∃ ME, ME = M := ⟨_, rfl⟩
  all_goals
    clear HB1
    go_wp2_with fail
    go_step3
    go_wp2_with fail
    refine (wal_batches _ m B we HRB.out HBL.out.2.2 (by have := HBL.out.1; have := HBL.out.2.2; omega) (HTB.out.next H0.out HE.out).tab).mono ?_
    rintro e w4 ⟨aj, jn, cj, lo, rfl, t4, hlo, hobs⟩
    obtain ⟨q, hq⟩ : ∃ q, q = endOf B := ⟨_, rfl⟩
    obtain ⟨LL, hLL⟩ : ∃ LL, LL = batsOf B := ⟨_, rfl⟩
    have HEND : Hid (endOf B = q ∧ batsOf B = LL) := Lib.hid ⟨hq.symm, hLL.symm⟩
    rw [← hq]
    rw [← hLL] at hobs
    have HOB : Hid (MidC w w4 base b ME F (.slice aj jn cj) jn LL) := Lib.hid (by
      obtain ⟨F1, hCD, hf, ht⟩ := HE.out
      exact ⟨F1, hCD.new t4, hf, ht.trans t4.nil_any, lo, w4.heap.size, Nat.le_trans ht.size hlo, Nat.le_refl _, hobs, fun k hk => .inl (Nat.lt_of_lt_of_le (hCD.lt k hk).2 hlo)⟩)
    clear hq hLL t4 hlo hobs HE HRB
    by_cases hqm : q < m
    case' pos =>
      have h5 : (q : Int) < (m : Int) := by omega
      obtain ⟨F1, hmid⟩ := HOB.out
      have HC := cut_cd base b ME F1 logS q w4 hmid.1 (well_limW HW.out.2.2 HWE.out (by have := HW.out.2.1; omega)) (by decide)
      rw [logS_list] at HC
      unfold theDisk logS Acted at HC
      have HQ1 : Hid (O = if (ME.act (opCut logK q)).1 = 0 then openR (ME.act (opCut logK q)).2 B else ⟨(ME.act (opCut logK q)).1, (ME.act (opCut logK q)).2, 0, []⟩) := Lib.hid (by rw [HQ.out]; unfold openQ; rw [HEND.out.1, if_pos (by rw [← HBL.out.2.2]; exact hqm)])
      have HW2 := Lib.hid (well_cut HWE.out logK q)
      obtain ⟨k2, hk2⟩ : ∃ k, k = (ME.act (opCut logK q)).1 := ⟨_, rfl⟩
      obtain ⟨M2, hM2⟩ : ∃ M', M' = (ME.act (opCut logK q)).2 := ⟨_, rfl⟩
      rw [← hk2, ← hM2] at HC HQ1
      rw [← hM2] at HW2
      have HOB1 := Lib.hid hmid
      clear hmid hk2 hM2 HOB HQ
      go_wp2_with fail
      refine HC.mono ?_
      rintro e w5 ⟨k', rfl, rfl, hn⟩
      have HOB := Lib.hid (MidC.step HOB1.out hn)
      clear HOB1 hn HC
      by_cases h4 : k' = 0
      case' neg =>
        have HQ : Hid (O = ⟨k', M2, 0, []⟩) := Lib.hid (by rw [HQ1.out, if_neg h4])
        clear HQ1
        go_wp2_with fail
        rw [Exit.noGoto_ret]
        go_ret3
        rw [HQ.out]
        exact .inl ⟨h4, rfl, HOB.out.next⟩
      have HQ : Hid (O = openR M2 B) := Lib.hid (by rw [HQ1.out, if_pos h4])
      subst h4
      clear HWE HQ1
      have HWE : Hid (Well K M2 (j + 2)) := HW2
      obtain ⟨wf, rfl⟩ : ∃ wf, wf = w5 := ⟨_, rfl⟩
      obtain ⟨MF, rfl⟩ : ∃ MF, MF = M2 := ⟨_, rfl⟩
    case' neg =>
      have h5 : ¬ (q : Int) < (m : Int) := by omega
      have HQ' : Hid (O = openR ME B) := Lib.hid (by rw [HQ.out]; unfold openQ; rw [HEND.out.1, if_neg (by rw [← HBL.out.2.2]; exact hqm)])
      clear HQ
      have HQ := HQ'
      have HWE' : Hid (Well K ME (j + 2)) := Lib.hid (well_more HWE.out (by omega))
      clear HWE HQ'
      have HWE := HWE'
      obtain ⟨wf, rfl⟩ : ∃ wf, wf = w4 := ⟨_, rfl⟩
      obtain ⟨MF, rfl⟩ : ∃ MF, MF = ME := ⟨_, rfl⟩
    all_goals
      have HL := well_limW HW.out.2.2 HWE.out (by have := HW.out.2.1; omega)
      obtain ⟨F1, hmid⟩ := HOB.out
      have HC := sync_cd base b MF F1 logS wf hmid.1 HL (by decide)
      rw [logS_list] at HC
      unfold theDisk logS Acted at HC
      have HQ1 : Hid (O = if (MF.act (opSync logK)).1 = 0 then ⟨0, (MF.act (opSync logK)).2, q, LL⟩ else ⟨(MF.act (opSync logK)).1, (MF.act (opSync logK)).2, 0, []⟩) := Lib.hid (by rw [HQ.out]; unfold openR; rw [HEND.out.1, HEND.out.2])
      obtain ⟨k2, hk2⟩ : ∃ k, k = (MF.act (opSync logK)).1 := ⟨_, rfl⟩
      obtain ⟨M2, hM2⟩ : ∃ M', M' = (MF.act (opSync logK)).2 := ⟨_, rfl⟩
      rw [← hk2, ← hM2] at HC HQ1
      have HOB1 := Lib.hid hmid
      clear hmid hk2 hM2 HOB HQ HL HWE HW HBL
      go_wp2_with fail
      refine HC.mono ?_
      rintro e w5 ⟨k', rfl, rfl, hn⟩
      have HOB := Lib.hid (MidC.step HOB1.out hn)
      clear HOB1 hn HC
      by_cases h4 : k' = 0
      case' neg =>
        have HQ : Hid (O = ⟨k', M2, 0, []⟩) := Lib.hid (by rw [HQ1.out, if_neg h4])
        clear HQ1
        go_wp2_with fail
        rw [Exit.noGoto_ret]
        go_ret3
        rw [HQ.out]
        exact .inl ⟨h4, rfl, HOB.out.next⟩
      have HQ : Hid (O = ⟨0, M2, q, LL⟩) := Lib.hid (by rw [HQ1.out, if_pos h4])
      subst h4
      clear HQ1
      go_wp2_with fail
      rw [Exit.noGoto_ret]
      go_ret3
      have HF := HFT.out
      rw [HQ.out] at HF ⊢
      refine .inr ⟨rfl, ?_⟩
      obtain ⟨F2, k1, k2, k4, lo, hi, l1, l2, l3, l4⟩ := HOB.out
      have ta : Turn [] w5 (w5.alloc (wob 120 (theDisk b) q false)) := (Turn.refl [] w5).alloc _
      have hq5 : w5.heap.size ∉ F2 := fun hm => by have := (k1.lt _ hm).2; omega
      exact ⟨w5.heap.size, aj, jn, cj, lo, hi, F2, rfl, HF _ _ _ ⟨k1.new ta, hq5, heap_alloc_new w5 _⟩ rfl, k2, k4.trans ta.nil_any, l1, Nat.le_trans l2 ta.size, k4.size, .inr l2, l3.turn ta (by simp), l4⟩
end Go.Proofs.YthcdkggkoanjpaaGreatDoor
namespace Go.Proofs.YthcdkggkoanjpaaGreatDoor
open Go.RowKit Go.Lib
set_option maxRecDepth 100000
abbrev SI := World → Nat → List Prm → List Nat → Prop
abbrev SP := World → Nat → Nat → Nat → MD → Nat → Bool → List Prm → Int → List Nat → Prop
def SNext (C : SP) (w w' : World) (base b x : Nat) (M' : MD) (n' : Nat) (s' : Bool) (L' : List Prm) (most : Int) (F : List Nat) : Prop :=
  ∃ F', C w' base b x M' n' s' L' most F' ∧ (∀ k ∈ F', k ∈ F ∨ w.heap.size ≤ k) ∧ Turn F w w'
def theSt (x : Nat) : Value := .pointer (some ⟨x, 0, none⟩)
def COpenS (C : SP) (w : World) (base b : Nat) (F : List Nat) (most : Int) (R : SOpen) (e : Ending) (w' : World) : Prop :=
  (R.e ≠ 0 ∧ e = .returned (.tuple #[.pointer none, .int .i64 R.e]) ∧ Next w w' base b R.M F) ∨
  (R.e = 0 ∧ ∃ x F', e = .returned (.tuple #[theSt x, .int .i64 0]) ∧ C w' base b x R.M R.n false R.L (max most 0) F' ∧ (∀ k ∈ F', k ∈ F ∨ w.heap.size ≤ k) ∧ Turn F w w')
structure StK (C : SP) (I : SI) : Prop where
  lt : ∀ {w base b x M n s L most F}, C w base b x M n s L most F → ∀ k ∈ F, base ≤ k ∧ k < w.heap.size
  keep : ∀ {w w' base b x M n s L most F G}, C w base b x M n s L most F → Turn G w w' → (∀ k ∈ F, k ∉ G) → C w' base b x M n s L most F
  parts : ∀ {w base b x M n s L most F}, C w base b x M n s L most F → ∃ Fd Fi, CD w base b M Fd ∧ I w x L Fi ∧ (∀ k ∈ Fd, k ∈ F ∧ k ∉ Fi) ∧ ∀ k ∈ Fi, k ∈ F
  ilt : ∀ {w x L F}, I w x L F → ∀ k ∈ F, k < w.heap.size
  ikeep : ∀ {w w' x L F G}, I w x L F → Turn G w w' → (∀ k ∈ F, k ∉ G) → I w' x L F
  iall : ∀ {w x L F}, I w x L F → Slim L → Calls Tryz.prog 26 #[theSt x] w fun e w' => ∃ ao q c, e = .returned (.slice ao q c) ∧ Prr w' (.slice ao q c) q L ∧ Turn [] w w'
  iall2 : ∀ {w x L F}, I w x L F → Slim L → Calls Tryz.prog 26 #[theSt x] w fun e w' => ∃ ao q c, e = .returned (.slice ao q c) ∧ Prr w' (.slice ao q c) q L ∧ (∀ a, (Value.slice ao q c).ownBlock = some a → w.heap.size ≤ a) ∧ Turn [] w w'
  opens : ∀ {w base b M F} (most : Int), CD w base b M F → TabAt base w → ∀ {K J j}, OFit K J j M → Calls Tryz.prog 15 #[theDisk b, .int .i64 most] w (COpenS C w base b F most (openS M))
  commit : ∀ {w base b x M n s L most F}, C w base b x M n s L most F → Tab w → ∀ {K J j X}, SFit K J j M n L X → ∀ (vo : Value) (m : Nat), (∀ w', Turn F w w' → Opr w' vo m X) → m ≤ 5000 →
    Calls Tryz.prog 23 #[theSt x, vo] w (Left fun k w' => k = (commitS most M n s L X).e ∧ SNext C w w' base b x (commitS most M n s L X).M (commitS most M n s L X).n (commitS most M n s L X).s (commitS most M n s L X).L most F)
  check : ∀ {w base b x M n s L most F}, C w base b x M n s L most F → Slim L → ∀ {K J j}, Well K M j → j + 5 ≤ J → RoomW K J → (bytesT L).length ≤ K →
    Calls Tryz.prog 20 #[theSt x] w (Left fun k w' => k = (checkS M n s L).e ∧ SNext C w w' base b x (checkS M n s L).M (checkS M n s L).n (checkS M n s L).s L most F)
  sick : ∀ {w base b x M n s L most F}, C w base b x M n s L most F → Calls Tryz.prog 22 #[theSt x] w fun e w' => e = .returned (.bool s) ∧ Turn [] w w'
  get : ∀ {w base b x M n s L most F}, C w base b x M n s L most F → Slim L → ∀ (k : ByteArray), k.size ≤ 1000000 → Calls Tryz.prog 31 #[theSt x, .string k] w fun e w' => e = .returned (.tuple #[.string (findP L k).1, .bool (findP L k).2]) ∧ Turn [] w w'
def Sess (C : SP) (w0 w : World) (base b x : Nat) (M : MD) (n : Nat) (s : Bool) (L : List Prm) (most : Int) (F : List Nat) : Prop := C w base b x M n s L most F ∧ Grow w0 w ∧ w0.heap.size ≤ base
def SesD (w0 w : World) (base b : Nat) (M : MD) (F : List Nat) : Prop := CD w base b M F ∧ Grow w0 w ∧ w0.heap.size ≤ base
def SStep (C : SP) (w0 w w' : World) (base b x : Nat) (M' : MD) (n' : Nat) (s' : Bool) (L' : List Prm) (most : Int) (F : List Nat) : Prop :=
  ∃ F', Sess C w0 w' base b x M' n' s' L' most F' ∧ (∀ k ∈ F', k ∈ F ∨ w.heap.size ≤ k) ∧ Turn F w w'
def DStep (w0 w w' : World) (base b : Nat) (M' : MD) (F : List Nat) : Prop := ∃ F', SesD w0 w' base b M' F' ∧ (∀ k ∈ F', k ∈ F ∨ w.heap.size ≤ k) ∧ Turn F w w'
theorem prr_lt {w : World} {v : Value} {q : Nat} {L : List Prm} (h : Prr w v q L) (hne : L ≠ []) : ∀ a, v.ownBlock = some a → a < w.heap.size := by
  intro a ha
  obtain ⟨hq, _, ⟨ao', c', rfl, g0, g1, g2, g3⟩, _⟩ := h
  obtain ⟨o, l, hol⟩ : ∃ o l, L = o :: l := by
    cases L with
    | nil => exact absurd rfl hne
    | cons o l => exact ⟨o, l, rfl⟩
  cases ao' with
  | none => cases ha
  | some a' =>
    have hc := g3 a' rfl 0 (.string o.key) (by rw [hol]; rfl)
    have hlt := World.block_lt_of_cell? w _ hc
    rw [add_block] at hlt
    have : a'.block = a := by simpa [Value.ownBlock] using ha
    omega
theorem turn_base {w0 w w' : World} {base : Nat} {F : List Nat} (hg : Grow w0 w) (hb : w0.heap.size ≤ base) (hF : ∀ k ∈ F, base ≤ k) (t : Turn F w w') : Grow w0 w' :=
  tg9 ((tb9 hg).trans' t fun k hk => .inr (Nat.le_trans hb (hF k hk)))
theorem Sess.next {C : SP} {I : SI} (K : StK C I) {w0 w w' : World} {base b x : Nat} {M M' : MD} {n n' : Nat} {s s' : Bool} {L L' : List Prm} {most : Int} {F : List Nat} (h : Sess C w0 w base b x M n s L most F) (hn : SNext C w w' base b x M' n' s' L' most F) : SStep C w0 w w' base b x M' n' s' L' most F := by
  obtain ⟨F', h1, h2, h3⟩ := hn
  exact ⟨F', ⟨h1, turn_base h.2.1 h.2.2 (fun k hk => (K.lt h.1 k hk).1) h3, h.2.2⟩, h2, h3⟩
theorem Sess.new {C : SP} {I : SI} (K : StK C I) {w0 w w' : World} {base b x : Nat} {M : MD} {n : Nat} {s : Bool} {L : List Prm} {most : Int} {F : List Nat} (h : Sess C w0 w base b x M n s L most F) (t : Turn [] w w') : Sess C w0 w' base b x M n s L most F :=
  ⟨K.keep h.1 t (by simp), h.2.1.trans (tg9 t), h.2.2⟩
theorem Sess.parts {C : SP} {I : SI} (K : StK C I) {w0 w : World} {base b x : Nat} {M : MD} {n : Nat} {s : Bool} {L : List Prm} {most : Int} {F : List Nat} (h : Sess C w0 w base b x M n s L most F) : ∃ Fd Fi, SesD w0 w base b M Fd ∧ I w x L Fi ∧ (∀ k ∈ Fd, k ∈ F ∧ k ∉ Fi) ∧ ∀ k ∈ Fi, k ∈ F := by
  obtain ⟨Fd, Fi, h1, h2, h3, h4⟩ := K.parts h.1
  exact ⟨Fd, Fi, ⟨h1, h.2.1, h.2.2⟩, h2, h3, h4⟩
theorem SesD.next {w0 w w' : World} {base b : Nat} {M M' : MD} {F : List Nat} (h : SesD w0 w base b M F) (hn : Next w w' base b M' F) : DStep w0 w w' base b M' F := by
  obtain ⟨F', h1, h2, h3⟩ := hn
  exact ⟨F', ⟨h1, turn_base h.2.1 h.2.2 (fun k hk => (h.1.lt k hk).1) h3, h.2.2⟩, h2, h3⟩
theorem SesD.tab {w0 w : World} {base b : Nat} {M : MD} {F : List Nat} (h : SesD w0 w base b M F) (ht : Tab w0) : TabAt base w := TabAt.mk ht h.2.1 h.2.2
theorem sess_commit {C : SP} {I : SI} (K : StK C I) {w0 w : World} {base b x : Nat} {M : MD} {n : Nat} {s : Bool} {L : List Prm} {most : Int} {F : List Nat} (h : Sess C w0 w base b x M n s L most F) (ht : Tab w0) {K1 J j : Nat} {X : List Opm} (hf : SFit K1 J j M n L X) {vo : Value} {m : Nat} (ho : Opr w0 vo m X) (hm : m ≤ 5000) :
    Calls Tryz.prog 23 #[theSt x, vo] w (Left fun k w' => k = (commitS most M n s L X).e ∧ SStep C w0 w w' base b x (commitS most M n s L X).M (commitS most M n s L X).n (commitS most M n s L X).s (commitS most M n s L X).L most F) := by
  refine (K.commit h.1 (ht.later h.2.1) hf vo m (fun w' t => ho.later (turn_base h.2.1 h.2.2 (fun k hk => (K.lt h.1 k hk).1) t)) hm).mono ?_
  rintro e w' ⟨k, rfl, hk, hn⟩
  exact ⟨k, rfl, hk, h.next K hn⟩
theorem sess_check {C : SP} {I : SI} (K : StK C I) {w0 w : World} {base b x : Nat} {M : MD} {n : Nat} {s : Bool} {L : List Prm} {most : Int} {F : List Nat} (h : Sess C w0 w base b x M n s L most F) (hs : Slim L) {K1 J j : Nat} (hw : Well K1 M j) (hj : j + 5 ≤ J) (hR : RoomW K1 J) (hK : (bytesT L).length ≤ K1) :
    Calls Tryz.prog 20 #[theSt x] w (Left fun k w' => k = (checkS M n s L).e ∧ SStep C w0 w w' base b x (checkS M n s L).M (checkS M n s L).n (checkS M n s L).s L most F) := by
  refine (K.check h.1 hs hw hj hR hK).mono ?_
  rintro e w' ⟨k, rfl, hk, hn⟩
  exact ⟨k, rfl, hk, h.next K hn⟩
theorem sess_open {C : SP} {I : SI} (K : StK C I) {w0 w : World} {base b : Nat} {M : MD} {F : List Nat} (most : Int) (h : SesD w0 w base b M F) (ht : Tab w0) {K1 J j : Nat} (hf : OFit K1 J j M) (h0 : (openS M).e = 0) :
    Calls Tryz.prog 15 #[theDisk b, .int .i64 most] w fun e w' => ∃ x, e = .returned (.tuple #[theSt x, .int .i64 0]) ∧ SStep C w0 w w' base b x (openS M).M (openS M).n false (openS M).L (max most 0) F := by
  refine (K.opens most h.1 (h.tab ht) hf).mono ?_
  rintro e w' (⟨h1, _⟩ | ⟨_, x, F', rfl, h2, h3, h4⟩)
  · exact absurd h0 h1
  · exact ⟨x, rfl, F', ⟨h2, turn_base h.2.1 h.2.2 (fun k hk => (h.1.lt k hk).1) h4, h.2.2⟩, h3, h4⟩
theorem sess_all {C : SP} {I : SI} (K : StK C I) {w0 w : World} {base b x : Nat} {M : MD} {n : Nat} {s : Bool} {L : List Prm} {most : Int} {F : List Nat} (h : Sess C w0 w base b x M n s L most F) (hs : Slim L) :
    Calls Tryz.prog 26 #[theSt x] w fun e w' => ∃ ao q c, e = .returned (.slice ao q c) ∧ Prr w' (.slice ao q c) q L ∧ Turn [] w w' := by
  obtain ⟨_, Fi, _, h2, _⟩ := K.parts h.1
  exact K.iall h2 hs
theorem pairs_at {v1 v2 : Value} {n m : Nat} {ps qs : List Prm} {w : World} (h1 : Prr w v1 n ps) (h2 : Prr w v2 m qs) (b : Bool) (hb : b = decide (ps = qs)) : Calls Tryz.prog 25 #[v1, v2] w fun e w' => e = .returned (.bool b) ∧ Turn [] w w' := by
  refine (same_pairs v1 v2 n m ps qs w h1 h2).mono ?_
  rintro e w' ⟨k, rfl, rfl⟩
  exact ⟨by rw [hb], (Turn.refl [] w).drewN k⟩
theorem opr_turnO {w w' : World} {v : Value} {n : Nat} {L : List Opm} {F : List Nat} (h : Opr w v n L) (t : Turn F w w') (hF : ∀ a, v.ownBlock = some a → a ∉ F) : Opr w' v n L := by
  obtain ⟨h1, h2, ⟨ao, c, e, g0, g1, g2, g3⟩, h4⟩ := h
  refine ⟨h1, h2, ⟨ao, c, e, g0, g1, g2, fun a ha j u hj => ?_⟩, h4⟩
  have hc := g3 a ha j u hj
  have hlt := World.block_lt_of_cell? w _ hc
  rw [add_block] at hlt
  rw [World.cell?_of_block (w := w) (w' := w') (by rw [add_block]; exact t.block _ hlt (hF _ (by rw [e, ha]; rfl)))]
  exact hc
theorem opr_lit (w : World) (o : Opm) (h : o.key.size ≤ 1000000 ∧ o.val.size ≤ 1000000) : Opr (w.alloc (.cells (ov o).toArray 65)) (.slice (some ⟨w.heap.size, 0, none⟩) 1 1) 1 [o] :=
  ⟨rfl, by unfold maxLen; omega, by
    have := Cells.lit w (ov o) 65 (0, 0) 3 1 rfl
    simpa [ovs] using this, fun p hp => by
    rw [List.mem_singleton.1 hp]
    unfold maxLen
    omega⟩
theorem sess_commit_one {C : SP} {I : SI} (K : StK C I) {w0 w : World} {base b x : Nat} {M : MD} {n : Nat} {s : Bool} {L : List Prm} {most : Int} {F : List Nat} (h : Sess C w0 w base b x M n s L most F) (ht : Tab w0) {K1 J j : Nat} {o : Opm} (hf : SFit K1 J j M n L [o]) (ho : o.key.size ≤ 1000000 ∧ o.val.size ≤ 1000000) :
    Calls Tryz.prog 23 #[theSt x, .slice (some ⟨w.heap.size, 0, none⟩) 1 1] (w.alloc (.cells (ov o).toArray 65)) (Left fun k w' => k = (commitS most M n s L [o]).e ∧ SStep C w0 w w' base b x (commitS most M n s L [o]).M (commitS most M n s L [o]).n (commitS most M n s L [o]).s (commitS most M n s L [o]).L most F) := by
  have tt : Turn [] w (w.alloc (.cells (ov o).toArray 65)) := (Turn.refl [] w).alloc _
  have h' := h.new K tt
  refine (K.commit h'.1 (ht.later h'.2.1) hf _ 1 (fun w' t => opr_turnO (opr_lit w o ho) t fun a ha hm => ?_) (by decide)).mono ?_
  · have e : w.heap.size = a := by simpa [Value.ownBlock] using ha
    have := (K.lt h.1 a hm).2
    omega
  · rintro e w' ⟨k, rfl, hk, hn⟩
    obtain ⟨F', k1, k2, k3⟩ := h'.next K hn
    exact ⟨k, rfl, hk, F', k1, fun q hq => (k2 q hq).imp id (fun h => Nat.le_trans tt.size h), (tt.mono (by simp)).trans k3⟩
theorem sesd_restart {w0 w : World} {base b : Nat} {M : MD} {F : List Nat} (h : SesD w0 w base b M F) (hl : Lim M) (cap cr : Int) (dn : Bool) :
    Calls Tryz.prog 18 #[theDisk b, .agg #[.int .i64 cap, .slice none 0 0, .int .i64 cr, .bool dn, .slice none 0 0]] w fun e w' => e = .returned (.tuple #[]) ∧ DStep w0 w w' base b (M.restart cap cr dn [] []) F := by
  refine (restart_cd base b M F cap cr dn (.slice none 0 0) (.slice none 0 0) [] [] w h.1 hl (Reads.nil w) (Reads.nil w) (fun h => absurd rfl h) (fun h => absurd rfl h) (by simp) (by simp)).mono ?_
  rintro e w' ⟨rfl, hn⟩
  exact ⟨rfl, h.next hn⟩
theorem sess_restart {C : SP} {I : SI} (K : StK C I) {w0 w : World} {base b x : Nat} {M : MD} {n : Nat} {s : Bool} {L : List Prm} {most : Int} {F : List Nat} (h : Sess C w0 w base b x M n s L most F) (hl : Lim M) (cap cr : Int) (dn : Bool) :
    Calls Tryz.prog 18 #[theDisk b, .agg #[.int .i64 cap, .slice none 0 0, .int .i64 cr, .bool dn, .slice none 0 0]] w fun e w' => e = .returned (.tuple #[]) ∧ ∃ Fi, I w' x L Fi ∧ (∀ k ∈ Fi, k ∈ F) ∧ ∃ F', SesD w0 w' base b (M.restart cap cr dn [] []) F' ∧ (∀ k ∈ F', k ∈ F ∨ w.heap.size ≤ k) ∧ Turn F w w' ∧ ∀ k ∈ F', k ∉ Fi := by
  obtain ⟨Fd, Fi, h1, h2, h3, h4⟩ := h.parts K
  refine (sesd_restart h1 hl cap cr dn).mono ?_
  rintro e w' ⟨rfl, F', k1, k2, k3⟩
  refine ⟨rfl, Fi, K.ikeep h2 k3 (fun k hk hm => (h3 k hm).2 hk), h4, F', k1, fun k hk => (k2 k hk).imp (fun h => (h3 k h).1) id, k3.mono (fun k hk => (h3 k hk).1), fun k hk hm => ?_⟩
  rcases k2 k hk with h | h
  · exact (h3 k h).2 hm
  · have := K.ilt h2 k hm
    omega
end Go.Proofs.YthcdkggkoanjpaaGreatDoor
