/- The reference's store: OpenStore. Numbers and types by name. -/
import Derived.Test.YthcdkggkoanjpaaGreatDoorScr
import Derived.Test.YthcdkggkoanjpaaGreatDoorGen
import Derived.Test.YthcdkggkoanjpaaGreatDoorWtc
import Derived.Test.YthcdkggkoanjpaaGreatDoorBtc
import Derived.Test.YthcdkggkoanjpaaGreatDoorSxb
namespace Go.Proofs.YthcdkggkoanjpaaGreatDoor
open Go.RowKit Go.Lib
set_option maxRecDepth 100000
def ROpened (w : World) (r : Nat) (F G : List Nat) (O : Opened) (e : Ending) (w' : World) : Prop :=
  (O.e ≠ 0 ∧ e = .returned (.tuple #[.pointer none, .slice none 0 0, .int .i64 O.e]) ∧ RNext w w' r O.M F G []) ∨
  (O.e = 0 ∧ ∃ p ao jn c lo hi F' G', e = .returned (.tuple #[.pointer (some ⟨p, 0, none⟩), .slice ao jn c, .int .i64 0]) ∧ RW w' r p O.M O.n false F' G' ∧ (∀ k ∈ F', k ∈ F ∨ w.heap.size ≤ k) ∧ (∀ k ∈ G', k ∈ G ∨ w.heap.size ≤ k) ∧ Turn F w w' ∧
    w.heap.size ≤ lo ∧ hi ≤ p ∧ w.heap.size ≤ p ∧ ObsB w' lo hi (.slice ao jn c) jn O.l ∧ ∀ k ∈ F', k < lo ∨ hi ≤ k)
theorem RD.next_new {w w' : World} {r : Nat} {M : MD} {F G : List Nat} (h : RD w r M F G) (t : Turn [] w w') : RNext w w' r M F G [] := (h.new t).next t.nil_any
def Mid (w w5 : World) (r : Nat) (M5 : MD) (F G : List Nat) (v : Value) (jn : Nat) (LL : List (List Opm)) : Prop :=
  ∃ F1 G1, RD w5 r M5 F1 G1 ∧ (∀ k ∈ F1, k ∈ F ∨ w.heap.size ≤ k) ∧ (∀ k ∈ G1, k ∈ G ∨ k ∈ ([] : List Nat) ∨ w.heap.size ≤ k) ∧ Turn F w w5 ∧ ∃ lo hi, w.heap.size ≤ lo ∧ hi ≤ w5.heap.size ∧ ObsB w5 lo hi v jn LL ∧ ∀ k ∈ F1, k < lo ∨ hi ≤ k
theorem Mid.rnext {w w5 : World} {r : Nat} {M5 : MD} {F G : List Nat} {v : Value} {jn : Nat} {LL : List (List Opm)} (h : Mid w w5 r M5 F G v jn LL) : RNext w w5 r M5 F G [] := by
  obtain ⟨F1, G1, h1, h2, h3, h4, _⟩ := h
  exact ⟨F1, G1, h1, h2, h3, h4⟩
theorem Mid.step {w w5 w6 : World} {r : Nat} {M5 M6 : MD} {F G : List Nat} {v : Value} {jn : Nat} {LL : List (List Opm)} {F1 G1 : List Nat} (h1 : RD w5 r M5 F1 G1 ∧ (∀ k ∈ F1, k ∈ F ∨ w.heap.size ≤ k) ∧ (∀ k ∈ G1, k ∈ G ∨ k ∈ ([] : List Nat) ∨ w.heap.size ≤ k) ∧ Turn F w w5 ∧ ∃ lo hi, w.heap.size ≤ lo ∧ hi ≤ w5.heap.size ∧ ObsB w5 lo hi v jn LL ∧ ∀ k ∈ F1, k < lo ∨ hi ≤ k)
    (hn : RNext w5 w6 r M6 F1 G1 []) : Mid w w6 r M6 F G v jn LL := by
  obtain ⟨h1, h2, h3, h4, lo, hi, h5, h6, h7, h8⟩ := h1
  obtain ⟨F2, G2, k1, k2, k3, k4⟩ := hn
  have hs := h4.size
  refine ⟨F2, G2, k1, fun k hk => ?_, fun k hk => ?_, h4.trans' k4 h2, lo, hi, h5, Nat.le_trans h6 k4.size, h7.turn k4 h8, fun k hk => ?_⟩
  · rcases k2 k hk with h | h
    · exact h2 k h
    · exact .inr (by omega)
  · rcases k3 k hk with h | h | h
    · exact h3 k h
    · cases h
    · exact .inr (.inr (by omega))
  · rcases k2 k hk with h | h
    · exact h8 k h
    · exact .inr (by omega)
set_option maxHeartbeats 8000000 in
theorem ref_openW (r : Nat) (M : MD) (F G : List Nat) (w : World) (h : RD w r M F G) {K J j : Nat} (hw : Well K M j) (hj : j + 3 ≤ J) (hR : RoomW K J) (hlg : (M.read logK).1.length ≤ 7200000) :
    Calls Tryz.prog 41 #[theRef r] w (ROpened w r F G (openP M)) := by
  have HRD := ref_read r M F G logS w h (well_limW hR hw (by omega)).fs
  have HCR := fun w' (t : Turn [] w w') => ref_create r M F G logS w' (h.new t) (well_limW hR hw (by omega)) (by show 3 ≤ 1000000; omega)
  rw [logS_list] at HRD HCR
  unfold theRef logS at HRD HCR
  unfold openP
  have hbl := hlg
  have hbn := mread_none (M := M) (k := logK)
  have HW := Lib.hid (And.intro hw (And.intro hj hR))
  have HWC := Lib.hid (well_create hw logK)
  obtain ⟨b, hb⟩ : ∃ b, b = (M.read logK).1 := ⟨_, rfl⟩
  obtain ⟨e0, he0⟩ : ∃ e, e = (M.read logK).2 := ⟨_, rfl⟩
  obtain ⟨k1, hk1⟩ : ∃ k, k = (M.act (opCreate logK)).1 := ⟨_, rfl⟩
  obtain ⟨M1, hM1⟩ : ∃ M', M' = (M.act (opCreate logK)).2 := ⟨_, rfl⟩
  unfold RActed at HCR
  rw [← hb] at hbl hbn
  rw [← he0] at hbn
  rw [← hM1] at HWC
  rw [← hb, ← he0] at HRD
  rw [← hk1, ← hM1] at HCR
  rw [← hb, ← he0, ← hk1, ← hM1]
  obtain ⟨O, hO⟩ : ∃ O : Opened, O = if e0 = 3 then if k1 = 0 then openQ M1 [] else ⟨k1, M1, 0, []⟩ else if e0 = 0 then openQ M b else ⟨e0, M, 0, []⟩ := ⟨_, rfl⟩
  rw [← hO]
  have HO := Lib.hid hO
  clear hO
  obtain ⟨m, hm⟩ : ∃ m, m = b.length := ⟨_, rfl⟩
  rw [← hm] at HRD
  have HBL := Lib.hid (And.intro hbl (And.intro hbn hm))
  have HCR' := Lib.hid HCR
  have H0 := Lib.hid h
  clear hb he0 hk1 hM1 hbl hlg hbn hm h hw hj hR HCR
  unfold theRef
  go_enter Tryz.func41, Tryz.ntmps41
  go_wp2_with fail
  refine HRD.mono ?_
  rintro e w1 ⟨ao, c, rfl, hB, t⟩
  have HB1 := Lib.hid (And.intro hB t)
  clear hB t HRD
  by_cases h3 : e0 = 3
  case' pos =>
    have HO1 : Hid (O = if k1 = 0 then openQ M1 b else ⟨k1, M1, 0, []⟩) := Lib.hid (by rw [HO.out, if_pos h3, HBL.out.2.1 h3])
    subst h3
    clear HO
    have HC := HCR'.out w1 HB1.out.2
    go_wp2_with fail
    refine HC.mono ?_
    rintro e w2 ⟨k', rfl, rfl, hn⟩
    have H2 : Hid (RNext w w2 r M1 F G []) := Lib.hid (RNext.after HB1.out.2.nil_any hn)
    have HRB : Hid (Reads w2 (.slice ao m c) (bv b)) := Lib.hid (HB1.out.1.turn hn.choose_spec.choose_spec.2.2.2 fun k hk => H0.out.lt.1 k hk)
    clear hn HC HCR'
    by_cases h4 : k' = 0
    case' neg =>
      have HQ : Hid (O = ⟨k', M1, 0, []⟩) := Lib.hid (by rw [HO1.out, if_neg h4])
      clear HO1
      go_wp2_with fail
      go_ret3
      rw [HQ.out]
      exact .inl ⟨h4, rfl, H2.out⟩
    have HQ : Hid (O = openQ M1 b) := Lib.hid (by rw [HO1.out, if_pos h4])
    have HE : Hid (RNext w w2 r M1 F G []) := H2
    have HWE : Hid (Well K M1 (j + 1)) := HWC
    subst h4
    clear H2 HO1
    obtain ⟨we, rfl⟩ : ∃ we, we = w2 := ⟨_, rfl⟩
    obtain ⟨ME, rfl⟩ : ∃ ME, ME = M1 := ⟨_, rfl⟩
  case' neg =>
    by_cases h4 : e0 = 0
    case' neg =>
      have HQ : Hid (O = ⟨e0, M, 0, []⟩) := Lib.hid (by rw [HO.out, if_neg h3, if_neg h4])
      clear HO
      go_wp2_with fail
      go_ret3
      rw [HQ.out]
      exact .inl ⟨h4, rfl, H0.out.next_new HB1.out.2⟩
    have HQ : Hid (O = openQ M b) := Lib.hid (by rw [HO.out, if_neg h3, if_pos h4])
    have HE : Hid (RNext w w1 r M F G []) := Lib.hid (H0.out.next_new HB1.out.2)
    have HRB : Hid (Reads w1 (.slice ao m c) (bv b)) := Lib.hid HB1.out.1.reads
    have HWE : Hid (Well K M (j + 1)) := Lib.hid (well_more HW.out.1 (by omega))
    subst h4
    clear HO HCR' HWC
    obtain ⟨we, rfl⟩ : ∃ we, we = w1 := ⟨_, rfl⟩
    obtain ⟨ME, rfl⟩ : ∃ ME, ME = M := ⟨_, rfl⟩
  all_goals
    have HB0 := Lib.hid trivial
    clear HB1
    go_wp2_with fail
    refine (ref_scan _ m b we HRB.out HBL.out.2.2 (Lib.hid (by have := HBL.out.1; have := HBL.out.2.2; omega))).mono ?_
    rintro e w3 ⟨hb3, l, n3, al, cl, hsc, hn3, rfl, hown⟩
    have hl8 := bulk_scans' hsc
    have hsz := scans_size hsc
    have HS : Hid (scn b = l ∧ (frms l).length ≤ 7200000 ∧ l.length ≤ 900000) := Lib.hid ⟨scn_of hsc, by have := HBL.out.1; omega, by have := HBL.out.1; omega⟩
    have HG3 : Hid (Turn [] we w3 ∧ Ows w3 we.heap.size (.slice al l.length cl) l.length l) := Lib.hid ⟨turn_below hb3, hown⟩
    obtain ⟨ll, hll⟩ : ∃ ll, ll = l.length := ⟨_, rfl⟩
    rw [← hll] at HG3 HS ⊢
    have HLL := Lib.hid hll
    clear hb3 hsc hn3 hown hl8 hsz hll HRB
    go_wp2_with fail
    refine (ref_replay_from _ ll l w3 (HG3.out.2.rows (by have := HS.out.2.2; unfold maxLen; omega)) HS.out.2.2).mono ?_
    rintro e w4 ⟨hb4, LL, u, aj, jn, cj, hplay, hu, hLL, rfl, hobs⟩
    have HP : Hid (batsOf b = LL ∧ endOf b = (frms (l.take u)).length ∧ u ≤ ll) := Lib.hid ⟨by unfold batsOf; rw [HS.out.1, hplay], by unfold endOf usedOf; rw [HS.out.1, hplay], by rw [HLL.out]; exact hu⟩
    have HG4 : Hid (Turn [] w3 w4 ∧ ObsB w4 w3.heap.size w4.heap.size (.slice aj jn cj) jn LL) := Lib.hid ⟨turn_below hb4, hobs.between⟩
    have HRW : Hid (Rws w4 (.slice al ll cl) ll l) := Lib.hid ((HG3.out.2.rows (by have := HS.out.2.2; unfold maxLen; omega)).later hb4)
    clear hb4 hplay hu hLL hobs
    go_wp2_with fail
    go_loopw [11, 12] (fun nv iv wr => ∃ i : Nat, i ≤ u ∧ iv = .int .i64 i ∧ nv = .int .i64 (((frms (l.take i)).length : Nat) : Int) ∧ wr = w4) (fun _ iv _ => u - (RowKit.intOf iv).toNat)
    case atStart => exact ⟨0, Nat.zero_le _, rfl, rfl, rfl⟩
    case round =>
      obtain ⟨i, hi, rfl, rfl, rfl⟩ := hrel
      by_cases h1 : i < u
      · have h3 : (i : Int) < (u : Int) := by omega
        have x1 : (i : Int) < (ll : Int) := by have := HP.out.2.2; omega
        have hi9 : i < 900000 := Nat.lt_of_lt_of_le h1 (Nat.le_trans HP.out.2.2 HS.out.2.2)
        have e3 : wrap64 ((i : Int) + 1) = ((i + 1 : Nat) : Int) := by rw [wrap64_id _ (by omega)]; omega
        clear hi9
        obtain ⟨a, p, ap, cp, rfl, hp, hcell, _, _⟩ := HRW.out.at (k := i) (by have := HP.out.2.2; omega)
        have hnx := frms_next hp
        have htk := frms_take l (i + 1)
        have htot := HS.out.2.1
        obtain ⟨q, hq⟩ : ∃ q, q = (frms (l.take i)).length := ⟨_, rfl⟩
        obtain ⟨pl, hpl⟩ : ∃ pl, pl = p.length := ⟨_, rfl⟩
        rw [← hq, ← hpl] at hnx
        rw [← hpl] at hcell
        rw [← hq]
        have hq9 : q + 8 + pl ≤ 7200000 := by omega
        have HNX := Lib.hid hnx
        clear hp htk htot hpl hq hnx
        have e1 : wrap64 ((q : Int) + 8) = ((q + 8 : Nat) : Int) := by rw [wrap64_id _ (by omega)]; omega
        have e2 : wrap64 (((q + 8 : Nat) : Int) + (pl : Int)) = ((q + 8 + pl : Nat) : Int) := by rw [wrap64_id _ (by omega)]; omega
        have HEE := Lib.hid (And.intro e1 (And.intro e2 (And.intro e3 hq9)))
        clear e1 e2 e3 hq9
        go_wp2_with fail
        refine ⟨⟨i + 1, by omega, ?_, ?_⟩, ?_⟩
        · rw [HEE.out.2.2.1]
        · refine ⟨?_, trivial⟩
          rw [HEE.out.1, HEE.out.2.1, HNX.out]
        · rw [HEE.out.2.2.1]
          simp only [RowKit.intOf]
          omega
      · obtain rfl : i = u := by omega
        have h3 : ¬ (i : Int) < (i : Int) := by omega
        obtain ⟨q, hq⟩ : ∃ q, q = (frms (l.take i)).length := ⟨_, rfl⟩
        have HEND : Hid (endOf b = q ∧ batsOf b = LL) := Lib.hid ⟨by rw [HP.out.2.1, hq], HP.out.1⟩
        rw [← hq]
        obtain ⟨F1, G1, hRD, hf, hg, ht⟩ := HE.out
        have t4 := HG3.out.1.trans HG4.out.1
        have HD4 : Hid (RNext w wr r ME F G []) := Lib.hid ⟨F1, G1, hRD.new t4, hf, hg, ht.trans t4.nil_any⟩
        have hlow : ∀ k ∈ F1, k < w3.heap.size := fun k hk => Nat.lt_of_lt_of_le (hRD.lt.1 k hk) HG3.out.1.size
        have HOB : Hid (Mid w wr r ME F G (.slice aj jn cj) jn LL) :=
          Lib.hid ⟨F1, G1, hRD.new t4, hf, hg, ht.trans t4.nil_any, w3.heap.size, wr.heap.size, Nat.le_trans ht.size HG3.out.1.size, Nat.le_refl _, HG4.out.2, fun k hk => .inl (hlow k hk)⟩
        clear hq hRD hf hg ht t4 hlow HG3 HG4 HRW HP HE HD4
        by_cases hqm : q < m
        case' pos =>
          have h5 : (q : Int) < (m : Int) := by omega
          obtain ⟨F1, G1, hmid⟩ := HOB.out
          have HC := ref_cut r ME F1 G1 logS q wr hmid.1 (well_limW HW.out.2.2 HWE.out (by have := HW.out.2.1; omega))
          rw [logS_list] at HC
          unfold theRef logS RActed at HC
          have HQ1 : Hid (O = if (ME.act (opCut logK q)).1 = 0 then openR (ME.act (opCut logK q)).2 b else ⟨(ME.act (opCut logK q)).1, (ME.act (opCut logK q)).2, 0, []⟩) := Lib.hid (by rw [HQ.out]; unfold openQ; rw [HEND.out.1, if_pos (by rw [← HBL.out.2.2]; exact hqm)])
          have HW2 := Lib.hid (well_cut HWE.out logK q)
          obtain ⟨k2, hk2⟩ : ∃ k, k = (ME.act (opCut logK q)).1 := ⟨_, rfl⟩
          obtain ⟨M2, hM2⟩ : ∃ M', M' = (ME.act (opCut logK q)).2 := ⟨_, rfl⟩
          rw [← hk2, ← hM2] at HC HQ1
          rw [← hM2] at HW2
          have HOB1 := Lib.hid hmid
          clear hmid hk2 hM2 HOB HQ
          go_wp2_with fail
          refine HC.mono ?_
          rintro e w5 ⟨k', rfl, rfl, hn⟩
          have HOB := Lib.hid (Mid.step HOB1.out hn)
          clear HOB1 hn HC
          by_cases h4 : k' = 0
          case' neg =>
            have HQ : Hid (O = ⟨k', M2, 0, []⟩) := Lib.hid (by rw [HQ1.out, if_neg h4])
            clear HQ1
            go_wp2_with fail
            go_ret3
            rw [HQ.out]
            exact .inl ⟨h4, rfl, HOB.out.rnext⟩
          have HQ : Hid (O = openR M2 b) := Lib.hid (by rw [HQ1.out, if_pos h4])
          subst h4
          clear HWE HQ1
          have HWE : Hid (Well K M2 (j + 2)) := HW2
          obtain ⟨wf, rfl⟩ : ∃ wf, wf = w5 := ⟨_, rfl⟩
          obtain ⟨MF, rfl⟩ : ∃ MF, MF = M2 := ⟨_, rfl⟩
        case' neg =>
          have h5 : ¬ (q : Int) < (m : Int) := by omega
          have HQ' : Hid (O = openR ME b) := Lib.hid (by rw [HQ.out]; unfold openQ; rw [HEND.out.1, if_neg (by rw [← HBL.out.2.2]; exact hqm)])
          clear HQ
          have HQ := HQ'
          have HWE' : Hid (Well K ME (j + 2)) := Lib.hid (well_more HWE.out (by omega))
          clear HWE HQ'
          have HWE := HWE'
          obtain ⟨wf, rfl⟩ : ∃ wf, wf = wr := ⟨_, rfl⟩
          obtain ⟨MF, rfl⟩ : ∃ MF, MF = ME := ⟨_, rfl⟩
        all_goals
          have HL := well_limW HW.out.2.2 HWE.out (by have := HW.out.2.1; omega)
          obtain ⟨F1, G1, hmid⟩ := HOB.out
          have HC := ref_sync r MF F1 G1 logS wf hmid.1 HL
          rw [logS_list] at HC
          unfold theRef logS RActed at HC
          have HQ1 : Hid (O = if (MF.act (opSync logK)).1 = 0 then ⟨0, (MF.act (opSync logK)).2, q, LL⟩ else ⟨(MF.act (opSync logK)).1, (MF.act (opSync logK)).2, 0, []⟩) := Lib.hid (by rw [HQ.out]; unfold openR; rw [HEND.out.1, HEND.out.2])
          obtain ⟨k2, hk2⟩ : ∃ k, k = (MF.act (opSync logK)).1 := ⟨_, rfl⟩
          obtain ⟨M2, hM2⟩ : ∃ M', M' = (MF.act (opSync logK)).2 := ⟨_, rfl⟩
          rw [← hk2, ← hM2] at HC HQ1
          have HOB1 := Lib.hid hmid
          clear hmid hk2 hM2 HOB HQ HL HWE HW HBL
          go_wp2_with fail
          refine HC.mono ?_
          rintro e w5 ⟨k', rfl, rfl, hn⟩
          have HOB := Lib.hid (Mid.step HOB1.out hn)
          clear HOB1 hn HC
          by_cases h4 : k' = 0
          case' neg =>
            have HQ : Hid (O = ⟨k', M2, 0, []⟩) := Lib.hid (by rw [HQ1.out, if_neg h4])
            clear HQ1
            go_wp2_with fail
            go_ret3
            rw [HQ.out]
            exact .inl ⟨h4, rfl, HOB.out.rnext⟩
          have HQ : Hid (O = ⟨0, M2, q, LL⟩) := Lib.hid (by rw [HQ1.out, if_pos h4])
          subst h4
          clear HQ1
          go_wp2_with fail
          go_ret3
          rw [HQ.out]
          refine .inr ⟨rfl, ?_⟩
          obtain ⟨F2, G2, k1, k2, k3, k4, lo, hi, l1, l2, l3, l4⟩ := HOB.out
          have ta : Turn [] w5 (w5.alloc (wob 46 (theRef r) q false)) := (Turn.refl [] w5).alloc _
          refine ⟨w5.heap.size, aj, jn, cj, lo, hi, F2, G2, rfl, ⟨k1.new ta, fun hm => ?_, fun hm => ?_, heap_alloc_new w5 _⟩, k2, fun k hk => ?_, k4.trans ta.nil_any, l1, l2, k4.size, l3.turn ta (by simp), l4⟩
          · have := k1.lt.1 _ hm; omega
          · have := (k1.lt.2 _ hm).2; omega
          · rcases k3 k hk with h | h | h
            · exact .inl h
            · cases h
            · exact .inr h
end Go.Proofs.YthcdkggkoanjpaaGreatDoor
namespace Go.Proofs.YthcdkggkoanjpaaGreatDoor
open Go.RowKit Go.Lib
set_option maxRecDepth 100000
theorem own_prr {w : World} {base q c : Nat} {ao : Option Addr} {L : List Prm} (h : OwnP w base (.slice ao q c) L) (hq : q = L.length) (hb : bulkP L ≤ 650000) : Prr w (.slice ao q c) q L := by
  have h1 := Cells.own (show w.ownsRow _ 90 2 (.slice ao q c) _ (pvs L) from h) (by decide)
  rw [← hq] at h1
  have h2 := bulkP_len L
  have h3 := hb
  refine ⟨hq, by unfold maxLen; omega, h1, fun o ho => ?_⟩
  have : 1 + o.key.size + o.val.size ≤ bulkP L := by
    clear h hq hb h1 h2 h3
    induction L with
    | nil => cases ho
    | cons y l ih =>
      rw [bulkP_cons]
      rcases List.mem_cons.1 ho with rfl | ho
      · omega
      · have := ih ho; omega
  unfold maxLen
  omega
set_option maxHeartbeats 4000000 in
theorem ref_scommit (r t : Nat) (M : MD) (n : Nat) (s : Bool) (L : List Prm) (most : Int) (F G : List Nat) (vo : Value) (m : Nat) (X : List Opm) (w : World) (h : RSt w r t M n s L most F G) {K J j : Nat} (hf : SFit K J j M n L X) (ho : ∀ w', Turn F w w' → Opr w' vo m X) (hm : m ≤ 5000) :
    Calls Tryz.prog 24 #[.pointer (some ⟨t, 0, none⟩), vo] w (Left fun k w' => k = (commitS most M n s L X).e ∧ RStNext w w' r t (commitS most M n s L X).M (commitS most M n s L X).n (commitS most M n s L X).s (commitS most M n s L X).L most F G) := by
  obtain ⟨p, v, q, Fw, Gw, h1, h2, h3, h4, h5, h6, h7, rfl, rfl⟩ := id h
  have c0 := sob_0 h2
  have HC := ref_commitW r p M n s Fw Gw vo m X w h1 (ho w (Turn.refl _ _)) hf.x hf.well.held.cap hf.well (by have := hf.j; omega) hf.room hf.xK hf.n
  obtain ⟨W, hW⟩ : ∃ W, W = commitP M n s X := ⟨_, rfl⟩
  rw [← hW] at HC
  have HF := Lib.hid (And.intro hf (And.intro ho (And.intro hm hW)))
  have HA := Lib.hid (And.intro h1 (And.intro h2 (And.intro h3 (And.intro h4 (And.intro h5 (And.intro h6 h7))))))
  clear h h1 h2 h3 h4 h5 h6 h7 hf ho hm hW
  go_enter Tryz.func24, Tryz.ntmps24
  go_wp2_with fail
  refine HC.mono ?_
  rintro e w1 ⟨k1, rfl, hk1, hn⟩
  have HN1 := Lib.hid (RSt.wal (most := most) HA.out.2.1 HA.out.2.2.1 HA.out.2.2.2.1 HA.out.2.2.2.2.1 HA.out.2.2.2.2.2.1 HA.out.2.2.2.2.2.2 hn)
  have HK := Lib.hid hk1
  clear hn hk1 HC c0
  by_cases he : k1 = 0
  case neg =>
    go_wp2_with fail
    go_ret
    refine ⟨k1, rfl, ?_⟩
    rw [commitS_bad HF.out.2.2.2 (by rw [← HK.out]; exact he)]
    exact ⟨HK.out, HN1.out⟩
  subst he
  obtain ⟨F1, G1, hR1, k2, k3, k4⟩ := HN1.out
  have ho1 := HF.out.2.1 w1 k4
  obtain ⟨p1, v1, q1, Fw1, Gw1, g1, g2, g3, g4, g5, g6, g7, eF, eG⟩ := hR1
  have hqL : q1 ≤ 700000 := by have := g3.1; have := bulkP_len L; have := HF.out.1.sl.1; omega
  have b1 := sob_1 g2
  have AP := ref_apply v1 vo q1 m L X w1 g3 ho1 hqL HF.out.2.2.1
  have HX := Lib.hid (And.intro g1 (And.intro g2 (And.intro g4 (And.intro g5 (And.intro g6 (And.intro g7 (And.intro eF (And.intro eG (And.intro k2 (And.intro k3 k4))))))))))
  clear g1 g2 g3 g4 g5 g6 g7 eF eG k2 k3 k4 ho1 hqL
  go_wp2_with fail
  refine AP.mono ?_
  rintro e w2 ⟨ao, q2, c2, rfl, hq2, hown2, hb2⟩
  have t2 := tb9 hb2
  have hR2 := HX.out.1.keep t2 (by simp) (by simp) (by simp)
  have hs2 := t2.heap HX.out.2.1 (by simp)
  have hlow := (World.ownsRow.lt hown2)
  have hP2 := own_prr hown2 hq2 (Nat.le_trans HF.out.1.sl2.1 (by decide))
  have hfre : applyP L X ≠ [] → ∀ a, (Value.slice ao q2 c2).ownBlock = some a → a < w2.heap.size ∧ a ≠ t ∧ a ≠ p1 ∧ a ∉ Fw1 := fun _ a ha => by
    have h1 := hlow a ha
    have h2 := HX.out.1.lt
    have h3 := lt_of HX.out.2.1
    exact ⟨h1.2, by omega, by omega, fun hm => by have := HX.out.1.1.lt.1 a hm; omega⟩
  have d1 := sob_1 hs2
  have fr := sob_free hs2 1
  have hR3 := RSt.set_v hR2 hs2 HX.out.2.2.1 HX.out.2.2.2.1 HX.out.2.2.2.2.1 hP2 hfre
  obtain ⟨w3, hw3⟩ : ∃ w3, w3 = w2.setCell ⟨t, 1, none⟩ (.slice ao q2 c2) := ⟨_, rfl⟩
  have t3 : Turn (t :: p1 :: Fw1) w1 w3 := by rw [hw3]; exact (t2.mono (by simp)).set (.inl (by simp)) _ _
  have hs3 : w3.heap[t]? = some (sob p1 (.slice ao q2 c2) most) := by rw [hw3]; exact sob_v hs2 _
  have hp3 : w3.heap[p1]? = some (wob 46 (theRef r) W.n W.s) := by
    rw [hw3, heap_set_ne hR2.2.2.2 (fun e => HX.out.2.2.1 e.symm)]
  rw [← hw3] at hR3
  have HN3 : Hid (RStNext w w3 r t W.M W.n W.s (applyP L X) most (t :: p :: Fw) (Gw ++ gOf L v)) := Lib.hid (RStNext.cat HX.out.2.2.2.2.2.2.2.2.1 HX.out.2.2.2.2.2.2.2.2.2.1 HX.out.2.2.2.2.2.2.2.2.2.2 ⟨_, _, hR3, fun k hk => .inl (by rw [HX.out.2.2.2.2.2.2.1]; exact hk), fun k hk => by
    rcases List.mem_append.1 hk with hk | hk
    · exact .inl (by rw [HX.out.2.2.2.2.2.2.2.1]; simp [hk])
    · exact .inr (hlow k (mem_gOf.1 hk).2).1, by rw [HX.out.2.2.2.2.2.2.1]; exact t3⟩)
  have e0 := sob_0 hs3
  have e1 := wob_1 hp3
  have e2 := sob_2 hs3
  have HW3 := Lib.hid hw3
  have HWW := Lib.hid (show Well K W.M (j + 3) by rw [HF.out.2.2.2]; exact well_commit HF.out.1.well n s X HF.out.1.xK)
  clear hR2 hs2 hlow hP2 hfre hR3 t2 t3 hown2 hb2 hq2 AP b1 hs3 hp3
  go_wp2_with fail
  rw [← hw3]
  clear d1 fr hw3
  by_cases hm : most < (W.n : Int)
  · go_quiet (fail)
    obtain ⟨F4, G4, hR4, k42, k43, k44⟩ := HN3.out
    have tq : Turn [] w3 (w3.drewN nq) := (Turn.refl [] w3).drewN nq
    have CK := ref_scheck r t W.M W.n W.s (applyP L X) most F4 G4 (w3.drewN nq) (hR4.new tq) HF.out.1.sl2 HWW.out (by have := HF.out.1.j; omega) HF.out.1.room HF.out.1.sK
    have H4 := Lib.hid (And.intro k42 (And.intro k43 (And.intro k44 tq)))
    have HM := Lib.hid hm
    clear hR4 k42 k43 k44 tq e0 e1 e2 hm
    go_wp2_with fail
    refine CK.mono ?_
    rintro e w4 ⟨k5, rfl, hk5, hn5⟩
    have HN5 := Lib.hid hn5
    clear hn5 CK hk5
    go_wp2_with fail
    go_ret
    refine ⟨0, rfl, ?_⟩
    rw [commitS_many HF.out.2.2.2 HK.out.symm HM.out]
    refine ⟨rfl, ?_⟩
    rw [checkS_L]
    exact RStNext.cat H4.out.1 H4.out.2.1 H4.out.2.2.1 (HN5.out.after H4.out.2.2.2)
  · go_quiet (fail)
    have HM := Lib.hid hm
    clear e0 e1 e2 hm
    go_wp2_with fail
    go_ret
    refine ⟨0, rfl, ?_⟩
    rw [commitS_few HF.out.2.2.2 HK.out.symm (by have := HM.out; omega)]
    refine ⟨rfl, ?_⟩
    obtain ⟨F4, G4, hR4, k42, k43, k44⟩ := HN3.out
    have tq : Turn [] w3 (w3.drewN nq) := (Turn.refl [] w3).drewN nq
    exact RStNext.cat k42 k43 k44 ⟨F4, G4, hR4.new tq, fun _ hk => .inl hk, fun _ hk => .inl hk, tq.mono (by simp)⟩
end Go.Proofs.YthcdkggkoanjpaaGreatDoor
namespace Go.Proofs.YthcdkggkoanjpaaGreatDoor
open Go.RowKit Go.Lib
set_option maxRecDepth 100000
def ROpenS (w : World) (r : Nat) (F G : List Nat) (most : Int) (R : SOpen) (e : Ending) (w' : World) : Prop :=
  (R.e ≠ 0 ∧ e = .returned (.tuple #[.pointer none, .int .i64 R.e]) ∧ RNext w w' r R.M F G []) ∨
  (R.e = 0 ∧ ∃ t F' G', e = .returned (.tuple #[.pointer (some ⟨t, 0, none⟩), .int .i64 0]) ∧ RSt w' r t R.M R.n false R.L (max most 0) F' G' ∧ (∀ k ∈ F', k ∈ F ∨ w.heap.size ≤ k) ∧ (∀ k ∈ G', k ∈ G ∨ w.heap.size ≤ k) ∧ Turn F w w')
set_option maxHeartbeats 4000000 in
theorem ref_sopen (r : Nat) (M : MD) (F G : List Nat) (most : Int) (w : World) (h : RD w r M F G) {K J j : Nat} (hf : OFit K J j M) :
    Calls Tryz.prog 16 #[theRef r, .int .i64 most] w (ROpenS w r F G most (openS M)) := by
  have HL := ref_load r M F G w h (well_limW hf.room hf.well (by have := hf.j; omega)).fs hf.snap
  have HF := Lib.hid (And.intro hf h)
  have HD := h.lt
  obtain ⟨e0, he0⟩ : ∃ e0, e0 = loadE M := ⟨_, rfl⟩
  rw [← he0] at HL
  have HE0 := Lib.hid he0
  have HDD := Lib.hid HD
  unfold theRef at HL ⊢
  clear hf h he0 HD
  go_enter Tryz.func16, Tryz.ntmps16
  go_wp2_with fail
  refine HL.mono ?_
  rintro e w1 ⟨ao0, q0, c0, rfl, hP0, t1, hfr0⟩
  have H1 := Lib.hid (And.intro hP0 (And.intro t1 hfr0))
  clear hP0 t1 hfr0 HL
  by_cases h0 : e0 = 0
  case neg =>
    go_wp2_with fail
    go_ret2
    rw [openS_bad (by rw [← HE0.out]; exact h0)]
    exact .inl ⟨by rw [← HE0.out]; exact h0, by rw [← HE0.out]; rfl, HF.out.2.next_new H1.out.2.1⟩
  subst h0
  have HO := ref_openW r M F G w1 (HF.out.2.new H1.out.2.1) HF.out.1.well HF.out.1.j HF.out.1.room HF.out.1.log
  unfold theRef at HO
  go_wp2_with fail
  refine HO.mono ?_
  rintro e w2 (⟨ho, rfl, hn⟩ | ⟨ho, p, ao, jn, c, lo, hi, F', G', rfl, hw2, k2, k3, t2, hlo, hhi, hp, hobs, hapart⟩)
  · -- the log can't be opened
    have HN := Lib.hid hn
    have HOE := Lib.hid ho
    obtain ⟨e1, he1⟩ : ∃ e1, e1 = (openP M).e := ⟨_, rfl⟩
    have HE1 := Lib.hid he1
    rw [← he1] at ho ⊢
    clear hn HO he1
    go_wp2_with fail
    go_ret2
    rw [openS_log HE0.out.symm HOE.out]
    exact .inl ⟨HOE.out, by rw [← HE1.out]; rfl, HN.out.after (H1.out.2.1.mono (by simp))⟩
  · have HFR : Hid (loadL M ≠ [] → ∀ a, (Value.slice ao0 q0 c0).ownBlock = some a → a < w2.heap.size ∧ a ∉ p :: F' ∧ w.heap.size ≤ a) := Lib.hid fun hne a ha => by
      have h1 := H1.out.2.2 a ha
      have h2 : a < w1.heap.size := by
        obtain ⟨hq, _, ⟨ao', c', e', g0, g1, g2, g3⟩, _⟩ := H1.out.1
        obtain ⟨o, l, hol⟩ : ∃ o l, loadL M = o :: l := by
          cases hL : loadL M with
          | nil => exact absurd hL hne
          | cons o l => exact ⟨o, l, rfl⟩
        simp only [Value.slice.injEq] at e'
        obtain ⟨rfl, _, rfl⟩ := e'
        cases ao0 with
        | none => cases ha
        | some a' =>
          have hc := g3 a' rfl 0 (.string o.key) (by rw [hol]; rfl)
          have hlt := World.block_lt_of_cell? w1 _ hc
          rw [add_block] at hlt
          have : a'.block = a := by simpa [Value.ownBlock] using ha
          omega
      have h3 := t2.size
      refine ⟨by omega, fun hm => ?_, h1⟩
      rcases List.mem_cons.1 hm with rfl | hm
      · omega
      · rcases k2 a hm with hm | hm
        · have := HDD.out.1 a hm; omega
        · omega
    have HW2 := Lib.hid (And.intro hw2 (And.intro k2 (And.intro k3 (And.intro t2 (And.intro hp hobs)))))
    have HOE := Lib.hid ho
    have HP2 : Hid (Prr w2 (.slice ao0 q0 c0) q0 (loadL M)) := Lib.hid (H1.out.1.turnO t2 fun _ a ha hm => by
      have h1 := H1.out.2.2 a ha
      have := HDD.out.1 a hm
      omega)
    clear hw2 k2 k3 t2 hlo hhi hp hobs hapart ho HO
    have hjl : jn ≤ 9223372036854775807 := by have := HW2.out.2.2.2.2.2.2.1; unfold maxLen at this; omega
    go_wp2_with fail
    go_loopw [6, 11] (fun v i wr => ∃ (k q c : Nat) (ao : Option Addr), k ≤ jn ∧ i = .int .i64 k ∧ v = .slice ao q c ∧ Hid (Grow w2 wr ∧ Prr wr (.slice ao q c) q (applyAll (loadL M) ((openP M).l.take k)) ∧ (applyAll (loadL M) ((openP M).l.take k) ≠ [] → ∀ a, (Value.slice ao q c).ownBlock = some a → a < wr.heap.size ∧ a ∉ p :: F' ∧ w.heap.size ≤ a)))
      (fun _ i _ => jn - (RowKit.intOf i).toNat)
    case atStart => exact ⟨0, q0, c0, ao0, Nat.zero_le _, rfl, rfl, Lib.hid ⟨Grow.refl _, HP2.out, HFR.out⟩⟩
    case round =>
      obtain ⟨k, q, c3, ao3, hk, rfl, rfl, hG⟩ := hrel
      by_cases hlt : k < jn
      · have h3 : (k : Int) < (jn : Int) := by omega
        obtain ⟨a, O, ap, cp, rfl, hO, co, hr⟩ := (HW2.out.2.2.2.2.2.obs.later hG.out.1).at hlt
        have hm : O ∈ (openP M).l := List.mem_of_getElem? hO
        have hbk : bulkP (applyAll (loadL M) ((openP M).l.take (k + 1))) ≤ 650000 := by
          have h1 := bulkP_all (loadL M) ((openP M).l.take (k + 1))
          have h2 := bulkO_takeB (openP M).l (k + 1)
          have h4 := HF.out.1.bulk
          omega
        have hq : q ≤ 700000 := by
          have h1 := bulkP_all (loadL M) ((openP M).l.take k)
          have h2 := bulkO_takeB (openP M).l k
          have h4 := HF.out.1.bulk
          have h5 := hG.out.2.1.1
          have h6 := bulkP_len (applyAll (loadL M) ((openP M).l.take k))
          omega
        have AP := ref_apply (.slice ao3 q c3) (.slice ap O.length cp) q O.length _ O wr hG.out.2.1 hr hq (HF.out.1.ops O hm)
        rw [← applyAll_next hO] at AP
        have HB := Lib.hid hbk
        obtain ⟨on, hon⟩ : ∃ on, on = O.length := ⟨_, rfl⟩
        rw [← hon] at co AP
        clear hr hO hm hbk hq hon
        go_wp2_with fail
        refine AP.mono ?_
        rintro e w3 ⟨ao4, q4, c4, rfl, hq4, hown, hb4⟩
        have HX := Lib.hid (And.intro hq4 (And.intro hown hb4))
        clear hq4 hown hb4 AP
        go_wp2_with fail
        refine ⟨⟨k + 1, q4, c4, ao4, by omega, by go_num, rfl, Lib.hid ⟨hG.out.1.trans HX.out.2.2, own_prr HX.out.2.1 HX.out.1 HB.out, fun _ a ha => ?_⟩⟩, by simp [RowKit.intOf]; omega⟩
        have h1 := World.ownsRow.lt HX.out.2.1 a ha
        have h2 := hG.out.1.size
        refine ⟨h1.2, fun hm => ?_, by have := H1.out.2.1.size; have := HW2.out.2.2.2.1.size; omega⟩
        rcases List.mem_cons.1 hm with rfl | hm
        · have := HW2.out.1.lt; omega
        · have := HW2.out.1.1.lt.1 a hm; omega
      · have h3 : ¬ (k : Int) < (jn : Int) := by omega
        obtain rfl : k = jn := by omega
        have hG2 := hG.out
        rw [List.take_of_length_le (by have := HW2.out.2.2.2.2.2.1; omega)] at hG2
        have HG := Lib.hid hG2
        clear hG hG2
        go_wp2_with fail
        go_ret2
        obtain ⟨hg, hP, hfr⟩ := HG.out
        rw [openS_ok HE0.out.symm HOE.out]
        have tg := (tb9 hg).alloc (.cells #[.pointer (some ⟨p, 0, none⟩), .slice ao3 q c3, .int .i64 (max most 0)] 50)
        have hsz := hg.size
        have hsz2 := HW2.out.2.2.2.1.size
        have hlt := HW2.out.1.1.lt
        have hpl := HW2.out.1.lt
        refine .inr ⟨rfl, wr.heap.size, wr.heap.size :: p :: F', G' ++ gOf (applyAll (loadL M) (openP M).l) (.slice ao3 q c3), rfl, ?_, fun k hk => ?_, fun k hk => ?_, ?_⟩
        · refine ⟨p, .slice ao3 q c3, q, F', G', HW2.out.1.keep tg (by simp) (by simp) (by simp), heap_alloc_new wr _, hP.turnO ((Turn.refl [] wr).alloc _) (by simp), by omega, fun hm => ?_, fun hm => ?_, fun hne a ha => ?_, rfl, rfl⟩
          · have := hlt.1 _ hm; omega
          · have := (hlt.2 _ hm).2; omega
          · have h1 := hfr hne a ha
            refine ⟨by simp; omega, by omega, fun e => h1.2.1 (by simp [e]), fun hm => h1.2.1 (by simp [hm])⟩
        · have h1 := H1.out.2.1.size
          rcases List.mem_cons.1 hk with rfl | hk
          · exact .inr (by omega)
          · rcases List.mem_cons.1 hk with rfl | hk
            · exact .inr (by have := HW2.out.2.2.2.2.1; omega)
            · exact (HW2.out.2.1 k hk).imp id (fun h => by omega)
        · have h1 := H1.out.2.1.size
          rcases List.mem_append.1 hk with hk | hk
          · exact (HW2.out.2.2.1 k hk).imp id (fun h => by omega)
          · obtain ⟨hne, hk⟩ := mem_gOf.1 hk
            exact .inr (hfr hne k hk).2.2
        · exact ((H1.out.2.1.mono (by simp)).trans HW2.out.2.2.2.1).trans (tg.mono (by simp))
end Go.Proofs.YthcdkggkoanjpaaGreatDoor
