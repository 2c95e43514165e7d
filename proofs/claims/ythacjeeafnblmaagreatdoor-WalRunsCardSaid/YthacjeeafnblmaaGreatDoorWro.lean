/- The reference's log: Open. Numbers and types by name. -/
import Derived.Test.YthacjeeafnblmaaGreatDoorWrf
import Derived.Test.YthacjeeafnblmaaGreatDoorCen
import Derived.Test.YthacjeeafnblmaaGreatDoorWft
import Derived.OwnWalk
namespace Go.Proofs.YthacjeeafnblmaaGreatDoor
open Go.RowKit Go.Lib
set_option maxRecDepth 100000

/-- What the reference's Open leaves. -/
def ROpened (w : World) (r : Nat) (F G : List Nat) (O : Opened) (e : Ending) (w' : World) : Prop :=
  (O.e ≠ 0 ∧ e = .returned (.tuple #[.pointer none, .slice none 0 0, .int .i64 O.e]) ∧ RNext w w' r O.M F G []) ∨
  (O.e = 0 ∧ ∃ p ao jn c lo hi F' G', e = .returned (.tuple #[.pointer (some ⟨p, 0, none⟩), .slice ao jn c, .int .i64 0]) ∧ RW w' r p O.M O.n false F' G' ∧ (∀ k ∈ F', k ∈ F ∨ w.heap.size ≤ k) ∧ (∀ k ∈ G', k ∈ G ∨ w.heap.size ≤ k) ∧ Turn F w w' ∧
    w.heap.size ≤ lo ∧ hi ≤ p ∧ w.heap.size ≤ p ∧ ObsB w' lo hi (.slice ao jn c) jn O.l ∧ ∀ k ∈ F', k < lo ∨ hi ≤ k)

theorem Reads.grow {w w' : World} {v : Value} {xs : List Value} {F : List Nat} (h : Reads w v xs) (t : Turn F w w') (hF : ∀ k ∈ F, ∀ a n c, v = .slice (some a) n c → k ≠ a.block) : Reads w' v xs := by
  obtain ⟨ao, c, e, h0, h1, h2⟩ := h
  refine ⟨ao, c, e, h0, h1, fun a ha j u hj => ?_⟩
  have hc := h2 a ha j u hj
  refine (World.cell?_of_block (t.block _ (World.block_lt_of_cell? w _ hc) fun hm => ?_)).trans hc
  exact hF _ hm a _ _ (by rw [e, ha]) (add_block a j)

theorem RD.next_new {w w' : World} {r : Nat} {M : MD} {F G : List Nat} (h : RD w r M F G) (t : Turn [] w w') : RNext w w' r M F G [] := (h.new t).next t.nil_any

/-- On the way: the disk, and what was told, in blocks that the disk has not. -/
def Mid (w w5 : World) (r : Nat) (M5 : MD) (F G : List Nat) (v : Value) (jn : Nat) (LL : List (List Opm)) : Prop :=
  ∃ F1 G1, RD w5 r M5 F1 G1 ∧ (∀ k ∈ F1, k ∈ F ∨ w.heap.size ≤ k) ∧ (∀ k ∈ G1, k ∈ G ∨ k ∈ ([] : List Nat) ∨ w.heap.size ≤ k) ∧ Turn F w w5 ∧ ∃ lo hi, w.heap.size ≤ lo ∧ hi ≤ w5.heap.size ∧ ObsB w5 lo hi v jn LL ∧ ∀ k ∈ F1, k < lo ∨ hi ≤ k
theorem Mid.rnext {w w5 : World} {r : Nat} {M5 : MD} {F G : List Nat} {v : Value} {jn : Nat} {LL : List (List Opm)} (h : Mid w w5 r M5 F G v jn LL) : RNext w w5 r M5 F G [] := by
  obtain ⟨F1, G1, h1, h2, h3, h4, _⟩ := h
  exact ⟨F1, G1, h1, h2, h3, h4⟩
/-- A call of the disk on the way. -/
theorem Mid.step {w w5 w6 : World} {r : Nat} {M5 M6 : MD} {F G : List Nat} {v : Value} {jn : Nat} {LL : List (List Opm)} {F1 G1 : List Nat} (h1 : RD w5 r M5 F1 G1 ∧ (∀ k ∈ F1, k ∈ F ∨ w.heap.size ≤ k) ∧ (∀ k ∈ G1, k ∈ G ∨ k ∈ ([] : List Nat) ∨ w.heap.size ≤ k) ∧ Turn F w w5 ∧ ∃ lo hi, w.heap.size ≤ lo ∧ hi ≤ w5.heap.size ∧ ObsB w5 lo hi v jn LL ∧ ∀ k ∈ F1, k < lo ∨ hi ≤ k)
    (hn : RNext w5 w6 r M6 F1 G1 []) : Mid w w6 r M6 F G v jn LL := by
  obtain ⟨h1, h2, h3, h4, lo, hi, h5, h6, h7, h8⟩ := h1
  obtain ⟨F2, G2, k1, k2, k3, k4⟩ := hn
  have hs := h4.size
  refine ⟨F2, G2, k1, fun k hk => ?_, fun k hk => ?_, h4.trans' k4 h2, lo, hi, h5, Nat.le_trans h6 k4.size, h7.turn k4 h8, fun k hk => ?_⟩
  · rcases k2 k hk with h | h
    · exact h2 k h
    · exact .inr (by omega)
  · rcases k3 k hk with h | h | h
    · exact h3 k h
    · cases h
    · exact .inr (.inr (by omega))
  · rcases k2 k hk with h | h
    · exact h8 k h
    · exact .inr (by omega)

set_option maxHeartbeats 8000000 in
theorem ref_open (r : Nat) (M : MD) (F G : List Nat) (w : World) (h : RD w r M F G) {K J j : Nat} (hw : Well K M j) (hj : j + 3 ≤ J) (hR : Room K J) :
    Calls Tryz.prog 12 #[theRef r] w (ROpened w r F G (openP M)) := by
  have HRD := ref_read r M F G logS w h (well_lim hR hw (by omega)).fs
  have HCR := fun w' (t : Turn [] w w') => ref_create r M F G logS w' (h.new t) (well_lim hR hw (by omega)) (by show 3 ≤ 1000000; omega)
  rw [logS_list] at HRD HCR
  unfold theRef logS at HRD HCR
  unfold openP
  have hbl := well_read hR hw (by omega) logK
  have hbn := mread_none (M := M) (k := logK)
  have HW := Lib.hid (And.intro hw (And.intro hj hR))
  have HWC := Lib.hid (well_create hw logK)
  obtain ⟨b, hb⟩ : ∃ b, b = (M.read logK).1 := ⟨_, rfl⟩
  obtain ⟨e0, he0⟩ : ∃ e, e = (M.read logK).2 := ⟨_, rfl⟩
  obtain ⟨k1, hk1⟩ : ∃ k, k = (M.act (opCreate logK)).1 := ⟨_, rfl⟩
  obtain ⟨M1, hM1⟩ : ∃ M', M' = (M.act (opCreate logK)).2 := ⟨_, rfl⟩
  unfold RActed at HCR
  rw [← hb] at hbl hbn
  rw [← he0] at hbn
  rw [← hM1] at HWC
  rw [← hb, ← he0] at HRD
  rw [← hk1, ← hM1] at HCR
  rw [← hb, ← he0, ← hk1, ← hM1]
  obtain ⟨O, hO⟩ : ∃ O : Opened, O = if e0 = 3 then if k1 = 0 then openQ M1 [] else ⟨k1, M1, 0, []⟩ else if e0 = 0 then openQ M b else ⟨e0, M, 0, []⟩ := ⟨_, rfl⟩
  rw [← hO]
  have HO := Lib.hid hO
  clear hO
  obtain ⟨m, hm⟩ : ∃ m, m = b.length := ⟨_, rfl⟩
  rw [← hm] at HRD
  have HBL := Lib.hid (And.intro hbl (And.intro hbn hm))
  have HCR' := Lib.hid HCR
  have H0 := Lib.hid h
  clear hb he0 hk1 hM1 hbl hbn hm h hw hj hR HCR
  unfold theRef
  go_enter Tryz.func12, Tryz.ntmps12
  go_wp2_with fail
  refine HRD.mono ?_
  rintro e w1 ⟨ao, c, rfl, hB, t⟩
  have HB1 := Lib.hid (And.intro hB t)
  clear hB t HRD
  by_cases h3 : e0 = 3
  case' pos =>
    have HO1 : Hid (O = if k1 = 0 then openQ M1 b else ⟨k1, M1, 0, []⟩) := Lib.hid (by rw [HO.out, if_pos h3, HBL.out.2.1 h3])
    subst h3
    clear HO
    have HC := HCR'.out w1 HB1.out.2
    go_wp2_with fail
    refine HC.mono ?_
    rintro e w2 ⟨k', rfl, rfl, hn⟩
    have H2 : Hid (RNext w w2 r M1 F G []) := Lib.hid (RNext.after HB1.out.2.nil_any hn)
    have HRB : Hid (Reads w2 (.slice ao m c) (bv b)) := Lib.hid (HB1.out.1.turn hn.choose_spec.choose_spec.2.2.2 fun k hk => H0.out.lt.1 k hk)
    clear hn HC HCR'
    by_cases h4 : k' = 0
    case' neg =>
      have HQ : Hid (O = ⟨k', M1, 0, []⟩) := Lib.hid (by rw [HO1.out, if_neg h4])
      clear HO1
      go_wp2_with fail
      go_ret3
      rw [HQ.out]
      exact .inl ⟨h4, rfl, H2.out⟩
    have HQ : Hid (O = openQ M1 b) := Lib.hid (by rw [HO1.out, if_pos h4])
    have HE : Hid (RNext w w2 r M1 F G []) := H2
    have HWE : Hid (Well K M1 (j + 1)) := HWC
    subst h4
    clear H2 HO1
    obtain ⟨we, rfl⟩ : ∃ we, we = w2 := ⟨_, rfl⟩
    obtain ⟨ME, rfl⟩ : ∃ ME, ME = M1 := ⟨_, rfl⟩
  case' neg =>
    by_cases h4 : e0 = 0
    case' neg =>
      have HQ : Hid (O = ⟨e0, M, 0, []⟩) := Lib.hid (by rw [HO.out, if_neg h3, if_neg h4])
      clear HO
      go_wp2_with fail
      go_ret3
      rw [HQ.out]
      exact .inl ⟨h4, rfl, H0.out.next_new HB1.out.2⟩
    have HQ : Hid (O = openQ M b) := Lib.hid (by rw [HO.out, if_neg h3, if_pos h4])
    have HE : Hid (RNext w w1 r M F G []) := Lib.hid (H0.out.next_new HB1.out.2)
    have HRB : Hid (Reads w1 (.slice ao m c) (bv b)) := Lib.hid HB1.out.1.reads
    have HWE : Hid (Well K M (j + 1)) := Lib.hid (well_more HW.out.1 (by omega))
    subst h4
    clear HO HCR' HWC
    obtain ⟨we, rfl⟩ : ∃ we, we = w1 := ⟨_, rfl⟩
    obtain ⟨ME, rfl⟩ : ∃ ME, ME = M := ⟨_, rfl⟩
  all_goals
    have HB0 := Lib.hid trivial
    clear HB1
    go_wp2_with fail
    refine (ref_scan _ m b we HRB.out HBL.out.2.2 (Lib.hid (by have := HBL.out.1; have := HBL.out.2.2; omega))).mono ?_
    rintro e w3 ⟨hb3, l, n3, al, cl, hsc, hn3, rfl, hown⟩
    have hl8 := bulk_scans' hsc
    have hsz := scans_size hsc
    have HS : Hid (scn b = l ∧ (frms l).length ≤ 7200000 ∧ l.length ≤ 900000) := Lib.hid ⟨scn_of hsc, by have := HBL.out.1; omega, by have := HBL.out.1; omega⟩
    have HG3 : Hid (Turn [] we w3 ∧ Ows w3 we.heap.size (.slice al l.length cl) l.length l) := Lib.hid ⟨turn_below hb3, hown⟩
    obtain ⟨ll, hll⟩ : ∃ ll, ll = l.length := ⟨_, rfl⟩
    rw [← hll] at HG3 HS ⊢
    have HLL := Lib.hid hll
    clear hb3 hsc hn3 hown hl8 hsz hll HRB
    go_wp2_with fail
    refine (ref_replay_from _ ll l w3 (HG3.out.2.rows (by have := HS.out.2.2; unfold maxLen; omega)) HS.out.2.2).mono ?_
    rintro e w4 ⟨hb4, LL, u, aj, jn, cj, hplay, hu, hLL, rfl, hobs⟩
    have HP : Hid (batsOf b = LL ∧ endOf b = (frms (l.take u)).length ∧ u ≤ ll) := Lib.hid ⟨by unfold batsOf; rw [HS.out.1, hplay], by unfold endOf usedOf; rw [HS.out.1, hplay], by rw [HLL.out]; exact hu⟩
    have HG4 : Hid (Turn [] w3 w4 ∧ ObsB w4 w3.heap.size w4.heap.size (.slice aj jn cj) jn LL) := Lib.hid ⟨turn_below hb4, hobs.between⟩
    have HRW : Hid (Rws w4 (.slice al ll cl) ll l) := Lib.hid ((HG3.out.2.rows (by have := HS.out.2.2; unfold maxLen; omega)).later hb4)
    clear hb4 hplay hu hLL hobs
    go_wp2_with fail
    go_loopw [11, 12] (fun nv iv wr => ∃ i : Nat, i ≤ u ∧ iv = .int .i64 i ∧ nv = .int .i64 (((frms (l.take i)).length : Nat) : Int) ∧ wr = w4) (fun _ iv _ => u - (RowKit.intOf iv).toNat)
    case atStart => exact ⟨0, Nat.zero_le _, rfl, rfl, rfl⟩
    case round =>
      obtain ⟨i, hi, rfl, rfl, rfl⟩ := hrel
      by_cases h1 : i < u
      · have h3 : (i : Int) < (u : Int) := by omega
        have x1 : (i : Int) < (ll : Int) := by have := HP.out.2.2; omega
        have hi9 : i < 900000 := Nat.lt_of_lt_of_le h1 (Nat.le_trans HP.out.2.2 HS.out.2.2)
        have e3 : wrap64 ((i : Int) + 1) = ((i + 1 : Nat) : Int) := by rw [wrap64_id _ (by omega)]; omega
        clear hi9
        obtain ⟨a, p, ap, cp, rfl, hp, hcell, _, _⟩ := HRW.out.at (k := i) (by have := HP.out.2.2; omega)
        have hnx := frms_next hp
        have htk := frms_take l (i + 1)
        have htot := HS.out.2.1
        obtain ⟨q, hq⟩ : ∃ q, q = (frms (l.take i)).length := ⟨_, rfl⟩
        obtain ⟨pl, hpl⟩ : ∃ pl, pl = p.length := ⟨_, rfl⟩
        rw [← hq, ← hpl] at hnx
        rw [← hpl] at hcell
        rw [← hq]
        have hq9 : q + 8 + pl ≤ 7200000 := by omega
        have HNX := Lib.hid hnx
        clear hp htk htot hpl hq hnx
        have e1 : wrap64 ((q : Int) + 8) = ((q + 8 : Nat) : Int) := by rw [wrap64_id _ (by omega)]; omega
        have e2 : wrap64 (((q + 8 : Nat) : Int) + (pl : Int)) = ((q + 8 + pl : Nat) : Int) := by rw [wrap64_id _ (by omega)]; omega
        have HEE := Lib.hid (And.intro e1 (And.intro e2 (And.intro e3 hq9)))
        clear e1 e2 e3 hq9
        go_wp2_with fail
        refine ⟨⟨i + 1, by omega, ?_, ?_⟩, ?_⟩
        · rw [HEE.out.2.2.1]
        · refine ⟨?_, trivial⟩
          rw [HEE.out.1, HEE.out.2.1, HNX.out]
        · rw [HEE.out.2.2.1]
          simp only [RowKit.intOf]
          omega
      · obtain rfl : i = u := by omega
        have h3 : ¬ (i : Int) < (i : Int) := by omega
        obtain ⟨q, hq⟩ : ∃ q, q = (frms (l.take i)).length := ⟨_, rfl⟩
        have HEND : Hid (endOf b = q ∧ batsOf b = LL) := Lib.hid ⟨by rw [HP.out.2.1, hq], HP.out.1⟩
        rw [← hq]
        obtain ⟨F1, G1, hRD, hf, hg, ht⟩ := HE.out
        have t4 := HG3.out.1.trans HG4.out.1
        have HD4 : Hid (RNext w wr r ME F G []) := Lib.hid ⟨F1, G1, hRD.new t4, hf, hg, ht.trans t4.nil_any⟩
        have hlow : ∀ k ∈ F1, k < w3.heap.size := fun k hk => Nat.lt_of_lt_of_le (hRD.lt.1 k hk) HG3.out.1.size
        have HOB : Hid (Mid w wr r ME F G (.slice aj jn cj) jn LL) :=
          Lib.hid ⟨F1, G1, hRD.new t4, hf, hg, ht.trans t4.nil_any, w3.heap.size, wr.heap.size, Nat.le_trans ht.size HG3.out.1.size, Nat.le_refl _, HG4.out.2, fun k hk => .inl (hlow k hk)⟩
        clear hq hRD hf hg ht t4 hlow HG3 HG4 HRW HP HE HD4
        by_cases hqm : q < m
        case' pos =>
          have h5 : (q : Int) < (m : Int) := by omega
          obtain ⟨F1, G1, hmid⟩ := HOB.out
          have HC := ref_cut r ME F1 G1 logS q wr hmid.1 (well_lim HW.out.2.2 HWE.out (by have := HW.out.2.1; omega))
          rw [logS_list] at HC
          unfold theRef logS RActed at HC
          have HQ1 : Hid (O = if (ME.act (opCut logK q)).1 = 0 then openR (ME.act (opCut logK q)).2 b else ⟨(ME.act (opCut logK q)).1, (ME.act (opCut logK q)).2, 0, []⟩) := Lib.hid (by rw [HQ.out]; unfold openQ; rw [HEND.out.1, if_pos (by rw [← HBL.out.2.2]; exact hqm)])
          have HW2 := Lib.hid (well_cut HWE.out logK q)
          obtain ⟨k2, hk2⟩ : ∃ k, k = (ME.act (opCut logK q)).1 := ⟨_, rfl⟩
          obtain ⟨M2, hM2⟩ : ∃ M', M' = (ME.act (opCut logK q)).2 := ⟨_, rfl⟩
          rw [← hk2, ← hM2] at HC HQ1
          rw [← hM2] at HW2
          have HOB1 := Lib.hid hmid
          clear hmid hk2 hM2 HOB HQ
          go_wp2_with fail
          refine HC.mono ?_
          rintro e w5 ⟨k', rfl, rfl, hn⟩
          have HOB := Lib.hid (Mid.step HOB1.out hn)
          clear HOB1 hn HC
          by_cases h4 : k' = 0
          case' neg =>
            have HQ : Hid (O = ⟨k', M2, 0, []⟩) := Lib.hid (by rw [HQ1.out, if_neg h4])
            clear HQ1
            go_wp2_with fail
            go_ret3
            rw [HQ.out]
            exact .inl ⟨h4, rfl, HOB.out.rnext⟩
          have HQ : Hid (O = openR M2 b) := Lib.hid (by rw [HQ1.out, if_pos h4])
          subst h4
          clear HWE HQ1
          have HWE : Hid (Well K M2 (j + 2)) := HW2
          obtain ⟨wf, rfl⟩ : ∃ wf, wf = w5 := ⟨_, rfl⟩
          obtain ⟨MF, rfl⟩ : ∃ MF, MF = M2 := ⟨_, rfl⟩
        case' neg =>
          have h5 : ¬ (q : Int) < (m : Int) := by omega
          have HQ' : Hid (O = openR ME b) := Lib.hid (by rw [HQ.out]; unfold openQ; rw [HEND.out.1, if_neg (by rw [← HBL.out.2.2]; exact hqm)])
          clear HQ
          have HQ := HQ'
          have HWE' : Hid (Well K ME (j + 2)) := Lib.hid (well_more HWE.out (by omega))
          clear HWE HQ'
          have HWE := HWE'
          obtain ⟨wf, rfl⟩ : ∃ wf, wf = wr := ⟨_, rfl⟩
          obtain ⟨MF, rfl⟩ : ∃ MF, MF = ME := ⟨_, rfl⟩
        all_goals
          have HL := well_lim HW.out.2.2 HWE.out (by have := HW.out.2.1; omega)
          obtain ⟨F1, G1, hmid⟩ := HOB.out
          have HC := ref_sync r MF F1 G1 logS wf hmid.1 HL
          rw [logS_list] at HC
          unfold theRef logS RActed at HC
          have HQ1 : Hid (O = if (MF.act (opSync logK)).1 = 0 then ⟨0, (MF.act (opSync logK)).2, q, LL⟩ else ⟨(MF.act (opSync logK)).1, (MF.act (opSync logK)).2, 0, []⟩) := Lib.hid (by rw [HQ.out]; unfold openR; rw [HEND.out.1, HEND.out.2])
          obtain ⟨k2, hk2⟩ : ∃ k, k = (MF.act (opSync logK)).1 := ⟨_, rfl⟩
          obtain ⟨M2, hM2⟩ : ∃ M', M' = (MF.act (opSync logK)).2 := ⟨_, rfl⟩
          rw [← hk2, ← hM2] at HC HQ1
          have HOB1 := Lib.hid hmid
          clear hmid hk2 hM2 HOB HQ HL HWE HW HBL
          go_wp2_with fail
          refine HC.mono ?_
          rintro e w5 ⟨k', rfl, rfl, hn⟩
          have HOB := Lib.hid (Mid.step HOB1.out hn)
          clear HOB1 hn HC
          by_cases h4 : k' = 0
          case' neg =>
            have HQ : Hid (O = ⟨k', M2, 0, []⟩) := Lib.hid (by rw [HQ1.out, if_neg h4])
            clear HQ1
            go_wp2_with fail
            go_ret3
            rw [HQ.out]
            exact .inl ⟨h4, rfl, HOB.out.rnext⟩
          have HQ : Hid (O = ⟨0, M2, q, LL⟩) := Lib.hid (by rw [HQ1.out, if_pos h4])
          subst h4
          clear HQ1
          go_wp2_with fail
          go_ret3
          rw [HQ.out]
          refine .inr ⟨rfl, ?_⟩
          obtain ⟨F2, G2, k1, k2, k3, k4, lo, hi, l1, l2, l3, l4⟩ := HOB.out
          have ta : Turn [] w5 (w5.alloc (wob 47 (theRef r) q false)) := (Turn.refl [] w5).alloc _
          refine ⟨w5.heap.size, aj, jn, cj, lo, hi, F2, G2, rfl, ⟨k1.new ta, fun hm => ?_, fun hm => ?_, heap_alloc_new w5 _⟩, k2, fun k hk => ?_, k4.trans ta.nil_any, l1, l2, k4.size, l3.turn ta (by simp), l4⟩
          · have := k1.lt.1 _ hm; omega
          · have := (k1.lt.2 _ hm).2; omega
          · rcases k3 k hk with h | h | h
            · exact .inl h
            · cases h
            · exact .inr h

end Go.Proofs.YthacjeeafnblmaaGreatDoor
