/- StoreOld, walked over what is asked of the code's store. Numbers and types by name. -/
import Derived.Test.YthcdkggkoanjpaaGreatDoorSrf
namespace Go.Proofs.YthcdkggkoanjpaaGreatDoor
open Go.RowKit Go.Lib
set_option maxRecDepth 100000
theorem well_wide {M : MD} {j : Nat} (h : Well 440000 M j) : Well 1320000 M j :=
  ⟨⟨h.held.n, Nat.le_trans h.held.tot (Nat.mul_le_mul_left j (by decide)), h.held.len, h.held.fail, h.held.keep, h.held.cap⟩, h.up⟩
theorem room10w : RoomW 1320000 660 := ⟨by decide, by decide⟩
theorem old_plain {k : Nat} {M : MD} {n : Nat} {L S : List Prm} {B : List (List Opm)} {O : List Opm} (h : PS k M n false L S B O []) (hs : Still8 M) (hk : k ≤ 41) (hc : M.cap = 1073741824) :
    M.read logK = (EB B, 0) ∧ (EB B).length ≤ 1320000 ∧ OFit 1320000 660 400 ((checkS M n false L).M.act (opAppend logK (EB B))).2 ∧ (openS ((checkS M n false L).M.act (opAppend logK (EB B))).2).e = 0 ∧ (openS ((checkS M n false L).M.act (opAppend logK (EB B))).2).L = L := by
  obtain ⟨g1, g2, g3, g4, g5, g6, g7, g8, sy1, g9⟩ := few_check h hs (by omega) hc
  have hsn := check_snap h.sk g1
  have hRL := h.sk.rise
  have hag : applyAll L B = L := by rw [h.sk.L, applyAll_again h.sk.dk.rise]
  obtain ⟨sy, i1, _, _⟩ := h.sk.is
  rw [List.append_nil] at i1
  have hEB : (EB B).length ≤ 1320000 := by have := EB_len h.sk.dk.sm; have := h.b; omega
  have hsl : Slim L := h.ml.slim (by omega)
  obtain ⟨b1, b2⟩ := bats_full h.sk.dk.sm
  generalize (checkS M n false L).M = M1 at *
  have ha := g3.act (opAppend logK (EB B))
  have hw2 : Well 1320000 (M1.act (opAppend logK (EB B))).2 400 := well_more (well_act (well_wide g6.well) (adds_append _ _ _ hEB) (keeps_append _ _)) (by omega)
  have hsn2 : Sure (M1.act (opAppend logK (EB B))).2.fs snapK (bytesT L) := (act_spares (spares_logA (EB B)) g6.well.up).trans hsn
  have htot := g6.well.held.tot
  have hi2 : logIs (M1.act (opAppend logK (EB B))).2.fs (EB B) sy1 := by
    rw [ha]
    rcases append_is g9 (EB B) M1.cap with ⟨_, _, h3⟩ | ⟨_, h2, _⟩
    · rw [g4] at h3; omega
    · exact h2
  have hst2 : Still8 (M1.act (opAppend logK (EB B))).2 := by rw [ha]; exact g3.next _
  generalize (M1.act (opAppend logK (EB B))).2 = M2 at *
  obtain ⟨l1, l2⟩ := load_savedS hRL hsl hst2.dw hsn2
  have hrd := read_is hst2.dw hi2
  have hop : openP M2 = openR M2 (EB B) := by
    unfold openP
    rw [hrd, if_neg (by show ¬ (0 : Int) = 3; decide), if_pos rfl]
    unfold openQ
    rw [if_neg (by rw [b2]; exact Nat.lt_irrefl _)]
  obtain ⟨r1, _, _⟩ := calm_openR (b := EB B) hst2 hi2
  have hl : (openP M2).l = B := by
    rw [hop]
    unfold openR at r1 ⊢
    by_cases h0 : (M2.act (opSync logK)).1 = 0
    · rw [if_pos h0]; exact b1
    · rw [if_neg h0] at r1; exact absurd r1 h0
  have he : (openP M2).e = 0 := by rw [hop]; exact r1
  have hbB := bulkO_flat h.sk.dk.sm
  refine ⟨read_is hs.dw i1, hEB, ⟨hw2, by decide, room10w, by rw [hrd]; show (EB B).length ≤ _; omega, ?_, ?_, ?_, by rw [l1]; exact hRL⟩, ?_, ?_⟩
  · unfold loadP MD.read
    rw [if_neg (by simp [hst2.dw]), hsn2]
    have := bytesT_slim hsl
    show (bytesT L).length ≤ _
    omega
  · rw [l1, hl]
    have := h.ml.bulk
    have := h.b
    omega
  · rw [hl]
    intro X hX
    exact Nat.le_trans (bulkO_length X) (h.sk.dk.sm X hX).1
  · rw [openS_ok l2 he]
  · rw [openS_ok l2 he]
    show applyAll (loadL M2) (openP M2).l = L
    rw [l1, hl, hag]
def OldA (C : SP) (w0 wr : World) (base b x : Nat) (most : Int) (k : Nat) (vb : Value) (L : List Prm) (F : List Nat) : Prop :=
  ∃ M n S B O, PS k M n false L S B O [] ∧ Still8 M ∧ M.cap = 1073741824 ∧ Sess C w0 wr base b x M n false L most F ∧ Reads wr vb (bv (EB B)) ∧ (∀ a, vb.ownBlock = some a → a < wr.heap.size ∧ a ∉ F)
theorem reads_step {w w' : World} {F : List Nat} {vb : Value} {xs : List Value} (h : Reads w vb xs) (hF : ∀ a, vb.ownBlock = some a → a < w.heap.size ∧ a ∉ F) (t : Turn F w w') {F' : List Nat} (f : ∀ k ∈ F', k ∈ F ∨ w.heap.size ≤ k) :
    Reads w' vb xs ∧ (∀ a, vb.ownBlock = some a → a < w'.heap.size ∧ a ∉ F') := by
  refine ⟨h.turn t fun _ a n c e => (hF a.block (by rw [e]; rfl)).2, fun a ha => ⟨Nat.lt_of_lt_of_le (hF a ha).1 t.size, fun hm => ?_⟩⟩
  rcases f a hm with h1 | h1
  · exact (hF a ha).2 h1
  · have := (hF a ha).1
    omega
theorem old_read {C : SP} {I : SI} (K : StK C I) {w0 w : World} {base b x : Nat} {most : Int} {kS k : Nat} {L : List Prm} {F : List Nat} (h : CF C w0 w base b x most kS k L F) (hk : k ≤ 41) :
    Calls Tryz.prog 32 #[theDisk b, .string ⟨#[108, 111, 103]⟩] w fun e w' => ∃ ao n c, e = .returned (.tuple #[.slice ao n c, .int .i64 0]) ∧ OldA C w0 w' base b x most k (.slice ao n c) L F := by
  obtain ⟨M, n, S, B, O, h1, h2, h3, h4, h5, h6⟩ := h
  obtain ⟨Fd, Fi, k1, _⟩ := h6.parts K
  obtain ⟨p1, _⟩ := old_plain h1 h2 hk h3
  refine (read_cd base b M Fd ⟨#[108, 111, 103]⟩ w k1.1 (well_limW room10 h1.well (by omega)).fs (by decide)).mono ?_
  rintro e w' ⟨ao, c, rfl, hb, t⟩
  have e1 : M.read (ByteArray.mk #[108, 111, 103]).data.toList = (EB B, 0) := p1
  rw [e1] at hb ⊢
  refine ⟨ao, _, c, rfl, M, n, S, B, O, h1, h2, h3, h6.new K t, hb.reads, fun a ha => ?_⟩
  have hl := hb.2.lt a ha
  exact ⟨hl.2, fun hm => by have := (K.lt h6.1 a hm).2; have := hl.1; omega⟩
theorem old_all {C : SP} {I : SI} (K : StK C I) {w0 w : World} {base b x : Nat} {most : Int} {k : Nat} {vb : Value} {L : List Prm} {F : List Nat} (h : OldA C w0 w base b x most k vb L F) (hk : k ≤ 41) :
    Calls Tryz.prog 26 #[theSt x] w fun e w' => ∃ ao q c, e = .returned (.slice ao q c) ∧ OldA C w0 w' base b x most k vb L F ∧ PRow w' F (.slice ao q c) q L := by
  obtain ⟨M, n, S, B, O, h1, h2, h3, h6, h7, h8⟩ := h
  obtain ⟨_, Fi, _, k2, _⟩ := h6.parts K
  refine (K.iall2 k2 (h1.ml.slim (by omega))).mono ?_
  rintro e w' ⟨ao, q, c, rfl, hp, hf, t⟩
  obtain ⟨r1, r2⟩ := reads_step (F := F) h7 h8 (t.mono (by simp)) (F' := F) (fun k hk => .inl hk)
  exact ⟨ao, q, c, rfl, ⟨M, n, S, B, O, h1, h2, h3, h6.new K t, r1, r2⟩, PRow.fresh (w := w) hp hf (fun k hk => (K.lt h6.1 k hk).2)⟩
def OldC (w0 wr : World) (base b : Nat) (vb : Value) (mv : Value) (mq : Nat) : Prop :=
  ∃ M1 L x F, SesD w0 wr base b M1 F ∧ Lim M1 ∧ x.length ≤ 1320000 ∧ OFit 1320000 660 400 (M1.act (opAppend logK x)).2 ∧ (openS (M1.act (opAppend logK x)).2).e = 0 ∧ (openS (M1.act (opAppend logK x)).2).L = L ∧ Slim L ∧ PRow wr F mv mq L ∧
    Reads wr vb (bv x) ∧ ∀ a, vb.ownBlock = some a → a < wr.heap.size ∧ a ∉ F
theorem old_check {C : SP} {I : SI} (K : StK C I) {w0 w : World} {base b x : Nat} {most : Int} {k : Nat} {vb : Value} {L : List Prm} {F : List Nat} {mv : Value} {mq : Nat} (h : OldA C w0 w base b x most k vb L F) (hm : PRow w F mv mq L) (hk : k ≤ 41) :
    Calls Tryz.prog 20 #[theSt x] w (Left fun _ w' => OldC w0 w' base b vb mv mq) := by
  obtain ⟨M, n, S, B, O, h1, h2, h3, h6, h7, h8⟩ := h
  obtain ⟨p1, p2, p3, p4, p5⟩ := old_plain h1 h2 hk h3
  obtain ⟨g1, g2, g3, g4, g5, g6, _⟩ := few_check h1 h2 (by omega) h3
  refine (sess_check K h6 (h1.ml.slim (by omega)) h1.well (by omega) room10 (h1.ml.bytes (by omega))).mono ?_
  rintro e w' ⟨k4, rfl, hk4, F4, hs4, f4, t4⟩
  obtain ⟨Fd, Fi, k1, _, k3, _⟩ := hs4.parts K
  have f : ∀ q ∈ Fd, q ∈ F ∨ w.heap.size ≤ q := fun q hq => f4 q (k3 q hq).1
  obtain ⟨r1, r2⟩ := reads_step h7 h8 t4 f
  exact ⟨k4, rfl, _, L, EB B, Fd, k1, well_limW room10 g6.well (by omega), p2, p3, p4, p5, h1.ml.slim (by omega), hm.step t4 f, r1, r2⟩
theorem old_append {w0 w : World} {base b : Nat} {vb mv : Value} {mq : Nat} (h : OldC w0 w base b vb mv mq) :
    Calls Tryz.prog 33 #[theDisk b, .string ⟨#[108, 111, 103]⟩, vb] w (Left fun _ w' => Rdy w0 w' base b mv mq) := by
  obtain ⟨M1, L, x, F, hd, hl, hx, o1, o2, o3, hs, hm, r1, r2⟩ := h
  refine (append_cd base b M1 F ⟨#[108, 111, 103]⟩ vb x w hd.1 hl (by decide) r1 (by omega) (fun _ a n c e => (r2 a.block (by rw [e]; rfl)).2)).mono ?_
  rintro e w' ⟨k4, rfl, _, hn⟩
  have hn' : Next w w' base b (M1.act (opAppend logK x)).2 F := hn
  obtain ⟨F', d1, d2, d3⟩ := hd.next hn'
  exact ⟨k4, rfl, _, L, F', _, _, _, d1, o1, o2, o3, hs, hm.step d3 d2⟩
set_option maxHeartbeats 8000000 in
theorem old_store {C : SP} {I : SI} (K : StK C I) (v1 : Value) (n1 : Nat) (LL : List (List Opm)) (w : World) (h1 : Obs w v1 n1 LL) (ht : Tab w) :
    Calls Tryz.prog 10 #[v1] w fun e w' => e = .returned (.bool true) ∧ Below w.heap.size w w' := by
  obtain ⟨a1, c1, rfl⟩ := h1.shape
  have hn1 := h1.2.1
  unfold maxLen at hn1
  have H1 := Lib.hid h1
  have HT := Lib.hid ht
  have HK := Lib.hid K
  have hC := heavy_wal (.slice a1 n1 c1) n1 LL none ⟨0, 0, none⟩ 0 0 (fun _ => ⟨0, none, 0, [], 0, false, none, 0, []⟩) w h1 ⟨.inr ⟨rfl, rfl⟩, Nat.zero_le _, fun i hi => absurd hi (Nat.not_lt_zero _)⟩
  clear h1 ht K
  go_enter Tryz.func10, Tryz.ntmps10
  go_wp2_with fail
  refine hC.mono ?_
  rintro e w2 ⟨g, q, rfl, hw1, hb⟩
  have B2 : Hid (Grow w w2) := Lib.hid (show Grow w w2 by rw [hw1]; exact below_drewN (Below.refl _ w) q)
  clear hC hw1
  cases g with
  | true =>
    clear hb
    go_wp2_with (go_at_call 12; refine (awake_store HK.out _ (HT.out.later B2.out)).mono ?_; rintro e w' ⟨rfl, hb9⟩)
    go_ret
    exact ⟨rfl, B2.out.trans hb9⟩
  | false =>
  have HL := Lib.hid (hb rfl)
  clear hb
  have N0 := new_cd 1073741824 0 false (.slice none 0 0) (.slice none 0 0) [] [] w2 (Reads.nil w2) (Reads.nil w2) (by simp) (by simp)
  have HN := Lib.hid (ps_new 1073741824 (by decide))
  obtain ⟨M0, e0⟩ : ∃ M, M = MD.new 1073741824 0 false [] [] := ⟨_, rfl⟩
  rw [← e0] at N0 HN
  clear e0
  go_wp2_with fail
  refine N0.mono ?_
  rintro e w3 ⟨b, F2, rfl, hc2, t2⟩
  have hs2 : SesD w w3 w2.heap.size b M0 F2 := ⟨hc2, B2.out.trans (tg9 t2), B2.out.size⟩
  obtain ⟨base, hbase⟩ : ∃ n, n = w2.heap.size := ⟨_, rfl⟩
  rw [← hbase] at hs2
  have O2 := sess_open HK.out 1073741824 hs2 HT.out HN.out.2.2.2.2.2 HN.out.1
  unfold theDisk theSt at O2
  unfold theDisk
  clear hc2 t2 hs2 N0 hbase
  go_wp2_with fail
  refine O2.mono ?_
  rintro e w4 ⟨x, rfl, F3, hs3, k3, t3⟩
  have H3 : Hid (∃ L F, CF C w w4 base b x (max 1073741824 0) 0 0 L F) := Lib.hid (by
    rw [HN.out.2.2.2.1] at hs3
    exact ⟨[], F3, _, _, [], [], [], HN.out.2.2.2.2.1, HN.out.2.1, HN.out.2.2.1, Meas.nil, Int.le_max_left _ _, hs3⟩)
  clear hs3 k3 t3 O2 HN
  obtain ⟨most, hmo⟩ : ∃ m, m = max (1073741824 : Int) 0 := ⟨_, rfl⟩
  rw [← hmo] at H3
  clear hmo
  go_wp2_with (go_at_call 17; refine (num_at _ _).mono ?_; rintro e w' ⟨rfl, rfl⟩)
  go_loopw [6] (fun iv wr => ∃ k : Nat, k ≤ n1 ∧ iv = .int .i64 k ∧ Hid (∃ L F, CF C w wr base b x most 0 k L F))
    (fun i _ => n1 - (RowKit.intOf i).toNat)
  case atStart => exact ⟨0, Nat.zero_le _, rfl, H3⟩
  case round =>
    clear H3
    obtain ⟨k, hk, rfl, hC⟩ := hrel
    by_cases hlt : k < n1
    · have h3 : (k : Int) < (n1 : Int) := by omega
      obtain ⟨a, X, ap, cp, rfl, hX, cx, hr⟩ := H1.out.at hlt
      have hm : mild X := HL.out.2.2.1 k X hX
      have hk80 : k ≤ 80 := by have := HL.out.1; omega
      obtain ⟨L, F, hcf⟩ := hC.out
      have CM := cf_commit0 HK.out hcf hk80 HT.out (vo := .slice ap X.length cp) hr hm
      have cx' : wr.cell? (a.add k) = some (.slice ap X.length cp) := grow_cell hcf.grow cx
      unfold theSt at CM
      clear cx hr hm hX hk80 hcf hC
      go_wp2_with fail
      refine CM.mono ?_
      rintro e w4 ⟨k4, rfl, h4⟩
      have H4 := Lib.hid h4
      clear h4 CM cx'
      go_wp2_with fail
      exact ⟨⟨k + 1, by omega, by go_num, H4⟩, by simp [RowKit.intOf]; omega⟩
    · have h3 : ¬ (k : Int) < (n1 : Int) := by omega
      obtain rfl : k = n1 := by omega
      have HN : Hid (k ≤ 40) := Lib.hid HL.out.1
      obtain ⟨L, F, hcf⟩ := hC.out
      have RL := old_read HK.out hcf (by have := HN.out; omega)
      unfold theDisk at RL
      clear hcf hC
      go_wp2_with fail
      refine RL.mono ?_
      rintro e w5 ⟨a5, n5, c5, rfl, h5⟩
      have AL := old_all HK.out h5 (by have := HN.out; omega)
      unfold theSt at AL
      clear h5 RL
      go_wp2_with fail
      refine AL.mono ?_
      rintro e w6 ⟨a6, q6, c6, rfl, h6, hp6⟩
      have CK := old_check HK.out h6 hp6 (by have := HN.out; omega)
      unfold theSt at CK
      clear h6 hp6 AL
      go_wp2_with fail
      refine CK.mono ?_
      rintro e w7 ⟨k7, rfl, h7⟩
      have AP := old_append h7
      unfold theDisk at AP
      clear h7 CK
      go_wp2_with fail
      refine AP.mono ?_
      rintro e w8 ⟨k8, rfl, h8⟩
      have O4 := rdy_open HK.out h8 HT.out 1073741824
      unfold theDisk theSt at O4
      clear h8 AP
      go_wp2_with fail
      refine O4.mono ?_
      rintro e w9 ⟨y, rfl, h9⟩
      have PA := opd_all HK.out h9
      unfold theSt at PA
      clear h9 O4
      go_wp2_with (first | (go_at_call 17; refine (num_at _ _).mono ?_; rintro e w' ⟨rfl, rfl⟩) | (go_at_call 26; refine PA.mono ?_; rintro e wa ⟨a8, q8, c8, rfl, PP⟩) | (go_at_call 25; refine PP.mono ?_; rintro e wb ⟨rfl, hb9⟩; have H9 := Lib.hid hb9; clear hb9) | (go_at_call 12; refine (awake_store HK.out _ (HT.out.later H9.out)).mono ?_; rintro e w' ⟨rfl, hb9⟩))
      go_ret
      exact ⟨rfl, H9.out.trans hb9⟩
end Go.Proofs.YthcdkggkoanjpaaGreatDoor
