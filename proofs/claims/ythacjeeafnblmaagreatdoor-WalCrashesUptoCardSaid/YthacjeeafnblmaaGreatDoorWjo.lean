/- WalOpens, walked. Numbers and types by name. -/
import Derived.Test.YthacjeeafnblmaaGreatDoorObt
import Derived.Test.YthacjeeafnblmaaGreatDoorWjk
import Derived.Test.YthacjeeafnblmaaGreatDoorDig
import Derived.Test.YthacjeeafnblmaaGreatDoorMag
namespace Go.Proofs.YthacjeeafnblmaaGreatDoor
open Go.RowKit Go.Lib
set_option maxRecDepth 100000

/-- Ops of any list of a bulk that may be too long for one record. -/
theorem ref_ops_all (v : Value) (n : Nat) (L : List Opm) (w : World) (hr : Opr w v n L) (hb : bulkO L ≤ 1200000) :
    Calls Tryz.prog 25 #[v] w fun e w' => ∃ ao m c z, e = .returned (.tuple #[.slice ao m c, .int .i64 z]) ∧ (z = 0 → okOps L = true ∧ Bs w' w.heap.size (.slice ao m c) m (frms (recs L))) ∧ Below w.heap.size w w' := by
  cases hok : okOps L with
  | true =>
    refine (ref_ops_upto v n L w hr hok hb).mono ?_
    rintro e w' ⟨ao, m, c, z, rfl, h1, _, h3⟩
    exact ⟨ao, m, c, z, rfl, fun h => ⟨rfl, h1 h⟩, h3⟩
  | false =>
    refine (ref_ops_bad v n L w hr hok).mono ?_
    rintro e w' ⟨rfl, rfl⟩
    exact ⟨none, 0, 0, 1, rfl, (fun h => by cases h), Below.refl _ _⟩

theorem sold_create {X : Nat → Prop} {w : World} {base b : Nat} {M : MD} (h : SolD X w base b M) (hl : Lim M) :
    Calls Tryz.prog 28 #[theDisk b, .string logS] w fun e w' => (∃ k, e = .returned (.int .i64 k)) ∧ SolD X w' base b (M.act (opCreate logK)).2 ∧ Stays X w w' := by
  obtain ⟨h1, F, h2, h3⟩ := h
  have HC := create_cd base b M F logS w h2 hl (by decide)
  rw [logS_list] at HC
  refine HC.mono ?_
  rintro e w' ⟨k, rfl, _, hn⟩
  exact ⟨⟨k, rfl⟩, SolD.next h1 h3 hn⟩
theorem sold_append {X : Nat → Prop} {w : World} {base b : Nat} {M : MD} (h : SolD X w base b M) (hl : Lim M) {v : Value} {l : List UInt8} (hr : Reads w v (bv l)) (hll : l.length ≤ 50000000) (hX : l ≠ [] → ∀ a n c, v = .slice (some a) n c → X a.block) :
    Calls Tryz.prog 29 #[theDisk b, .string logS, v] w fun e w' => (∃ k, e = .returned (.int .i64 k)) ∧ SolD X w' base b (M.act (opAppend logK l)).2 ∧ Stays X w w' := by
  obtain ⟨h1, F, h2, h3⟩ := h
  have HC := append_cd base b M F logS v l w h2 hl (by decide) hr hll (fun hne a n c e hm => h3 _ hm (hX hne a n c e))
  rw [logS_list] at HC
  refine HC.mono ?_
  rintro e w' ⟨k, rfl, _, hn⟩
  exact ⟨⟨k, rfl⟩, SolD.next h1 h3 hn⟩

theorem Stays.of_below {n : Nat} {a b : World} (h : Below n a b) : Stays (· < n) a b := ⟨⟨h.os, h.tape, h.output, h.size, fun _ hq => absurd hq (Nat.not_lt_zero _)⟩, fun q hq => h.block q hq⟩
/-- The list of two lists that a law makes. -/
theorem two_ops {w : World} {a1 a2 : Option Addr} {n m c1 c2 : Nat} {A B : List Opm} (h1 : Opr w (.slice a1 n c1) n A) (h2 : Opr w (.slice a2 m c2) m B) :
    Obs (w.alloc (.cells [Value.slice a1 n c1, .slice a2 m c2].toArray 49 (0, 0))) (.slice (some ⟨w.heap.size, 0, none⟩) 2 2) 2 [A, B] := by
  have hg : Grow w (w.alloc (.cells [Value.slice a1 n c1, .slice a2 m c2].toArray 49 (0, 0))) := (Below.refl _ w).alloc (Nat.le_refl _) _
  have h0 : OpVals w [] [] := ⟨rfl, fun j p h => by cases h⟩
  exact ⟨rfl, by unfold maxLen; decide, [Value.slice a1 n c1, .slice a2 m c2], Reads.lit w _ _ _ 2 rfl, rfl, ((h0.snoc h1).snoc h2).later hg⟩

/-- What is known when the disk is made: the bytes y, and the batches that are told of them. -/
structure JunkAt (w wN : World) (y : List UInt8) (ay : Option Addr) (ny cy : Nat) (aj : Option Addr) (cj b6 : Nat) (A : List Opm) : Prop where
  g : Grow w wN
  r : Reads wN (.slice ay ny cy) (bv y)
  n : ny = y.length
  b : batsOf y = [A]
  e : endOf y = (frms (recs A)).length
  t : y.take (frms (recs A)).length = frms (recs A)
  lo : w.heap.size ≤ b6
  hi : b6 ≤ wN.heap.size
  l : ∃ vs, wN.ownsRow b6 49 1 (.slice aj 1 cj) 1 vs ∧ OpVals wN vs [A] ∧ ∀ u ∈ vs, ∀ a n c, u = .slice (some a) n c → a.block < wN.heap.size ∧ some a.block ≠ (Value.slice aj 1 cj).ownBlock

theorem one_sl9 {a : Option Addr} {n c : Nat} : ∀ u ∈ [Value.slice a n c], u.oneCell' = true := fun u hu => by rw [List.mem_singleton.1 hu]; rfl

set_option maxHeartbeats 8000000 in
theorem opens_law (v1 v2 : Value) (n m : Nat) (A B : List Opm) (v3 : Value) (J : List UInt8) (w : World) (h1 : Opr w v1 n A) (h2 : Opr w v2 m B) (h3 : Reads w v3 (bv J)) (h3l : J.length ≤ maxLen) (hbA : bulkO A ≤ 1200000) (hbB : bulkO B ≤ 1200000) (ht : Tab w) :
    Calls Tryz.prog 5 #[v1, v2, v3] w fun e w' => e = .returned (.bool true) ∧ Below w.heap.size w w' := by
  obtain ⟨a1, c1, rfl⟩ := h1.shape
  obtain ⟨a2, c2, rfl⟩ := h2.shape
  obtain ⟨nJ, hnJ⟩ : ∃ nJ, nJ = J.length := ⟨_, rfl⟩
  obtain ⟨a3, c3, rfl⟩ : ∃ ao c, v3 = .slice ao nJ c := by obtain ⟨ao, c, rfl, _⟩ := h3; exact ⟨ao, c, by rw [bv_length, hnJ]⟩
  rw [← hnJ] at h3l
  have hm3 : nJ ≤ 9223372036854775807 := by unfold maxLen at h3l; omega
  have H1 := Lib.hid h1
  have H2 := Lib.hid h2
  have H3 := Lib.hid (And.intro h3 hnJ)
  have HTB := Lib.hid ht
  have O1 := ref_ops_all _ n A w h1 hbA
  have O2 := Lib.hid (fun (w' : World) (hg : Grow w w') => ref_ops_all _ m B w' (h2.later hg) hbB)
  clear h1 h2 h3 ht hnJ h3l hbA hbB
  go_enter Tryz.func5, Tryz.ntmps5
  go_wp2_with fail
  refine O1.mono ?_
  rintro e w1 ⟨ax, mx, cx, z1, rfl, hz1, hb1⟩
  have G1 : Hid (Grow w w1) := Lib.hid hb1
  have HZ1 := Lib.hid hz1
  have C2 := O2.out w1 hb1
  clear hz1 hb1 O1 O2
  go_wp2_with fail
  refine C2.mono ?_
  rintro e w2 ⟨ay0, my0, cy0, z2, rfl, hz2, hb2⟩
  have G2 : Hid (Grow w w2) := Lib.hid (G1.out.trans hb2)
  have HX : Hid (z1 = 0 → okOps A = true ∧ mx = (frms (recs A)).length ∧ Reads w2 (.slice ax mx cx) (bv (frms (recs A)))) := Lib.hid fun h => ⟨(HZ1.out h).1, (HZ1.out h).2.1, (HZ1.out h).2.reads.later hb2⟩
  have HY : Hid (z2 = 0 → okOps B = true) := Lib.hid fun h => (hz2 h).1
  clear hz2 hb2 C2 HZ1 G1
  have hC := heavy_wal (.slice (some ⟨w2.heap.size, 0, none⟩) 2 2) 2 [A, B] none ⟨0, 0, none⟩ 0 0 (fun _ => ⟨0, none, 0, [], 0, false, none, 0, []⟩) _ (two_ops (H1.out.later G2.out) (H2.out.later G2.out)) ⟨.inr ⟨rfl, rfl⟩, Nat.zero_le _, fun i hi => absurd hi (Nat.not_lt_zero _)⟩
  go_wp2_with fail
  refine hC.mono ?_
  rintro e w3 ⟨g, q, rfl, hw3, hb⟩
  have G3 : Hid (Grow w2 w3) := Lib.hid (by rw [hw3]; exact below_drewN ((Below.refl _ w2).alloc (Nat.le_refl _) _) q)
  clear hC hw3
  cases g with
  | true =>
    clear hb
    go_wp2_with (go_at_call 8; refine (awake_wal _ (HTB.out.later (G2.out.trans G3.out))).mono ?_; rintro e w' ⟨rfl, hb9⟩)
    go_ret
    exact ⟨rfl, (G2.out.trans G3.out).trans hb9⟩
  | false =>
  have HL := Lib.hid (hb rfl)
  clear hb
  by_cases x1 : z1 = 0
  case neg =>
    go_wp2_with (go_at_call 8; refine (awake_wal _ (HTB.out.later (G2.out.trans G3.out))).mono ?_; rintro e w' ⟨rfl, hb9⟩)
    go_ret
    exact ⟨rfl, (G2.out.trans G3.out).trans hb9⟩
  by_cases x2 : z2 = 0
  case neg =>
    go_wp2_with (go_at_call 8; refine (awake_wal _ (HTB.out.later (G2.out.trans G3.out))).mono ?_; rintro e w' ⟨rfl, hb9⟩)
    go_ret
    exact ⟨rfl, (G2.out.trans G3.out).trans hb9⟩
  by_cases x3 : 200 < nJ
  · have y3 : (200 : Int) < (nJ : Int) := by omega
    go_wp2_with (go_at_call 8; refine (awake_wal _ (HTB.out.later (G2.out.trans G3.out))).mono ?_; rintro e w' ⟨rfl, hb9⟩)
    go_ret
    exact ⟨rfl, (G2.out.trans G3.out).trans hb9⟩
  have y3 : ¬ (200 : Int) < (nJ : Int) := by omega
  subst x1
  subst x2
  have hsA : small A := ⟨(HL.out.2.2.1 0 A rfl).1, (HX.out rfl).1⟩
  have hsB : small B := ⟨(HL.out.2.2.1 1 B rfl).1, HY.out rfl⟩
  have hlA : (frms (recs A)).length ≤ 7000 := by have h1 := HL.out.2.2.1 0 A rfl; have := recs_size h1.1; omega
  have hlB : (frms (recs B)).length ≤ 7000 := by have h1 := HL.out.2.2.1 1 B rfl; have := recs_size h1.1; omega
  obtain ⟨x, hx⟩ : ∃ x, x = frms (recs A) := ⟨_, rfl⟩
  have hmx := (HX.out rfl).2.1
  have hrx := ((HX.out rfl).2.2).later G3.out
  rw [← hx] at hmx hrx hlA
  have HS := Lib.hid (And.intro hsA (And.intro hsB (And.intro hx (And.intro hlA (And.intro hlB (And.intro hmx x3))))))
  have HRX := Lib.hid hrx
  have HMX := Lib.hid hmx
  have hmx7 : mx ≤ 7000 := by omega
  have F1 : Hid (mx ≤ maxLen) := Lib.hid (by unfold maxLen; omega)
  have F2 : Hid (mx * 1 ≤ 140737488355328) := Lib.hid (by omega)
  obtain ⟨s, hs⟩ : ∃ s, s = mx + nJ := ⟨_, rfl⟩
  have F3 : Hid (s ≤ maxLen) := Lib.hid (by unfold maxLen; omega)
  have F4 : Hid (s * 1 ≤ 140737488355328) := Lib.hid (by omega)
  have HSS := Lib.hid hs
  have HJ3 := Lib.hid (H3.out.1.later (G2.out.trans G3.out))
  clear hsA hsB hlA hlB hx hmx hrx hs x3 HX HY HL hmx7
  go_wp2_with (first | (at_builtin; refine wpList_append_bytes rfl (.tmp 52) (.tmp 53) rfl w3.heap.size _ 0 [] rfl (Bs.empty w3 w3.heap.size (Nat.le_refl _)) (.slice ax mx cx) mx _ HMX.out rfl (HRX.out.alloc _) mx (Nat.zero_add mx).symm F1 F2 (by simp) ?_; intro ao5 c5 w5 hown5 hb5) | (at_builtin; refine wpList_append_bytes rfl (.tmp 55) (.tmp 56) rfl w3.heap.size _ mx _ rfl hown5 (.slice a3 nJ c3) nJ _ H3.out.2 rfl (HJ3.out.later (((Below.refl _ w3).alloc (Nat.le_refl _) _).trans hb5)) s HSS.out F3 F4 (Nat.le_trans (by simp) hb5.size) ?_; intro ao6 c6 w6 hown6 hb6))
  have hb36 : Grow w3 w6 := (((Below.refl _ w3).alloc (Nat.le_refl _) _).trans hb5).trans hb6
  have G6 : Hid (Grow w w6) := Lib.hid ((G2.out.trans G3.out).trans hb36)
  obtain ⟨y, hy⟩ : ∃ y, y = x ++ J := ⟨_, rfl⟩
  rw [List.nil_append, ← hy] at hown6
  have HRY := Lib.hid (And.intro hown6.reads (And.intro hown6.1 hy))
  have hs7 : s ≤ 7200 := by have := HSS.out; have := HS.out.2.2.2.2.2; have := HS.out.2.2.2.1; omega
  have HS7 := Lib.hid hs7
  clear hown5 hown6 hb5 hb6 hb36 hy hs7 F1 F2 F3 F4 HRX HMX HJ3
  refine (ref_scan _ s y w6 HRY.out.1 HRY.out.2.1 (Lib.hid (by have := HS7.out; omega))).mono ?_
  rintro e w7 ⟨hb7, l, n7, al, cl, hsc, hn7, rfl, hown⟩
  have hl8 := bulk_scans' hsc
  have G7 : Hid (Grow w w7) := Lib.hid (G6.out.trans hb7)
  have HR7 : Hid (Reads w7 (.slice ao6 s c6) (bv y)) := Lib.hid (HRY.out.1.later hb7)
  have HLL : Hid (l.length ≤ 7200 ∧ scn y = l) := Lib.hid ⟨by have := HS7.out; have := HRY.out.2.1; omega, scn_of hsc⟩
  have HRW : Hid (Rws w7 (.slice al l.length cl) l.length l) := Lib.hid (hown.rows (by have := HLL.out.1; unfold maxLen; omega))
  clear hb7 hsc hn7 hown hl8
  go_wp2_with fail
  refine (ref_replay_from _ l.length l w7 HRW.out (by have := HLL.out.1; omega)).mono ?_
  rintro e w8 ⟨hb8, LL, u, aj, jn, cj, hplay, hu, hLL, rfl, hobs⟩
  have G8 : Hid (Grow w w8) := Lib.hid (G7.out.trans hb8)
  have HB8 := Lib.hid hb8
  have HBT : Hid (batsOf y = LL) := Lib.hid (by unfold batsOf; rw [HLL.out.2, hplay])
  have hjm : jn ≤ 9223372036854775807 := by have := hobs.1; have := HLL.out.1; omega
  have HOB := Lib.hid hobs
  have HR8 : Hid (Reads w8 (.slice ao6 s c6) (bv y)) := Lib.hid (HR7.out.later hb8)
  clear hb8 hplay hu hLL hobs HRW HLL HR7
  by_cases hj1 : jn = 1
  case neg =>
    have hj2 : ¬ (jn : Int) = 1 := by omega
    go_wp2_with (go_at_call 8; refine (awake_wal _ (HTB.out.later G8.out)).mono ?_; rintro e w' ⟨rfl, hb9⟩)
    go_ret
    exact ⟨rfl, G8.out.trans hb9⟩
  subst hj1
  have HJ : Hid (JunkAt w w8 y ao6 s c6 aj cj w7.heap.size A) := Lib.hid (by
    have hb := HBT.out
    have hx := HS.out.2.2.1
    have hy := HRY.out.2.2
    have hl1 : LL.length = 1 := HOB.out.1.symm
    have hj := bats_junk HS.out.1 J (by rw [← hx, ← hy, hb]; exact hl1)
    rw [← hx, ← hy] at hj
    have hLA : LL = [A] := by rw [← hb]; exact hj.1
    obtain ⟨_, _, vs, h3, h4, h5⟩ := HOB.out
    rw [hLA] at h4
    exact ⟨G8.out, HR8.out, HRY.out.2.1, hj.1, by rw [hj.2, hx], by rw [hy, ← hx, List.take_left' rfl], G7.out.size, HB8.out.size, vs, h3, h4, fun u hu a n c e => (h5 u hu a n c e).2⟩)
  have HYL : Hid (y.length ≤ 7200) := Lib.hid (by have := HS7.out; have := HRY.out.2.1; omega)
  have HSA := Lib.hid (And.intro HS.out.1 (And.intro HS.out.2.1 (And.intro (show mx = (frms (recs A)).length by rw [HS.out.2.2.2.2.2.1, HS.out.2.2.1]) (And.intro (show (frms (recs A)).length ≤ 7000 by rw [← HS.out.2.2.1]; exact HS.out.2.2.2.1) HS.out.2.2.2.2.1))))
  clear HBT HOB HR8 HRY HS7 HS HSS G7 G6 G3 G2 hjm
  go_wp2_with fail
  refine (new_cd 100000 0 false (.slice none 0 0) (.slice none 0 0) [] [] w8 (Reads.nil w8) (Reads.nil w8) (by simp) (by simp)).mono ?_
  rintro e w9 ⟨b, F, rfl, hCD, t1⟩
  obtain ⟨M, hM⟩ : ∃ M, M = MD.new 100000 0 false [] [] := ⟨_, rfl⟩
  rw [← hM] at hCD
  have hS1 : SolD (· < w8.heap.size) w9 w8.heap.size b M := ⟨fun k hk => Nat.lt_of_lt_of_le hk t1.size, F, hCD, fun k hk hx => by have := (hCD.lt k hk).1; exact absurd hx (by omega)⟩
  have hW1 : Well 26000 M 0 := by rw [hM]; exact well_new _ _ _ _ _ _ (by decide) (by simp) (by simp)
  have g9 : Hid (Grow w8 w9) := Lib.hid (turn_grow t1)
  obtain ⟨M1, hM1⟩ : ∃ M1, M1 = (M.act (opCreate logK)).2 := ⟨_, rfl⟩
  obtain ⟨M2, hM2⟩ : ∃ M2, M2 = (M1.act (opAppend logK y)).2 := ⟨_, rfl⟩
  have hW2 : Well 26000 M1 1 := by rw [hM1]; exact well_create hW1 logK
  have hW3 : Well 26000 M2 2 := by rw [hM2]; exact well_append hW2 logK y (by have := HYL.out; omega)
  have hcalm := junk_calm (y := y) (by have := HYL.out; omega) hM
  rw [← hM1, ← hM2] at hcalm
  have C1 := sold_create hS1 (well_lim room_mid hW1 (by decide))
  rw [← hM1] at C1
  have C2 := Lib.hid (fun (w' : World) (hS : SolD (· < w8.heap.size) w' w8.heap.size b M1) (hg : Grow w8 w') => sold_append hS (well_lim room_mid hW2 (by decide)) (HJ.out.r.later hg) (by have := HYL.out; omega) (fun hne a n c e => reads_low HJ.out.r (by intro h; apply hne; have := congrArg List.length h; rw [bv_length] at this; exact List.length_eq_zero_iff.1 this) a n c e))
  rw [← hM2] at C2
  have HMM := Lib.hid (And.intro hcalm hW3)
  clear hCD t1 hM hS1 hW1 hM1 hM2 hW2 hW3 hcalm
  unfold theDisk at C1 ⊢
  unfold logS at C1
  go_wp2_with fail
  refine C1.mono ?_
  rintro e w10 ⟨⟨k1, rfl⟩, hS, hst⟩
  have g10 : Hid (Grow w8 w10) := Lib.hid (stays_two g9.out hst)
  have C3 := C2.out w10 hS g10.out
  clear hS hst C1 C2 g9
  unfold theDisk logS at C3
  go_wp2_with fail
  refine C3.mono ?_
  rintro e w11 ⟨⟨k2, rfl⟩, hS, hst⟩
  have g11 : Hid (Grow w8 w11) := Lib.hid (stays_two g10.out hst)
  obtain ⟨d1, d2, d3, d4, d5⟩ := HMM.out.1.1.opens (endOf_le y)
  have C4 := sol_open hS (TabAt.mk HTB.out (G8.out.trans g11.out) G8.out.size) HMM.out.2 (by decide) room_mid d1
  rw [d2, d3, HJ.out.b, HJ.out.e, ← HSA.out.2.2.1] at C4
  have hW4 := well_open HMM.out.2
  obtain ⟨M3, hM3⟩ : ∃ M3, M3 = (openP M2).M := ⟨_, rfl⟩
  rw [HJ.out.e, HJ.out.t] at d4
  rw [← hM3] at C4 d4 d5 hW4
  have HM3 := Lib.hid (And.intro d4 (And.intro (d5.trans HMM.out.1.2) hW4))
  clear hS hst C3 g10 d1 d2 d3 d4 d5 hM3 hW4 HMM
  unfold theDisk at C4
  go_wp2_with fail
  refine C4.mono ?_
  rintro e w12 ⟨p, ao, jn', c, lo, hi, rfl, hS, hob, hst⟩
  have g12 : Hid (Grow w8 w12) := Lib.hid (stays_two g11.out hst)
  have HS4 := Lib.hid (hS.less (Y := (· < w8.heap.size)) fun k hk => .inl hk)
  obtain ⟨vs, hown, hov, hap⟩ := HJ.out.l
  have HL := Lib.hid (And.intro hown (And.intro hov hap))
  have hX0 : ∀ g, (Value.slice aj 1 cj).ownBlock = some g → g < w8.heap.size := fun g hg => (hown.lt g hg).2
  have HX0 := Lib.hid hX0
  have HWL : Hid (∀ w', Grow w8 w' → Obs w' (.slice aj 1 cj) 1 [A]) := Lib.hid fun w' hg => (show Wl w8 w' w7.heap.size (.slice aj 1 cj) 1 [A] from ⟨rfl, vs, owns_stays hown (Stays.of_below hg) hX0, hov⟩).obs hg (by unfold maxLen; decide)
  have SB := same_batches _ _ _ _ _ _ w12 hob.obs (HWL.out w12 g12.out)
  clear hS hob hst C4 g11 hX0 hown hov hap
  go_wp2_with (first | (go_at_call 13; refine (num1_any _ _).mono ?_; rintro e w' ⟨rfl, rfl⟩) | (go_at_call 14; refine SB.mono ?_; rintro e wy ⟨bb, kq, rfl, hwy, hbb⟩; obtain rfl : bb = true := hbb.2 rfl; have HY : Hid (wy = w12.drewN kq) := Lib.hid hwy; clear hwy hbb SB) | (go_at_call 22; refine (size_at b p mx false _ (by first | exact HS4.out.obj | (rw [HY.out]; exact HS4.out.obj))).mono ?_; rintro e w' ⟨rfl, rfl⟩))
  have gy : Hid (Grow w8 wy) := Lib.hid (by rw [HY.out]; exact below_drewN g12.out kq)
  have hSy : Sol (· < w8.heap.size) wy w8.heap.size b p M3 mx false := by rw [HY.out]; exact HS4.out.new ((Turn.refl [] w12).drewN kq)
  have C5 := sol_commit hSy (HTB.out.later (G8.out.trans gy.out)) (H2.out.later (G8.out.trans gy.out)) HSA.out.2.1.1 HM3.out.2.2 (by decide) room_mid (by have := HSA.out.2.2.2.2; omega) (by have := HSA.out.2.2.1; have := HSA.out.2.2.2.1; omega)
  obtain ⟨d1, d2, d3, d4, d5⟩ := HM3.out.1.commits (L := B) HSA.out.2.1.2 (by rw [HM3.out.2.1]; have := HSA.out.2.2.2.1; have := HSA.out.2.2.2.2; omega) mx
  rw [d1, d2, d3] at C5
  obtain ⟨M4, hM4⟩ : ∃ M4, M4 = (commitP M3 mx false B).M := ⟨_, rfl⟩
  rw [← hM4] at d4 C5
  have hW5 : Well 26000 M4 8 := by rw [hM4]; exact well_commit HM3.out.2.2 mx false B (by have := HSA.out.2.2.2.2; omega)
  have HM4 := Lib.hid (And.intro d4 hW5)
  clear d1 d2 d3 d4 d5 hM4 hW5 hSy HS4 HM3 HY g12
  go_wp2_with fail
  refine C5.mono ?_
  rintro e w13 ⟨rfl, hS, hst⟩
  have g13 : Hid (Grow w8 w13) := Lib.hid (stays_two gy.out hst)
  have hfull := bats_full (LL := [A] ++ [B]) (fun L' h => by
    rcases List.mem_append.1 h with h | h
    · rw [List.mem_singleton.1 h]; exact HSA.out.1
    · rw [List.mem_singleton.1 h]; exact HSA.out.2.1)
  have hcalm := HM4.out.1
  rw [EB_snoc, EB_one] at hfull
  obtain ⟨d1, d2, d3, d4, d5⟩ := hcalm.opens (by rw [hfull.2]; exact Nat.le_refl _)
  have C6 := sol_open_at hS.disk (TabAt.mk HTB.out (G8.out.trans g13.out) G8.out.size) HM4.out.2 (by decide) room_mid d1
  rw [d3, hfull.1] at C6
  clear hS hst C5 gy d1 d2 d3 d4 d5 hfull hcalm HM4
  unfold theDisk at C6
  go_wp2_with fail
  refine C6.mono ?_
  rintro e w14 ⟨q9, ao9, j9, c9, lo9, hi9, rfl, _, hob, hst, hlo⟩
  have g14 : Hid (Grow w8 w14) := Lib.hid (stays_two g13.out hst)
  have HOB := Lib.hid (And.intro hob (Nat.le_trans g13.out.size hlo))
  have hown := owns_stays HL.out.1 (Stays.of_below g14.out) HX0.out
  have HVS := Lib.hid (And.intro hown (HL.out.2.1.later g14.out))
  have F2 : Hid (2 ≤ 1000000) := Lib.hid (by decide)
  have hsz : w7.heap.size ≤ w14.heap.size := Nat.le_trans HJ.out.hi g14.out.size
  clear hob hst hlo C6 hown g13
  go_wp2_with (at_builtin; refine wpList_append_gen elemOps rfl (.tmp 116) (.tmp 118) rfl w7.heap.size (.slice aj 1 cj) 1 vs rfl (HVS.out.1.alloc _) (.slice (some ⟨w14.heap.size, 0, none⟩) 1 1) 1 [.slice a2 m c2] rfl (Cells.lit w14 [.slice a2 m c2] 49 (0, 0) 1 1 rfl) one_sl9 2 rfl F2 (by decide) (by simp; omega) ?_; intro ao10 c10 w15 hown10 hb10 hg10 ho10)
  have t15 : Turn (Value.slice aj 1 cj).ownBlock.toList w14 w15 := ((Turn.refl _ w14).alloc _).trans (row_turn hg10)
  have g15 : Grow w w15 := Below.trans (show Below w.heap.size w w14 from G8.out.trans g14.out) ((((Below.refl w7.heap.size w14).alloc hsz _).trans hb10).mono HJ.out.lo)
  have hvals : OpVals w15 vs [A] := by
    have h0 : OpVals (w14.alloc (.cells [Value.slice a2 m c2].toArray 49 (0, 0))) vs [A] := HVS.out.2.later ((Below.refl _ w14).alloc (Nat.le_refl _) _)
    exact h0.grown hg10 fun u hu a n' c' e => (HL.out.2.2 u hu a n' c' e).2
  have hO2 : Obs w15 (.slice ao10 2 c10) 2 [A, B] := ⟨rfl, by unfold maxLen; decide, vs ++ [.slice a2 m c2], Reads.own (by rw [List.length_append, show vs.length = 1 from by have := HVS.out.1.1; omega]; exact hown10), by rw [List.length_append, show vs.length = 1 from by have := HVS.out.1.1; omega]; rfl, hvals.snoc (H2.out.later g15)⟩
  have hO1 := (HOB.out.1.turn t15 (fun k hk => .inl (by
    have : (Value.slice aj 1 cj).ownBlock = some k := by simpa using hk
    exact Nat.lt_of_lt_of_le (HX0.out k this) HOB.out.2))).obs
  have SB := same_batches _ _ _ _ _ _ w15 hO1 hO2
  have G15 := Lib.hid g15
  clear t15 g15 hvals hO1 hO2 hown10 hb10 hg10 ho10 HVS HOB HL HX0 HWL HJ g14 hsz F2
  go_wp2_with (first | (go_at_call 13; refine (num1_any _ _).mono ?_; rintro e w' ⟨rfl, rfl⟩) | (go_at_call 14; refine SB.mono ?_; rintro e wz ⟨bb, kz, rfl, hwz, hbz⟩; obtain rfl : bb = true := hbz.2 rfl; have GZ : Hid (Grow w wz) := Lib.hid (by rw [hwz]; exact below_drewN G15.out kz); clear hwz hbz SB) | (go_at_call 8; refine (awake_wal _ (HTB.out.later GZ.out)).mono ?_; rintro e w' ⟨rfl, hb9⟩))
  go_ret
  exact ⟨rfl, GZ.out.trans hb9⟩

end Go.Proofs.YthacjeeafnblmaaGreatDoor
