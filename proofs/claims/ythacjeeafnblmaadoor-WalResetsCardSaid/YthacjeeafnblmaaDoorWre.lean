/- WalResets, walked. Numbers and types by name. -/
import Derived.Test.YthacjeeafnblmaaDoorWls
namespace Go.Proofs.YthacjeeafnblmaaDoor
open Go.RowKit Go.Lib
set_option maxRecDepth 100000

set_option maxHeartbeats 8000000 in
theorem resets_wal (v1 v2 : Value) (n m : Nat) (A B : List Opm) (w : World) (h1 : Opr w v1 n A) (h2 : Opr w v2 m B) (ht : Tab w) :
    Calls Tryd.prog 4 #[v1, v2] w fun e w' => e = .returned (.bool true) ∧ Below w.heap.size w w' := by
  obtain ⟨a1, c1, rfl⟩ := h1.shape
  obtain ⟨a2, c2, rfl⟩ := h2.shape
  have H1 := Lib.hid h1
  have H2 := Lib.hid h2
  have HTB := Lib.hid ht
  clear h1 h2 ht
  go_enter Tryd.func4, Tryd.ntmps4
  go_wp2_with fail
  refine (great_ops _ n A w H1.out).mono ?_
  rintro e w1 ⟨g, q, rfl, hw1, hb⟩
  have B1 : Hid (Grow w w1) := Lib.hid (show Grow w w1 by rw [hw1]; exact below_drewN (Below.refl _ w) q)
  cases g with
  | true =>
    clear hb hw1
    go_wp2_with (go_at_call 8; refine (awake_wal _ (HTB.out.later B1.out)).mono ?_; rintro e w' ⟨rfl, hb9⟩)
    go_ret
    exact ⟨rfl, B1.out.trans hb9⟩
  | false =>
  have HA := Lib.hid (hb rfl)
  clear hb hw1
  go_wp2_with fail
  refine (great_ops _ m B w1 (H2.out.later B1.out)).mono ?_
  rintro e w2 ⟨g, q, rfl, hw2, hb⟩
  have B2 : Hid (Grow w w2) := Lib.hid (B1.out.trans (show Grow w1 w2 by rw [hw2]; exact below_drewN (Below.refl _ w1) q))
  cases g with
  | true =>
    clear hb hw2
    go_wp2_with (go_at_call 8; refine (awake_wal _ (HTB.out.later B2.out)).mono ?_; rintro e w' ⟨rfl, hb9⟩)
    go_ret
    exact ⟨rfl, B2.out.trans hb9⟩
  | false =>
  have HB := Lib.hid (hb rfl)
  clear hb hw2
  have R1 := right_at _ n A w2 (H1.out.later B2.out)
  have R2 := right_at _ m B w2 (H2.out.later B2.out)
  cases oa : okOps A with
  | false =>
    rw [oa] at R1
    clear R2
    go_wp2_with (first | (go_at_call 7; refine R1.mono ?_; rintro e w' ⟨rfl, rfl⟩) | (go_at_call 8; refine (awake_wal _ (HTB.out.later B2.out)).mono ?_; rintro e w' ⟨rfl, hb9⟩))
    go_ret
    exact ⟨rfl, B2.out.trans hb9⟩
  | true =>
  cases ob : okOps B with
  | false =>
    rw [oa] at R1
    rw [ob] at R2
    go_wp2_with (first | (go_at_call 7; (first | ((with_reducible refine R1.mono ?_); rintro e w' ⟨rfl, rfl⟩) | ((with_reducible refine R2.mono ?_); rintro e w' ⟨rfl, rfl⟩))) | (go_at_call 8; refine (awake_wal _ (HTB.out.later B2.out)).mono ?_; rintro e w' ⟨rfl, hb9⟩))
    go_ret
    exact ⟨rfl, B2.out.trans hb9⟩
  | true =>
  rw [oa] at R1
  rw [ob] at R2
  have HOK := Lib.hid (And.intro oa ob)
  have HSZ : Hid ((frms (recs A)).length ≤ 26000 ∧ (frms (recs B)).length ≤ 26000) := Lib.hid ⟨recs_ok oa HA.out, recs_ok ob HB.out⟩
  clear oa ob
  go_wp2_with (first | (go_at_call 7; (first | ((with_reducible refine R1.mono ?_); rintro e w' ⟨rfl, rfl⟩) | ((with_reducible refine R2.mono ?_); rintro e w' ⟨rfl, rfl⟩))))
  clear R1 R2
  refine (new_cd 100000 0 false (.slice none 0 0) (.slice none 0 0) [] [] w2 (Reads.nil w2) (Reads.nil w2) (by simp) (by simp)).mono ?_
  rintro e w3 ⟨b, F, rfl, hCD, t1⟩
  obtain ⟨M, hM⟩ : ∃ M, M = MD.new 100000 0 false [] [] := ⟨_, rfl⟩
  rw [← hM] at hCD
  have HS1 : Hid (SolD (· < w2.heap.size) w3 w2.heap.size b M) := Lib.hid ⟨fun k hk => Nat.lt_of_lt_of_le hk t1.size, F, hCD, fun k hk hx => by have := (hCD.lt k hk).1; exact absurd hx (by omega)⟩
  have HW1 : Hid (Well 26000 M 0) := Lib.hid (by rw [hM]; exact well_new _ _ _ _ _ _ (by decide) (by simp) (by simp))
  have hO : openP M = ⟨0, { M with n := M.n + 1 + 1, fs := [(logK, [], 0)] }, 0, []⟩ := opens_new (by rw [hM]; rfl) (by rw [hM]; rfl) (by rw [hM]; decide) (by rw [hM]; rfl) (by rw [hM]; decide) (by rw [hM]; rfl)
  have G3 : Hid (Grow w2 w3) := Lib.hid (turn_grow t1)
  have HO := Lib.hid (And.intro hO hM)
  clear hCD t1 hO hM
  have C1 := sol_open HS1.out (TabAt.mk HTB.out (B2.out.trans G3.out) B2.out.size) HW1.out (by decide) room_mid (by rw [HO.out.1])
  unfold theDisk at C1 ⊢
  go_wp2_with fail
  refine C1.mono ?_
  rintro e w4 ⟨p, ao, jn, c, lo, hi, rfl, hS, hob, hst⟩
  obtain ⟨M2, hM2⟩ : ∃ M2, M2 = (openP M).M := ⟨_, rfl⟩
  have hcalm : Calm M2 [] 0 := by rw [hM2, HO.out.1]; exact ⟨by rw [HO.out.2]; rfl, by rw [HO.out.2]; decide, by rw [HO.out.2]; rfl, rfl⟩
  have hcap : M2.cap = 100000 := by rw [hM2, HO.out.1, HO.out.2]; rfl
  have hn0 : (openP M).n = 0 := by rw [HO.out.1]
  have hW2 : Well 26000 M2 3 := by rw [hM2]; exact well_open HW1.out
  rw [← hM2, hn0] at hS
  have HS2 := Lib.hid (hS.less (Y := (· < w2.heap.size)) fun k hk => .inl hk)
  have G4 : Hid (Grow w2 w4) := Lib.hid (stays_two G3.out hst)
  have HM2 := Lib.hid (And.intro hcalm (And.intro hcap hW2))
  clear hS hob hst C1 HS1 HW1 HO G3 hM2 hcalm hcap hn0 hW2
  have C2 := sol_commit HS2.out (HTB.out.later (B2.out.trans G4.out)) (H1.out.later (B2.out.trans G4.out)) HA.out HM2.out.2.2 (by decide) room_mid HSZ.out.1 (by decide)
  obtain ⟨d1, d2, d3, d4, d5⟩ := HM2.out.1.commits (L := A) HOK.out.1 (by rw [HM2.out.2.1]; have := HSZ.out.1; simp; omega) 0
  rw [d1, d2, d3] at C2
  obtain ⟨M3, hM3⟩ : ∃ M3, M3 = (commitP M2 0 false A).M := ⟨_, rfl⟩
  rw [← hM3] at d4 d5 C2
  have hW3 : Well 26000 M3 6 := by rw [hM3]; exact well_commit HM2.out.2.2 0 false A HSZ.out.1
  have HM3 := Lib.hid (And.intro d4 (And.intro (d5.trans HM2.out.2.1) hW3))
  clear d1 d2 d3 d4 d5 hM3 hW3 HS2 HM2
  obtain ⟨la, hla⟩ : ∃ la, la = (frms (recs A)).length := ⟨_, rfl⟩
  rw [← hla, Nat.zero_add] at C2
  have HLA := Lib.hid hla
  clear hla
  go_wp2_with (go_at_call 12; refine (num1_any _ _).mono ?_; rintro e w' ⟨rfl, rfl⟩)
  refine C2.mono ?_
  rintro e w5 ⟨rfl, hS, hst⟩
  have G5 : Hid (Grow w2 w5) := Lib.hid (stays_two G4.out hst)
  have HS3 := Lib.hid hS
  clear hS hst C2
  have Z1 := size_at b p la false w5 HS3.out.obj
  have C3 := sol_reset HS3.out (well_lim room_mid HM3.out.2.2 (by decide))
  obtain ⟨e1, e2, e3⟩ := HM3.out.1.resets la
  rw [e1] at C3
  obtain ⟨M4, hM4⟩ : ∃ M4, M4 = (M3.act (opCut logK 0)).2 := ⟨_, rfl⟩
  rw [← hM4] at e2 e3 C3
  have hW4 : Well 26000 M4 7 := by rw [hM4]; exact well_cut HM3.out.2.2 logK 0
  have HM4 := Lib.hid (And.intro e2 (And.intro (e3.trans HM3.out.2.1) hW4))
  clear e1 e2 e3 hM4 hW4 HM3 HS3
  go_wp2_with fail
  refine Z1.mono ?_
  rintro e w6 ⟨rfl, rfl⟩
  clear Z1
  go_wp2_with fail
  refine C3.mono ?_
  rintro e w6 ⟨rfl, hS, hst⟩
  have G6 : Hid (Grow w2 w6) := Lib.hid (stays_two G5.out hst)
  have HS4 := Lib.hid hS
  clear hS hst C3 G5
  have Z1 := size_at b p 0 false w6 HS4.out.obj
  go_wp2_with fail
  refine Z1.mono ?_
  rintro e w7 ⟨rfl, rfl⟩
  clear Z1
  have C4 := sol_commit HS4.out (HTB.out.later (B2.out.trans G6.out)) (H2.out.later (B2.out.trans G6.out)) HB.out HM4.out.2.2 (by decide) room_mid HSZ.out.2 (by decide)
  obtain ⟨d1, d2, d3, d4, d5⟩ := HM4.out.1.commits (L := B) HOK.out.2 (by rw [HM4.out.2.1]; have := HSZ.out.2; simp; omega) 0
  rw [d1, d2, d3] at C4
  obtain ⟨M5, hM5⟩ : ∃ M5, M5 = (commitP M4 0 false B).M := ⟨_, rfl⟩
  rw [← hM5] at d4 d5 C4
  have hW5 : Well 26000 M5 10 := by rw [hM5]; exact well_commit HM4.out.2.2 0 false B HSZ.out.2
  have HM5 := Lib.hid (And.intro d4 hW5)
  clear d1 d2 d3 d4 d5 hM5 hW5 HS4 HM4
  go_wp2_with fail
  refine C4.mono ?_
  rintro e w8 ⟨rfl, hS, hst⟩
  have G8 : Hid (Grow w2 w8) := Lib.hid (stays_two G6.out hst)
  have HS5 := Lib.hid hS
  clear hS hst C4 G6
  obtain ⟨x, hx⟩ : ∃ x, x = frms (recs B) := ⟨_, rfl⟩
  have hfull := bats_full (LL := [B]) (fun L' h => by rw [List.mem_singleton.1 h]; exact ⟨HB.out, HOK.out.2⟩)
  rw [EB_one, ← hx] at hfull
  have hcalm := HM5.out.1
  rw [List.nil_append, ← hx] at hcalm
  obtain ⟨d1, d2, d3, d4, d5⟩ := hcalm.opens (by rw [hfull.2]; exact Nat.le_refl _)
  have C5 := sol_open HS5.out.disk (TabAt.mk HTB.out (B2.out.trans G8.out) B2.out.size) HM5.out.2 (by decide) room_mid d1
  rw [d3, hfull.1] at C5
  clear hcalm d1 d2 d3 d4 d5 hfull hx HS5
  unfold theDisk at C5
  go_wp2_with fail
  refine C5.mono ?_
  rintro e w9 ⟨q9, ao9, j9, c9, lo9, hi9, rfl, _, hob, hst⟩
  have hj1 : j9 = 1 := hob.1
  subst hj1
  obtain ⟨a, L', ap, cp, rfl, hL', hc, hOp⟩ := hob.obs.at (k := 0) (by decide)
  have hBL : B = L' := by simpa using hL'
  subst hBL
  rw [addr_0] at hc
  have hmB := H2.out.1
  rw [← hmB] at hc hOp
  have G9 : Hid (Grow w2 w9) := Lib.hid (stays_two G8.out hst)
  have HOB := Lib.hid hOp
  clear hob hst hL' C5 G8 hOp hmB
  go_wp2_with fail
  refine (ref_ops_told _ n A w9 (H1.out.later (B2.out.trans G9.out)) HA.out).mono ?_
  rintro e wt ⟨ax, mx, cx, rfl, hBs, hbt⟩
  have hmx : mx = la := by rw [hBs.1, HLA.out]; unfold bytesB; rw [if_pos HOK.out.1]
  subst hmx
  have GT : Hid (Grow w2 wt) := Lib.hid (G9.out.trans hbt)
  have hct : wt.cell? a = some (.slice ap m cp) := (World.cell?_of_block (hbt.block _ (World.block_lt_of_cell? w9 _ hc))).trans hc
  have HSO := Lib.hid (same_ops _ _ m m B B wt (HOB.out.later hbt) (H2.out.later (B2.out.trans GT.out)))
  clear hBs hbt hc
  go_wp2_with (go_at_call 12; refine (num1_any _ _).mono ?_; rintro e w' ⟨rfl, rfl⟩)
  refine HSO.out.mono ?_
  rintro e wu ⟨bb, k, rfl, hwu, hbb⟩
  have hbt : bb = true := hbb.2 rfl
  subst hbt
  have GU : Hid (Grow w wu) := Lib.hid ((B2.out.trans GT.out).trans (by rw [hwu]; exact below_drewN (Below.refl _ wt) k))
  clear hwu hbb HSO
  go_wp2_with (go_at_call 8; refine (awake_wal _ (HTB.out.later GU.out)).mono ?_; rintro e w' ⟨rfl, hb9⟩)
  go_ret
  exact ⟨rfl, GU.out.trans hb9⟩

end Go.Proofs.YthacjeeafnblmaaDoor
