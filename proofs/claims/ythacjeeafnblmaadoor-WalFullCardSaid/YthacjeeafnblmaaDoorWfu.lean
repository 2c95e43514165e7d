/- WalFull, walked. Numbers and types by name. -/
import Derived.Test.YthacjeeafnblmaaDoorWls
namespace Go.Proofs.YthacjeeafnblmaaDoor
open Go.RowKit Go.Lib
set_option maxRecDepth 100000

theorem one_sl {a : Option Addr} {n c : Nat} : ∀ u ∈ [Value.slice a n c], u.oneCell' = true := fun u hu => by rw [List.mem_singleton.1 hu]; rfl

set_option maxHeartbeats 8000000 in
theorem full_wal (v1 v2 : Value) (n m : Nat) (A B : List Opm) (r : Nat) (w : World) (h1 : Opr w v1 n A) (h2 : Opr w v2 m B) (hr : r < 65536) (ht : Tab w) :
    Calls Tryd.prog 3 #[v1, v2, .int .u16 r] w fun e w' => e = .returned (.bool true) ∧ Below w.heap.size w w' := by
  obtain ⟨a1, c1, rfl⟩ := h1.shape
  obtain ⟨a2, c2, rfl⟩ := h2.shape
  have H1 := Lib.hid h1
  have H2 := Lib.hid h2
  have HTB := Lib.hid ht
  clear h1 h2 ht
  go_enter Tryd.func3, Tryd.ntmps3
  go_wp2_with fail
  refine (great_ops _ n A w H1.out).mono ?_
  rintro e w1 ⟨g, q, rfl, hw1, hb⟩
  have B1 : Hid (Grow w w1) := Lib.hid (show Grow w w1 by rw [hw1]; exact below_drewN (Below.refl _ w) q)
  cases g with
  | true =>
    clear hb hw1
    go_wp2_with (go_at_call 8; refine (awake_wal _ (HTB.out.later B1.out)).mono ?_; rintro e w' ⟨rfl, hb9⟩)
    go_ret
    exact ⟨rfl, B1.out.trans hb9⟩
  | false =>
  have HA := Lib.hid (hb rfl)
  clear hb hw1
  go_wp2_with fail
  refine (great_ops _ m B w1 (H2.out.later B1.out)).mono ?_
  rintro e w2 ⟨g, q, rfl, hw2, hb⟩
  have B2 : Hid (Grow w w2) := Lib.hid (B1.out.trans (show Grow w1 w2 by rw [hw2]; exact below_drewN (Below.refl _ w1) q))
  cases g with
  | true =>
    clear hb hw2
    go_wp2_with (go_at_call 8; refine (awake_wal _ (HTB.out.later B2.out)).mono ?_; rintro e w' ⟨rfl, hb9⟩)
    go_ret
    exact ⟨rfl, B2.out.trans hb9⟩
  | false =>
  have HB := Lib.hid (hb rfl)
  clear hb hw2
  have R1 := right_at _ n A w2 (H1.out.later B2.out)
  have R2 := right_at _ m B w2 (H2.out.later B2.out)
  cases oa : okOps A with
  | false =>
    rw [oa] at R1
    clear R2
    go_wp2_with (first | (go_at_call 7; refine R1.mono ?_; rintro e w' ⟨rfl, rfl⟩) | (go_at_call 8; refine (awake_wal _ (HTB.out.later B2.out)).mono ?_; rintro e w' ⟨rfl, hb9⟩))
    go_ret
    exact ⟨rfl, B2.out.trans hb9⟩
  | true =>
  cases ob : okOps B with
  | false =>
    rw [oa] at R1
    rw [ob] at R2
    go_wp2_with (first | (go_at_call 7; (first | ((with_reducible refine R1.mono ?_); rintro e w' ⟨rfl, rfl⟩) | ((with_reducible refine R2.mono ?_); rintro e w' ⟨rfl, rfl⟩))) | (go_at_call 8; refine (awake_wal _ (HTB.out.later B2.out)).mono ?_; rintro e w' ⟨rfl, hb9⟩))
    go_ret
    exact ⟨rfl, B2.out.trans hb9⟩
  | true =>
  rw [oa] at R1
  rw [ob] at R2
  have HOK := Lib.hid (And.intro oa ob)
  have HSZ : Hid ((frms (recs A)).length ≤ 26000 ∧ (frms (recs B)).length ≤ 26000) := Lib.hid ⟨recs_ok oa HA.out, recs_ok ob HB.out⟩
  clear oa ob
  go_wp2_with (first | (go_at_call 7; (first | ((with_reducible refine R1.mono ?_); rintro e w' ⟨rfl, rfl⟩) | ((with_reducible refine R2.mono ?_); rintro e w' ⟨rfl, rfl⟩))))
  clear R1 R2
  refine (ref_ops_told _ n A w2 (H1.out.later B2.out) HA.out).mono ?_
  rintro e w3 ⟨ax, mx, cx, rfl, hBs, hbt⟩
  have HMX : Hid (mx = (frms (recs A)).length) := Lib.hid (by rw [hBs.1]; unfold bytesB; rw [if_pos HOK.out.1])
  have G3 : Hid (Grow w w3) := Lib.hid (B2.out.trans hbt)
  clear hBs hbt
  go_wp2_with fail
  refine (ref_ops_told _ m B w3 (H2.out.later G3.out) HB.out).mono ?_
  rintro e w4 ⟨ay, my, cy, rfl, hBs, hbt⟩
  have HMY : Hid (my = (frms (recs B)).length) := Lib.hid (by rw [hBs.1]; unfold bytesB; rw [if_pos HOK.out.2])
  have G4 : Hid (Grow w w4) := Lib.hid (G3.out.trans hbt)
  clear hBs hbt G3 B2 B1
  obtain ⟨kk, hkk⟩ : ∃ kk, kk = r % 6000 := ⟨_, rfl⟩
  have hk1 : (wrap64 ((r : Nat) : Int)).tmod 6000 = (kk : Int) := by rw [wrap64_id _ (by omega), Int.tmod_eq_emod_of_nonneg (by omega)]; omega
  have hk2 : kk < 6000 := by omega
  clear hkk hr
  go_wp2_with fail
  refine (new_cd kk 0 false (.slice none 0 0) (.slice none 0 0) [] [] w4 (Reads.nil w4) (Reads.nil w4) (by simp) (by simp)).mono ?_
  rintro e w5 ⟨b, F, rfl, hCD, t1⟩
  obtain ⟨M, hM⟩ : ∃ M, M = MD.new kk 0 false [] [] := ⟨_, rfl⟩
  rw [← hM] at hCD
  have HS1 : Hid (SolD (· < w4.heap.size) w5 w4.heap.size b M) := Lib.hid ⟨fun k hk => Nat.lt_of_lt_of_le hk t1.size, F, hCD, fun k hk hx => by have := (hCD.lt k hk).1; exact absurd hx (by omega)⟩
  have HW1 : Hid (Well 26000 M 0) := Lib.hid (by rw [hM]; exact well_new _ _ _ _ _ _ (by omega) (by simp) (by simp))
  have hO : openP M = ⟨0, { M with n := M.n + 1 + 1, fs := [(logK, [], 0)] }, 0, []⟩ := opens_new (by rw [hM]; rfl) (by rw [hM]; rfl) (by rw [hM]; show (0 : Int) + 1 ≠ 0; decide) (by rw [hM]; rfl) (by rw [hM]; show (0 : Int) + 1 + 1 ≠ 0; decide) (by rw [hM]; rfl)
  have G5 : Hid (Grow w4 w5) := Lib.hid (turn_grow t1)
  have HO := Lib.hid (And.intro hO hM)
  clear hCD t1 hO hM
  have C1 := sol_open HS1.out (TabAt.mk HTB.out (G4.out.trans G5.out) G4.out.size) HW1.out (by decide) room_mid (by rw [HO.out.1])
  unfold theDisk at C1 ⊢
  go_wp2_with fail
  refine C1.mono ?_
  rintro e w6 ⟨p, ao, jn, c, lo, hi, rfl, hS, hob, hst⟩
  obtain ⟨M2, hM2⟩ : ∃ M2, M2 = (openP M).M := ⟨_, rfl⟩
  have hcalm : Calm M2 (EB []) 0 := by rw [hM2, HO.out.1]; exact ⟨by rw [HO.out.2]; rfl, by rw [HO.out.2]; show (0 : Int) ≤ 0 + 1 + 1; decide, by rw [HO.out.2]; rfl, rfl⟩
  have hcap : M2.cap = kk := by rw [hM2, HO.out.1, HO.out.2]; rfl
  have hn0 : (openP M).n = 0 := by rw [HO.out.1]
  have hW2 : Well 26000 M2 3 := by rw [hM2]; exact well_open HW1.out
  rw [← hM2, hn0] at hS
  have HS2 := Lib.hid (hS.less (Y := (· < w4.heap.size)) fun k hk => .inl hk)
  have G6 : Hid (Grow w4 w6) := Lib.hid (stays_two G5.out hst)
  have HM2 := Lib.hid (And.intro hcalm (And.intro hcap hW2))
  clear hS hob hst C1 HS1 HW1 HO G5 hM2 hcalm hcap hn0 hW2
  obtain ⟨f1, hf1⟩ : ∃ f1, f1 = decide (mx ≤ kk) := ⟨_, rfl⟩
  have C2 := sol_commit HS2.out (HTB.out.later (G4.out.trans G6.out)) (H1.out.later (G4.out.trans G6.out)) HA.out HM2.out.2.2 (by decide) room_mid HSZ.out.1 (by decide)
  obtain ⟨s1, d1, d2, d3, d4, d5⟩ := HM2.out.1.tries (L := A) HOK.out.1 (f := f1) (by rw [hf1, HM2.out.2.1, HMX.out]; show decide _ = decide ((0 : Int) + _ ≤ _); rw [Int.zero_add]; simp only [Int.ofNat_le])
  have e0 : (EB []).length = 0 := rfl
  rw [e0] at d1 d2 d3 d4 d5
  rw [d1, d2, d3] at C2
  obtain ⟨LL1, hLL1⟩ : ∃ LL1 : List (List Opm), LL1 = if f1 = true then [] ++ [A] else [] := ⟨_, rfl⟩
  obtain ⟨M3, hM3⟩ : ∃ M3, M3 = (commitP M2 0 false A).M := ⟨_, rfl⟩
  rw [← hM3, ← hLL1] at C2
  rw [← hM3, ← hLL1] at d4
  rw [← hM3] at d5
  have hW3 : Well 26000 M3 6 := by rw [hM3]; exact well_commit HM2.out.2.2 0 false A HSZ.out.1
  have HM3 := Lib.hid (And.intro d4 (And.intro (d5.trans HM2.out.2.1) hW3))
  obtain ⟨n1, hn1⟩ : ∃ n1, n1 = (EB LL1).length := ⟨_, rfl⟩
  obtain ⟨z1, hz1⟩ : ∃ z1 : Int, z1 = if f1 = true then 0 else 5 := ⟨_, rfl⟩
  rw [← hn1, ← hz1] at C2
  have hn1b : n1 ≤ 26000 := by
    rw [hn1, hLL1]
    cases f1 with
    | true => rw [if_pos rfl, List.nil_append, EB_one]; exact HSZ.out.1
    | false => show 0 ≤ 26000; omega
  have HF1 := Lib.hid (And.intro hf1 (And.intro hLL1 (And.intro hn1 (And.intro hz1 hn1b))))
  clear d1 d2 d3 d4 d5 hM3 hW3 HS2 HM2 hf1 hLL1 hn1 hz1 e0 hn1b
  go_wp2_with (go_at_call 12; refine (num1_any _ _).mono ?_; rintro e w' ⟨rfl, rfl⟩)
  refine C2.mono ?_
  rintro e w7 ⟨rfl, hS, hst⟩
  have G7 : Hid (Grow w4 w7) := Lib.hid (stays_two G6.out hst)
  have HS3 := Lib.hid hS
  clear hS hst C2 G6
  obtain ⟨f2, hf2⟩ : ∃ f2, f2 = decide (n1 + my ≤ kk) := ⟨_, rfl⟩
  have C3 := sol_commit HS3.out (HTB.out.later (G4.out.trans G7.out)) (H2.out.later (G4.out.trans G7.out)) HB.out HM3.out.2.2 (by decide) room_mid HSZ.out.2 (by have := HF1.out.2.2.2.2; omega)
  obtain ⟨s2, d1, d2, d3, d4, d5⟩ := HM3.out.1.tries (L := B) HOK.out.2 (f := f2) (by rw [hf2, HM3.out.2.1, HMY.out, ← HF1.out.2.2.1]; simp only [← Int.natCast_add, Int.ofNat_le])
  rw [← HF1.out.2.2.1] at d1 d2 d3 d4 d5
  rw [d1, d2, d3] at C3
  obtain ⟨LL2, hLL2⟩ : ∃ LL2 : List (List Opm), LL2 = if f2 = true then LL1 ++ [B] else LL1 := ⟨_, rfl⟩
  obtain ⟨M4, hM4⟩ : ∃ M4, M4 = (commitP M3 n1 false B).M := ⟨_, rfl⟩
  rw [← hM4, ← hLL2] at C3
  rw [← hM4, ← hLL2] at d4
  have hW4 : Well 26000 M4 9 := by rw [hM4]; exact well_commit HM3.out.2.2 n1 false B HSZ.out.2
  have HM4 := Lib.hid (And.intro d4 hW4)
  obtain ⟨n2, hn2⟩ : ∃ n2, n2 = (EB LL2).length := ⟨_, rfl⟩
  obtain ⟨z2, hz2⟩ : ∃ z2 : Int, z2 = if f2 = true then 0 else 5 := ⟨_, rfl⟩
  rw [← hn2, ← hz2] at C3
  have HF2 := Lib.hid (And.intro hf2 (And.intro hLL2 (And.intro hn2 hz2)))
  clear d1 d2 d3 d4 d5 hM4 hW4 HS3 HM3 hf2 hLL2 hn2 hz2
  go_wp2_with fail
  refine C3.mono ?_
  rintro e w8 ⟨rfl, hS, hst⟩
  have G8 : Hid (Grow w4 w8) := Lib.hid (stays_two G7.out hst)
  have HS4 := Lib.hid hS
  clear hS hst C3 G7
  have hwr : wrap64 ((kk : Int) - (n1 : Int)) = (kk : Int) - (n1 : Int) := wrap64_id _ (by have := HF1.out.2.2.2.2; omega)
  have hwk : wrap64 ((kk : Int) - 0) = (kk : Int) - 0 := wrap64_id _ (by omega)
  have HWR := Lib.hid (And.intro hwr hwk)
  clear hwr hwk
  have HC1 : Hid (Cells (w8.alloc (.cells [Value.slice a1 n c1].toArray 22 (0, 0))) (.slice (some ⟨w8.heap.size, 0, none⟩) 1 1) 1 1 [.slice a1 n c1]) := Lib.hid (Cells.lit w8 [.slice a1 n c1] 22 (0, 0) 1 1 rfl)
  have F1 : Hid (1 ≤ 1000000) := Lib.hid (by decide)
  have F2 : Hid (2 ≤ 1000000) := Lib.hid (by decide)
  obtain ⟨e1, e2⟩ := HWR.out
  cases f1
  case' true =>
    have hle : (mx : Int) ≤ (kk : Int) := by have := HF1.out.1; simp at this; omega
    have hn1 : n1 = mx := by rw [HF1.out.2.2.1, HF1.out.2.1, if_pos rfl, List.nil_append, EB_one, HMX.out]
    rw [hn1] at e1
    cases f2
    case' true =>
      have hle2 : (my : Int) ≤ (kk : Int) - (mx : Int) := by have := HF2.out.1; simp at this; omega
      clear hn1
      go_wp2_with (first | (at_builtin; refine wpList_append_gen elemOps rfl (.tmp 80) (.tmp 82) rfl w8.heap.size (.slice none 0 0) 0 [] rfl (World.ownsRow_nil _ _ _ _) (.slice (some ⟨w8.heap.size, 0, none⟩) 1 1) 1 [.slice a1 n c1] rfl HC1.out one_sl 1 rfl F1 (by decide) (by simp) ?_; intro ao9 c9 w9 hown9 hb9 hg9 ho9) | (at_builtin; refine wpList_append_gen elemOps rfl (.tmp 93) (.tmp 95) rfl w8.heap.size (.slice ao9 1 c9) 1 _ rfl (hown9.alloc _) (.slice (some ⟨w9.heap.size, 0, none⟩) 1 1) 1 [.slice a2 m c2] rfl (Cells.lit w9 [.slice a2 m c2] 22 (0, 0) 1 1 rfl) one_sl 2 rfl F2 (by decide) (by have := hb9.size; simp at this ⊢; omega) ?_; intro ao10 c10 w10 hown10 hb10 hg10 ho10))
      have hz1 : z1 = 0 := by rw [HF1.out.2.2.2.1]; rfl
      have hz2 : z2 = 0 := by rw [HF2.out.2.2.2]; rfl
      subst hz1
      subst hz2
      have hL2 : LL2 = [A, B] := by rw [HF2.out.2.1, HF1.out.2.1]; rfl
      have HGV : Hid (Below w8.heap.size w8 w10) := Lib.hid ((((Below.refl _ w8).alloc (Nat.le_refl _) _).trans hb9).trans (((Below.refl w8.heap.size w9).alloc (by have := hb9.size; simp at this; omega) _).trans hb10))
      have HV := Lib.hid (Wl.two (base := w8.heap.size) H1.out H2.out hown10)
      rw [← hL2] at HV
      clear e1 e2 hL2
      obtain ⟨wv, rfl⟩ : ∃ wv, wv = w10 := ⟨_, rfl⟩
    case' false =>
      have hle2 : ¬ (my : Int) ≤ (kk : Int) - (mx : Int) := by have := HF2.out.1; simp at this; omega
      clear hn1
      go_wp2_with (first | (at_builtin; refine wpList_append_gen elemOps rfl (.tmp 80) (.tmp 82) rfl w8.heap.size (.slice none 0 0) 0 [] rfl (World.ownsRow_nil _ _ _ _) (.slice (some ⟨w8.heap.size, 0, none⟩) 1 1) 1 [.slice a1 n c1] rfl HC1.out one_sl 1 rfl F1 (by decide) (by simp) ?_; intro ao9 c9 w9 hown9 hb9 hg9 ho9))
      have hz1 : z1 = 0 := by rw [HF1.out.2.2.2.1]; rfl
      have hz2 : z2 = 5 := by rw [HF2.out.2.2.2]; rfl
      subst hz1
      subst hz2
      have hL2 : LL2 = [A] := by rw [HF2.out.2.1, HF1.out.2.1]; rfl
      have HGV : Hid (Below w8.heap.size w8 w9) := Lib.hid (((Below.refl _ w8).alloc (Nat.le_refl _) _).trans hb9)
      have HV := Lib.hid (Wl.one (base := w8.heap.size) H1.out hown9)
      rw [← hL2] at HV
      clear e1 e2 hL2
      obtain ⟨wv, rfl⟩ : ∃ wv, wv = w9 := ⟨_, rfl⟩
  case' false =>
    have hle : ¬ (mx : Int) ≤ (kk : Int) := by have := HF1.out.1; simp at this; omega
    have hn1 : n1 = 0 := by rw [HF1.out.2.2.1, HF1.out.2.1, if_neg (by simp)]; rfl
    cases f2
    case' true =>
      have hle2 : (my : Int) ≤ (kk : Int) := by have := HF2.out.1; simp at this; omega
      clear hn1
      go_wp2_with (first | (at_builtin; refine wpList_append_gen elemOps rfl (.tmp 93) (.tmp 95) rfl w8.heap.size (.slice none 0 0) 0 _ rfl (World.ownsRow_nil _ _ _ _) (.slice (some ⟨w8.heap.size, 0, none⟩) 1 1) 1 [.slice a2 m c2] rfl (Cells.lit w8 [.slice a2 m c2] 22 (0, 0) 1 1 rfl) one_sl 1 rfl F1 (by decide) (by simp) ?_; intro ao10 c10 w10 hown10 hb10 hg10 ho10))
      have hz1 : z1 = 5 := by rw [HF1.out.2.2.2.1]; rfl
      have hz2 : z2 = 0 := by rw [HF2.out.2.2.2]; rfl
      subst hz1
      subst hz2
      have hL2 : LL2 = [B] := by rw [HF2.out.2.1, HF1.out.2.1]; rfl
      have HGV : Hid (Below w8.heap.size w8 w10) := Lib.hid (((Below.refl _ w8).alloc (Nat.le_refl _) _).trans hb10)
      have HV := Lib.hid (Wl.one (base := w8.heap.size) H2.out hown10)
      rw [← hL2] at HV
      clear e1 e2 hL2
      obtain ⟨wv, rfl⟩ : ∃ wv, wv = w10 := ⟨_, rfl⟩
    case' false =>
      have hle2 : ¬ (my : Int) ≤ (kk : Int) := by have := HF2.out.1; simp at this; omega
      clear hn1
      go_wp2_with fail
      have hz1 : z1 = 5 := by rw [HF1.out.2.2.2.1]; rfl
      have hz2 : z2 = 5 := by rw [HF2.out.2.2.2]; rfl
      subst hz1
      subst hz2
      have hL2 : LL2 = [] := by rw [HF2.out.2.1, HF1.out.2.1]; rfl
      obtain ⟨wv, hwv⟩ : ∃ wv, wv = w8 := ⟨_, rfl⟩
      rw [← hwv]
      have HGV : Hid (Below w8.heap.size w8 wv) := Lib.hid (by rw [hwv]; exact Below.refl _ _)
      have HV := Lib.hid (Wl.nil w wv w8.heap.size)
      rw [← hL2] at HV
      clear e1 e2 hL2 hwv
  all_goals
    have HSV := Lib.hid (HS4.out.more (Y := fun k => k < w4.heap.size ∨ w8.heap.size ≤ k ∧ k < wv.heap.size) (turn_below HGV.out) fun k hk => hk)
    have HGW : Hid (Grow w4 wv) := Lib.hid (Grow.trans G8.out HGV.out)
    have HMS : Hid (∀ L ∈ LL2, small L) := Lib.hid (by
      have q1 := HF1.out.2.1
      have q2 := HF2.out.2.1
      intro L hL
      have hAB : L = A ∨ L = B := by
        rw [q2, q1] at hL
        simp at hL
        all_goals first | exact hL | exact .inl hL | exact .inr hL | exact hL.elim
      rcases hAB with rfl | rfl
      · exact ⟨HA.out, HOK.out.1⟩
      · exact ⟨HB.out, HOK.out.2⟩)
    have hfull := bats_full HMS.out
    obtain ⟨d1, d2, d3, d4, d5⟩ := HM4.out.1.opens (by rw [hfull.2]; exact Nat.le_refl _)
    have C5 := sol_open HSV.out.parted.1 (TabAt.mk HTB.out (G4.out.trans HGW.out) G4.out.size) HM4.out.2 (by decide) room_mid d1
    rw [d3, hfull.1] at C5
    have HCO := Lib.hid HSV.out.parted.2
    clear d1 d2 d3 d4 d5 hfull HSV
    unfold theDisk at C5
    go_wp2_with fail
    refine C5.mono ?_
    rintro e wx ⟨q9, ao9', j9, c9', lo9, hi9, rfl, _, hob, hst⟩
    have HGX : Hid (Below w4.heap.size w4 wx) := Lib.hid (Below.trans HGW.out (Stays.below (hst.less fun k hk => .inl (.inl hk))))
    have HVX : Hid (Obs wx _ _ LL2) := Lib.hid ((HV.out.stays hst fun g hg => .inl (.inr (HV.out.lt g hg))).obs (G4.out.trans HGX.out) (by have := HV.out.1; unfold maxLen; omega))
    have HSB := Lib.hid (same_batches _ _ _ _ _ _ wx hob.obs HVX.out)
    have HSK := Lib.hid (HCO.out.stays hst (.inr rfl))
    clear hob hst C5
    go_wp2_with (first | (go_at_call 12; refine (num1_any _ _).mono ?_; rintro e w' ⟨rfl, rfl⟩) | (go_at_call 14; refine HSB.out.mono ?_; rintro e wy ⟨bb, k, rfl, hwy, hbb⟩; obtain rfl : bb = true := hbb.2 rfl; have HGY : Hid (Below w4.heap.size w4 wy) := Lib.hid (by rw [hwy]; exact below_drewN HGX.out k); have HSY : Hid (CO wy b p n2 false) := Lib.hid (by rw [hwy]; exact HSK.out); clear hwy hbb) | (go_at_call 15; refine (sick_at b p n2 false _ HSY.out).mono ?_; rintro e w' ⟨rfl, rfl⟩) | (go_at_call 8; refine (awake_wal _ (HTB.out.later (G4.out.trans HGY.out))).mono ?_; rintro e w' ⟨rfl, hb9⟩))
    go_ret
    refine ⟨?_, (G4.out.trans HGY.out).trans hb9⟩
    first | rfl | (show Ending.returned (.bool (!decide ((my : Int) ≤ (kk : Int) - (mx : Int)))) = _; rw [decide_eq_false (by omega)]; rfl)

theorem full_int (v1 v2 : Value) (n m : Nat) (A B : List Opm) (r : Int) (w : World) (h1 : Opr w v1 n A) (h2 : Opr w v2 m B) (hr : 0 ≤ r ∧ r ≤ 65535) (ht : Tab w) :
    Calls Tryd.prog 3 #[v1, v2, .int .u16 r] w fun e w' => e = .returned (.bool true) ∧ Below w.heap.size w w' := by
  obtain ⟨k, rfl⟩ : ∃ k : Nat, r = k := ⟨r.toNat, by omega⟩
  exact full_wal v1 v2 n m A B k w h1 h2 (by omega) ht

end Go.Proofs.YthacjeeafnblmaaDoor
