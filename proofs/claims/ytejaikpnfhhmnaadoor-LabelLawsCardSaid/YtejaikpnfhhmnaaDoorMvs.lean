/- Regions that draw their order and end with an operation that may write what was there: one walk. Numbers and types by name. -/
import Derived.Test.YtejaikpnfhhmnaaDoorLcw
import Derived.Test.YtejaikpnfhhmnaaDoorLcx
import Derived.Test.YtejaikpnfhhmnaaDoorLcz
import Derived.Test.YtejaikpnfhhmnaaDoorMov
/- The code's lattice. Made by wip/tools/genlat.py. Numbers and types by name. -/
namespace Go.Proofs.YtejaikpnfhhmnaaDoor
open Go.RowKit Go.Lib
set_option maxRecDepth 100000

theorem latt_no1 {n : Nat} {f : Nat → Nat → Bool} (h : joinsP n f = false) : lattP n f = false := by
  unfold lattP
  rw [h, Bool.false_and, Bool.and_false]
theorem latt_no2 {n : Nat} {f : Nat → Nat → Bool} (h : joinsP n (flipB f) = false) : lattP n f = false := by
  unfold lattP
  rw [h, Bool.and_false, Bool.and_false]
theorem latt_no3 {n : Nat} {f : Nat → Nat → Bool} (h : circP n f = true) : lattP n f = false := by
  unfold lattP
  rw [h, Bool.not_true, Bool.false_and]
theorem lst_low {n : Nat} {f : Nat → Nat → Bool} (h : Latt n (flipB f)) (ha : circP n f = false) (ht : ∀ x y z, x < n → y < n → z < n → f x y = true → f y z = true → f x z = true) (hn : 0 < n) : lstI n f (fun _ => true) = (lowI n f : Int) := by
  obtain ⟨h1, h2⟩ := foldJ_ok h (fun x y z hx hy hz a b => ht z y x hz hy hx b a) hn n (Nat.le_refl _)
  have e := leastP_one (c := fun _ => true) (circP_iff.1 ha) h1 rfl fun k hk _ => h2 k hk
  unfold lstI lowI
  rw [e]
  rfl
theorem lst_lows {n : Nat} {f : Nat → Nat → Bool} (h : lattP n f = true) (ht : ∀ x y z, x < n → y < n → z < n → f x y = true → f y z = true → f x z = true) (hn : 0 < n) : lstI n f (fun _ => true) = (lowI n f : Int) ∧ lstI n (flipB f) (fun _ => true) = (lowI n (flipB f) : Int) := by
  obtain ⟨h1, h2, h3⟩ := lattP_iff.1 h
  exact ⟨lst_low (latt_of (flip_anti h1) h3) h1 ht hn, lst_low (f := flipB f) (latt_of h1 h2) (flip_anti h1) (fun x y z hx hy hz a b => ht z y x hz hy hx b a) hn⟩

set_option maxHeartbeats 16000000 in
theorem code_lattice (lo base O C : Nat) (R cp : Nat → Nat) (b : Nat → Nat → Bool) (vN : Value) (n : Nat) (L : List (List UInt8)) (w : World) (hN : StrV w vN n L) (hNb : BlkP (fun k => k < base) vN) (hNl : BlkP (fun k => lo ≤ k) vN) (hlo : lo ≤ base) (hO : base ≤ O) (hM : Mat w base O C n R cp b) (h0 : 0 < n) (hn : n ≤ 1000) (hb : base ≤ w.heap.size) :
    Calls Tryd.prog 25 #[vN, .slice (some ⟨O, 0, none⟩) n C] w (LattTold lo base w L b) := by
  obtain ⟨aN, cN, rfl⟩ := hN.shape
  have HLow := Lib.hid (And.intro hNl (And.intro hlo hO))
  clear hNl hlo hO
  obtain ⟨RB, hRB⟩ : ∃ RB, w.heap.size = RB := ⟨_, rfl⟩
  obtain ⟨w1, hw1⟩ : ∃ w1, w.alloc (.cells #[.slice none 0 0, .slice none 0 0, .slice none 0 0, .slice none 0 0, .int .i64 0, .int .i64 0] 29) = w1 := ⟨_, rfl⟩
  have hg1 : Grow w w1 := by rw [← hw1]; exact (Below.refl _ _).alloc (Nat.le_refl _) _
  have hB1 : LatB w1 RB (.slice none 0 0) (.slice none 0 0) (.slice none 0 0) (.slice none 0 0) (.int .i64 0) (.int .i64 0) := by rw [← hw1, ← hRB]; exact LatB.new _ _ _ _ _ _ _
  have hRr : ∀ i, i < n → R i < RB := fun i hi => by have := (hM.lt hi).2; omega
  have hOr : O < RB := by
    have := World.block_lt_of_cell? w _ (hM.outer 0 h0)
    rw [hRB] at this
    exact this
  have P1 := code_closure base O C n R cp b w1 (hM.later hg1) hn
  have HN := Lib.hid (And.intro hN (And.intro hNb (And.intro hg1 (And.intro hB1 (And.intro hRr (And.intro hOr (And.intro hM.low (And.intro hb hRB))))))))
  clear hN hNb hg1 hB1 hRr hOr hM hb
  have hRB2 := hRB
  go_enter Tryd.func25, Tryd.ntmps25
  go_wp2_with fail
  refine P1.mono ?_
  rintro e w2 ⟨rfl, hc, f, hcl, hM2⟩
  have H2 : Hid (LatB w2 RB (.slice none 0 0) (.slice none 0 0) (.slice none 0 0) (.slice none 0 0) (.int .i64 0) (.int .i64 0) ∧ Below base w w2 ∧ Clos n b f ∧ Mat w2 base O C n R cp f) := Lib.hid ⟨HN.out.2.2.2.1.chg hc (fun hm => by
    obtain ⟨i, hi, he⟩ := List.mem_map.1 hm
    have := HN.out.2.2.2.2.1 i (by simpa using hi)
    omega), (HN.out.2.2.1.mono HN.out.2.2.2.2.2.2.2.1).trans (hc.below (Nat.le_trans HN.out.2.2.2.2.2.2.2.1 HN.out.2.2.1.size) HN.out.2.2.2.2.2.2.1), hcl, hM2⟩
  have P2 := code_turned _ n f w2 hM2.tab hn
  clear hc hcl hM2 P1 hw1
  go_wp2_with fail
  refine P2.mono ?_
  rintro e w3 ⟨aG, cG, rfl, hG, hg3⟩
  have H3 := Lib.hid (And.intro hG hg3)
  have P3 := code_bounds _ n f w3 (H2.out.2.2.2.tab.later hg3) hn
  clear hG hg3 P2
  go_wp2_with fail
  refine P3.mono ?_
  rintro e w4 ⟨hg4, hj⟩
  have P4 := code_bounds _ n (flipB f) w4 (H3.out.1.toV.later hg4) hn
  have H4 := Lib.hid (Grow.trans H3.out.2 hg4)
  have HG34 := Lib.hid hg4
  clear P3 hg4
  rcases hj with ⟨hf, rfl⟩ | ⟨ht, aJ, cJ, rfl, hJ⟩
  · have HF := Lib.hid (latt_no1 hf)
    clear hf
    go_wp2_with fail
    refine P4.mono ?_
    rintro e w5 ⟨hg5, hj⟩
    obtain ⟨vM, bM, rfl⟩ : ∃ v b, e = .returned (.tuple #[v, .bool b]) := by
      rcases hj with ⟨_, rfl⟩ | ⟨_, aM, cM, rfl, _⟩
      · exact ⟨_, _, rfl⟩
      · exact ⟨_, _, rfl⟩
    clear hj P4
    have HG := Lib.hid (Grow.trans H4.out hg5)
    have HB := Lib.hid (H2.out.1.later HG.out)
    obtain ⟨⟨m0, m1, m2⟩, m3, m4, m5⟩ := HB.out.cells
    obtain ⟨⟨z0, z1, z2⟩, z3, z4, z5⟩ := HB.out.free
    have HS := Lib.hid (fun q => lat_set6 (w := w5.drewN q) HB.out.h (.slice none 0 0) (.slice none 0 0) (.slice none 0 0) (.slice none 0 0) (.int .i64 0) (.int .i64 0))
    clear hg5
    go_wp2_with fail
    refine bodyPost_ret (res_lat2 rfl _ _ RB [.slice none 0 0, .slice none 0 0, .slice none 0 0, .slice none 0 0, .int .i64 0, .int .i64 0] rfl (HS.out 0).1 _ rfl rfl) rfl ⟨?_, f, by rw [← HN.out.1.1]; exact H2.out.2.2.1, .inl ⟨by rw [← HN.out.1.1]; exact HF.out, rfl⟩⟩
    have e5 : Below base w (w5.drewN 0) := below_drewN (H2.out.2.1.trans (HG.out.mono (Nat.le_trans HN.out.2.2.2.2.2.2.2.1 H2.out.2.1.size))) 0
    exact e5.trans ((HS.out 0).2.below (Nat.le_trans HN.out.2.2.2.2.2.2.2.1 e5.size) (by simp; have := HN.out.2.2.2.2.2.2.2; omega))
  · have HJ := Lib.hid hJ
    have HT := Lib.hid ht
    clear hJ ht
    go_wp2_with fail
    refine P4.mono ?_
    rintro e w5 ⟨hg5, hj⟩
    rcases hj with ⟨hf, rfl⟩ | ⟨ht2, aM, cM, rfl, hMt⟩
    · have HF := Lib.hid (latt_no2 hf)
      clear hf P4
      have HG := Lib.hid (Grow.trans H4.out hg5)
      have HB := Lib.hid (H2.out.1.later HG.out)
      obtain ⟨⟨m0, m1, m2⟩, m3, m4, m5⟩ := HB.out.cells
      obtain ⟨⟨z0, z1, z2⟩, z3, z4, z5⟩ := HB.out.free
      have HS := Lib.hid (fun q => lat_set6 (w := w5.drewN q) HB.out.h (.slice none 0 0) (.slice none 0 0) (.slice none 0 0) (.slice none 0 0) (.int .i64 0) (.int .i64 0))
      clear hg5
      go_wp2_with fail
      refine bodyPost_ret (res_lat2 rfl _ _ RB [.slice none 0 0, .slice none 0 0, .slice none 0 0, .slice none 0 0, .int .i64 0, .int .i64 0] rfl (HS.out 0).1 _ rfl rfl) rfl ⟨?_, f, by rw [← HN.out.1.1]; exact H2.out.2.2.1, .inl ⟨by rw [← HN.out.1.1]; exact HF.out, rfl⟩⟩
      have e5 : Below base w (w5.drewN 0) := below_drewN (H2.out.2.1.trans (HG.out.mono (Nat.le_trans HN.out.2.2.2.2.2.2.2.1 H2.out.2.1.size))) 0
      exact e5.trans ((HS.out 0).2.below (Nat.le_trans HN.out.2.2.2.2.2.2.2.1 e5.size) (by simp; have := HN.out.2.2.2.2.2.2.2; omega))
    · have HT2 := Lib.hid ht2
      have HMt := Lib.hid hMt
      have HCi := Lib.hid (code_circular _ n f w5 (H2.out.2.2.2.tab.later (Grow.trans H4.out hg5)) hn)
      clear hMt ht2 P4
      cases hci : circP n f with
      | true =>
        have HF := Lib.hid (latt_no3 hci)
        rw [hci] at HCi
        clear hci
        have HG := Lib.hid (Grow.trans H4.out hg5)
        have HB := Lib.hid (H2.out.1.later HG.out)
        obtain ⟨⟨m0, m1, m2⟩, m3, m4, m5⟩ := HB.out.cells
        obtain ⟨⟨z0, z1, z2⟩, z3, z4, z5⟩ := HB.out.free
        have HS := Lib.hid (fun q => lat_set6 (w := w5.drewN q) HB.out.h (.slice none 0 0) (.slice none 0 0) (.slice none 0 0) (.slice none 0 0) (.int .i64 0) (.int .i64 0))
        clear hg5
        go_wp2_with (go_at_call 47; refine HCi.out.mono ?_; rintro e w' ⟨rfl, q, rfl⟩)
        refine bodyPost_ret (res_lat2 rfl _ _ RB [.slice none 0 0, .slice none 0 0, .slice none 0 0, .slice none 0 0, .int .i64 0, .int .i64 0] rfl (HS.out q).1 _ rfl rfl) rfl ⟨?_, f, by rw [← HN.out.1.1]; exact H2.out.2.2.1, .inl ⟨by rw [← HN.out.1.1]; exact HF.out, rfl⟩⟩
        have e5 : Below base w (w5.drewN q) := below_drewN (H2.out.2.1.trans (HG.out.mono (Nat.le_trans HN.out.2.2.2.2.2.2.2.1 H2.out.2.1.size))) q
        exact e5.trans ((HS.out q).2.below (Nat.le_trans HN.out.2.2.2.2.2.2.2.1 e5.size) (by simp; have := HN.out.2.2.2.2.2.2.2; omega))
      | false =>
        have HF := Lib.hid (show lattP n f = true from lattP_iff.2 ⟨hci, HT.out, HT2.out⟩)
        have HLo := Lib.hid (lst_lows HF.out H2.out.2.2.1.trans h0)
        rw [hci] at HCi
        clear hci
        have HG := Lib.hid (Grow.trans H4.out hg5)
        have HG5 := Lib.hid hg5
        clear hg5
        go_wp2_with (first | (go_at_call 49; refine HL2.out.mono ?_; rintro e w8 ⟨rfl, q3, hw8⟩; have hg8 : Grow w7 w8 := (by rw [hw8]; exact below_drewN (Grow.refl w7) q3); have HG8 := Lib.hid (Grow.trans HG7.out hg8); clear hw8 hg8; have HB := Lib.hid (H2.out.1.later (Grow.trans HG.out HG8.out)); obtain ⟨⟨m0, m1, m2⟩, m3, m4, m5⟩ := HB.out.cells; obtain ⟨⟨z0, z1, z2⟩, z3, z4, z5⟩ := HB.out.free; have HS := Lib.hid (lat_set6 (w := w8) HB.out.h (.slice aN n cN) (.slice (some ⟨O, 0, none⟩) n C) (.slice aJ n cJ) (.slice aM n cM) (.int .i64 (lowI n f : Int)) (.int .i64 (lowI n (flipB f) : Int)))) | (go_at_call 49; refine HL1.out.mono ?_; rintro e w7 ⟨rfl, q2, hw7⟩; have hg7 : Grow w6 w7 := (by rw [hw7]; exact below_drewN (Grow.refl w6) q2); have HG7 := Lib.hid (Grow.trans HG6.out hg7); clear hw7 hg7; have HL2 := Lib.hid (code_least_all (.slice aG n cG) n (flipB f) w7 (H3.out.1.toV.later (Grow.trans HG34.out (Grow.trans HG5.out HG7.out))) hn); rw [HLo.out.2] at HL2) | (go_at_call 47; refine HCi.out.mono ?_; rintro e w6 ⟨rfl, q, hw6⟩; have hg6 : Grow w5 w6 := (by rw [hw6]; exact below_drewN (Grow.refl w5) q); have HG6 := Lib.hid hg6; clear hw6 hg6; have HL1 := Lib.hid (code_least_all _ n f w6 (H2.out.2.2.2.tab.later (Grow.trans HG.out HG6.out)) hn); rw [HLo.out.1] at HL1))
        generalize hW9 : (((((w8.setCell ⟨RB, 0, none⟩ _).setCell ⟨RB, 1, none⟩ _).setCell ⟨RB, 2, none⟩ _).setCell ⟨RB, 3, none⟩ _).setCell ⟨RB, 4, none⟩ _).setCell ⟨RB, 5, none⟩ _ = w9
        have HS2 := HS.out
        rw [hW9] at HS2
        have HG28 := Grow.trans HG.out HG8.out
        have hbs := HN.out.2.2.2.2.2.2.2.1
        have e8 : Below base w w8 := H2.out.2.1.trans (HG28.mono (Nat.le_trans hbs H2.out.2.1.size))
        have e9 : Below base w w9 := e8.trans (HS2.2.below (Nat.le_trans hbs e8.size) (by simp; omega))
        have hc89 := HS2.2
        have s2 : RB < w2.heap.size := H2.out.1.lt
        have s3 := H3.out.2.size
        have s4 := HG34.out.size
        refine bodyPost_ret (res_lat2 rfl _ _ RB [.slice aN n cN, .slice (some ⟨O, 0, none⟩) n C, .slice aJ n cJ, .slice aM n cM, .int .i64 (lowI n f : Int), .int .i64 (lowI n (flipB f) : Int)] rfl HS2.1 _ rfl rfl) rfl ⟨e9, f, by rw [← HN.out.1.1]; exact H2.out.2.2.1, .inr ⟨by rw [← HN.out.1.1]; exact HF.out, _, rfl, aN, cN, some ⟨O, 0, none⟩, C, aJ, cJ, aM, cM, n, HN.out.1.1, rfl, ⟨⟨HN.out.1.1, HN.out.1.2.1, HN.out.1.2.2.low e9 HN.out.2.1⟩, HLow.out.1⟩, ?_, ?_, ?_⟩⟩
        · refine ((Mat.chg (H2.out.2.2.2.later HG28) hc89 ?_ ?_).tabL HLow.out.2.2).mono HLow.out.2.1
          · have := HN.out.2.2.2.2.2.1
            simp
            omega
          · intro i hi
            have := HN.out.2.2.2.2.1 i hi
            simp
            omega
        · exact ((HJ.out.later (Grow.trans HG5.out HG8.out)).chg hc89 (by simp; omega)).mono (Nat.le_trans HLow.out.2.1 (by omega))
        · exact ((HMt.out.later HG8.out).chg hc89 (by simp; omega)).mono (Nat.le_trans HLow.out.2.1 (by omega))

end Go.Proofs.YtejaikpnfhhmnaaDoor

namespace Go.Proofs.YtejaikpnfhhmnaaDoor
open Go.RowKit Go.Lib
section
variable {P : Program} {md : Region.Mode} {ops : Array Oper}

/-- Every order; each step but the one of place k into a later world. -/
def wpMvs (P : Program) (md : Region.Mode) (ops : Array Oper) (k : Nat) (Q : Act → World → Prop) : Nat → Array Bool → Act → World → Prop
  | 0, listed, a, w => Region.ready md ops listed = [] ∧ Q a w
  | fuel + 1, listed, a, w =>
    (Region.ready md ops listed = [] → Q a w) ∧
    ∀ i ∈ Region.ready md ops listed, mvOp P ops i (fun a' w' => (i = k ∨ Grow w w') ∧ wpMvs P md ops k Q fuel (listed.setIfInBounds i true) a' w') a w

theorem wpAny_of_mvs {k : Nat} {Q : Act → World → Prop} {Q' : Exit → Act → World → Prop} (hQ : ∀ a w, Q a w → Q' .normal a w) : ∀ (fuel : Nat) (listed : Array Bool) (a : Act) (w : World),
    wpMvs P md ops k Q fuel listed a w → wpAny P md ops Q' fuel listed a w
  | 0, _, _, _, h => ⟨h.1, hQ _ _ h.2⟩
  | fuel + 1, _, _, _, h => ⟨fun h0 => hQ _ _ (h.1 h0), fun i hi => wpOp_mono (fun a' w' h' => wpAny_of_mvs hQ fuel _ a' w' h'.2) (wpOp_of_mvOp (h.2 i hi))⟩

/-- The operation k waits for i. -/
def waitB (md : Region.Mode) (ops : Array Oper) (k i : Nat) : Bool :=
  match ops[k]? with
  | none => false
  | some o => o.after.any fun e => Region.binds md e && e.on == i

theorem wait_not {k i : Nat} {listed : Array Bool} (h : waitB md ops k i = true) (hun : listed.getD i true = false) : k ∉ Region.ready md ops listed := by
  intro hm
  obtain ⟨_, o, ho, hall⟩ := mem_ready.1 hm
  unfold waitB at h
  rw [ho] at h
  obtain ⟨e, he, hb⟩ := Array.any_eq_true'.1 h
  simp only [Bool.and_eq_true, beq_iff_eq] at hb
  have h2 := hall e he hb.1
  rw [hb.2] at h2
  rcases Nat.lt_or_ge i listed.size with h' | h'
  · simp [h'] at hun h2; rw [hun] at h2; cases h2
  · simp [Array.getElem?_eq_none h'] at hun

theorem wpMvs_first {k : Nat} {Q : Act → World → Prop} {i : Nat} {oi : Oper} {v : Value} (hi : ops[i]? = some oi) (hL : waitB md ops k i = true) (hsel : ∀ (j : Nat) (o : Oper) cs b, ops[j]? = some o → o.op ≠ .select cs b) :
    ∀ (fuel : Nat) (listed : Array Bool) (a : Act) (w : World),
      (∀ j oj, ops[j]? = some oj → j ≠ i → listed.getD j true = false → (∀ e ∈ oj.after, Region.binds md e = true → e.on ≠ i) → oi.apart ops oj = true) →
      i ∈ Region.ready md ops listed → Ups P ops w oi v a →
      wpMvs P md ops k Q fuel (listed.setIfInBounds i true) (a.put oi.dst v) w → wpMvs P md ops k Q (fuel + 1) listed a w := by
  intro fuel
  induction fuel with
  | zero =>
    intro listed a w _ hr hy H
    refine ⟨fun h => (by rw [h] at hr; cases hr), fun j hj => ?_⟩
    by_cases hji : j = i
    · subst hji; exact YieldsAt.mvOp hi (hy w (Grow.refl w)) ⟨.inr (Grow.refl w), H⟩
    · have := ready_mono hj hji
      rw [H.1] at this
      cases this
  | succ fuel ih =>
    intro listed a w hfree hr hy H
    refine ⟨fun h => (by rw [h] at hr; cases hr), fun j hj => ?_⟩
    by_cases hji : j = i
    · subst hji; exact YieldsAt.mvOp hi (hy w (Grow.refl w)) ⟨.inr (Grow.refl w), H⟩
    · have hjk : j ≠ k := by
        rintro rfl
        exact wait_not hL (mem_ready.1 hr).1 hj
      have h1 := mvOp_mono (K' := fun a' w' => Grow w w' ∧ wpMvs P md ops k Q fuel ((listed.setIfInBounds i true).setIfInBounds j true) a' w') (fun a' w' h => ⟨h.1.resolve_left hjk, h.2⟩) (H.2 j (ready_mono hj hji))
      obtain ⟨hjun, oj, hoj, hall⟩ := mem_ready.1 hj
      have hnot : ∀ e ∈ oj.after, Region.binds md e = true → e.on ≠ i := fun e he hb heq => by
        have h1 := hall e he hb
        have h0 := (mem_ready.1 hr).1
        rw [heq] at h1
        rcases Nat.lt_or_ge i listed.size with h' | h'
        · simp [h'] at h0 h1; rw [h0] at h1; cases h1
        · simp [Array.getElem?_eq_none h'] at h1
      have h2 := mvOp_put hoj (hfree j oj hoj hji hjun hnot) (fun cs b => hsel i oi cs b hi) (fun cs b => hsel j oj cs b hoj) hy h1
      have hfree' : ∀ q ok, ops[q]? = some ok → q ≠ i → (listed.setIfInBounds j true).getD q true = false →
          (∀ e ∈ ok.after, Region.binds md e = true → e.on ≠ i) → oi.apart ops ok = true := fun q ok hk hki hun hno => by
        refine hfree q ok hk hki ?_ hno
        by_cases hjk : j = q
        · subst hjk; exact hjun
        · rw [getD_set_ne true hjk] at hun; exact hun
      refine mvOp_mono (fun a' w' h3 => ⟨.inr h3.1, ih (listed.setIfInBounds j true) a' w' hfree' (ready_mono hr (Ne.symm hji)) h3.2.1 ?_⟩) h2
      rw [Array.setIfInBounds_comm _ _ hji]
      exact h3.2.2

/-- One walk. -/
def wpLins (P : Program) (ops : Array Oper) (k : Nat) (Q : Act → World → Prop) : List (Nat × Bool × Oper) → Act → World → Prop
  | [], a, w => Q a w
  | (_, true, o) :: r, a, w => ∃ v, Ups P ops w o v a ∧ wpLins P ops k Q r (a.put o.dst v) w
  | (j, false, o) :: r, a, w => mvRun P ops o (fun a' w' => (j = k ∨ Grow w w') ∧ wpLins P ops k Q r a' w') a w

theorem wpMvs_of_lin {k : Nat} {Q : Act → World → Prop} (hs : Region.noSelect ops = true) : ∀ (l : List (Nat × Bool × Oper)) (listed : Array Bool) (a : Act) (w : World), (∀ x ∈ l, ops[x.1]? = some x.2.2) → (∀ x ∈ l, x.2.1 = true → waitB md ops k x.1 = true) →
    mvB md ops l listed = true → wpLins P ops k Q l a w → wpMvs P md ops k Q l.length listed a w
  | [], _, _, _, _, _, hB, h => ⟨by simpa [mvB] using hB, h⟩
  | (j, true, o) :: r, listed, a, w, hat, hnk, hB, h => by
    simp only [mvB, Bool.and_eq_true] at hB
    obtain ⟨v, hy, hK⟩ := h
    have h0 : ops[j]? = some o := hat (j, true, o) (List.mem_cons_self ..)
    exact wpMvs_first h0 (hnk (j, true, o) (List.mem_cons_self ..) rfl) (Region.noSelect_spec hs) r.length listed a w (Region.free_spec h0 hB.1.2) (by simpa using hB.1.1) hy
      (wpMvs_of_lin hs r _ _ w (fun x hx => hat x (by simp [hx])) (fun x hx => hnk x (by simp [hx])) hB.2 hK)
  | (j, false, o) :: r, listed, a, w, hat, hnk, hB, h => by
    simp only [mvB, Bool.and_eq_true, decide_eq_true_eq] at hB
    refine ⟨fun h1 => (by rw [hB.1] at h1; cases h1), fun i hi => ?_⟩
    rw [hB.1] at hi
    obtain rfl : i = j := by simpa using hi
    have h0 : ops[i]? = some o := hat (i, false, o) (List.mem_cons_self ..)
    have hm : mvOp P ops i (fun a' w' => (i = k ∨ Grow w w') ∧ wpLins P ops k Q r a' w') a w := by unfold mvOp; simp only [h0]; exact h
    exact mvOp_mono (fun a' w' h' => ⟨h'.1, wpMvs_of_lin hs r _ a' w' (fun x hx => hat x (by simp [hx])) (fun x hx => hnk x (by simp [hx])) hB.2 h'.2⟩) hm

def mvsOk (ops : Array Oper) (k : Nat) (items : List (Nat × Bool × Oper)) : Bool := mvOk ops items && items.all fun x => !x.2.1 || waitB .any ops k x.1

theorem wp_region_mvs {id : Nat} {Q : Exit → Act → World → Prop} {a : Act} {w : World} {l : List Oper} (k : Nat) (segs : List (Nat × Nat × Bool)) (hm : P.follows .mixedOrders = true) (hB : mvsOk l.toArray k (mvAll segs l) = true)
    (h : wpLins P l.toArray k (fun a' w' => Q .normal a' w') (mvAll segs l) a w.drew) : (Code.region id l.toArray true).wp P Q a w := by
  simp only [mvsOk, mvOk, Bool.and_eq_true, beq_iff_eq] at hB
  refine wp_region_any hm (wpAny_of_mvs (k := k) (Q := fun a' w' => Q .normal a' w') (fun _ _ h => h) _ _ _ _ ?_)
  have := wpMvs_of_lin (md := .any) (k := k) hB.1.1.1 (mvAll segs l) (Array.replicate l.toArray.size false) a w.drew (mvAll_at l segs) (fun x hx hb => by
    have := List.all_eq_true.1 hB.2 x hx
    simp only [Bool.or_eq_true, Bool.not_eq_true'] at this
    rcases this with h | h
    · rw [hb] at h; cases h
    · exact h) hB.1.2 h
  rw [hB.1.1.2] at this
  exact this

theorem wpLins_nil {k : Nat} {Q : Act → World → Prop} {a : Act} {w : World} (h : Q a w) : wpLins P ops k Q [] a w := h

theorem wpLins_still {k : Nat} {Q : Act → World → Prop} {j : Nat} {o : Oper} {r : List (Nat × Bool × Oper)} {a : Act} {w : World} (v : Value) (hv : ∀ w', Grow w w' → ∀ K : Value → Prop, K v → mvVal P ops o a w' K)
    (h : ∀ K : Act → Prop, (∀ a, wpLins P ops k Q r a w → K a) → K (a.put o.dst v)) : wpLins P ops k Q ((j, true, o) :: r) a w := by
  refine ⟨v, fun w' hg => ?_, h _ fun _ h => h⟩
  have := hv w' hg (fun u => u = v) rfl
  unfold mvVal at this
  unfold YieldsAt
  by_cases hw : Region.wanted o (yielded ops a.tmps) = true
  · left
    rw [if_pos hw] at this
    refine ⟨hw, ?_⟩
    split at this
    · next heq => obtain ⟨rfl, rfl⟩ := this; exact .inl heq
    · next heq => obtain ⟨rfl, rfl⟩ := this; exact .inr (.inl ⟨heq, rfl⟩)
    · next heq => obtain ⟨rfl, u, hc, rfl⟩ := this; exact .inr (.inr ⟨_, _, heq, hc⟩)
    · exact this.elim
  · right
    rw [if_neg hw] at this
    exact ⟨by simpa using hw, this.symm⟩

theorem wpLins_call {k : Nat} {Q : Act → World → Prop} {j : Nat} {o : Oper} {r : List (Nat × Bool × Oper)} {a : Act} {w : World}
    (h : ∀ K : Act → World → Prop, (∀ a w', Grow w w' → wpLins P ops k Q r a w' → K a w') → mvRun P ops o K a w) : wpLins P ops k Q ((j, false, o) :: r) a w :=
  mvRun_mono (fun _ _ h => ⟨.inr h.1, h.2⟩) (h (fun a' w' => Grow w w' ∧ wpLins P ops k Q r a' w') fun _ _ hg hk => ⟨hg, hk⟩)
theorem wpLins_last {k : Nat} {Q : Act → World → Prop} {o : Oper} {r : List (Nat × Bool × Oper)} {a : Act} {w : World}
    (h : ∀ K : Act → World → Prop, (∀ a w', wpLins P ops k Q r a w' → K a w') → mvRun P ops o K a w) : wpLins P ops k Q ((k, false, o) :: r) a w :=
  mvRun_mono (fun _ _ h => ⟨.inl rfl, h⟩) (h (fun a' w' => wpLins P ops k Q r a' w') fun _ _ hk => hk)
end

end Go.Proofs.YtejaikpnfhhmnaaDoor
