/- The reference's place and insert. Numbers and types by name. -/
import Derived.Test.YtlgfijjkbomejaaDoorLla
import Derived.Test.YtlgfijjkbomejaaDoorLcw
import Derived.Test.YtlgfijjkbomejaaDoorLcx
import Derived.Test.YtlgfijjkbomejaaDoorLcz
import Derived.Test.YtlgfijjkbomejaaDoorLst
import Derived.Sort.Walk0
/- The code's lattice. Made by wip/tools/genlat.py. Numbers and types by name. -/
namespace Go.Proofs.YtlgfijjkbomejaaDoor
open Go.RowKit Go.Lib
set_option maxRecDepth 100000

theorem latt_no1 {n : Nat} {f : Nat → Nat → Bool} (h : joinsP n f = false) : lattP n f = false := by
  unfold lattP
  rw [h, Bool.false_and, Bool.and_false]
theorem latt_no2 {n : Nat} {f : Nat → Nat → Bool} (h : joinsP n (flipB f) = false) : lattP n f = false := by
  unfold lattP
  rw [h, Bool.and_false, Bool.and_false]
theorem latt_no3 {n : Nat} {f : Nat → Nat → Bool} (h : circP n f = true) : lattP n f = false := by
  unfold lattP
  rw [h, Bool.not_true, Bool.false_and]
theorem lst_low {n : Nat} {f : Nat → Nat → Bool} (h : Latt n (flipB f)) (ha : circP n f = false) (ht : ∀ x y z, x < n → y < n → z < n → f x y = true → f y z = true → f x z = true) (hn : 0 < n) : lstI n f (fun _ => true) = (lowI n f : Int) := by
  obtain ⟨h1, h2⟩ := foldJ_ok h (fun x y z hx hy hz a b => ht z y x hz hy hx b a) hn n (Nat.le_refl _)
  have e := leastP_one (c := fun _ => true) (circP_iff.1 ha) h1 rfl fun k hk _ => h2 k hk
  unfold lstI lowI
  rw [e]
  rfl
theorem lst_lows {n : Nat} {f : Nat → Nat → Bool} (h : lattP n f = true) (ht : ∀ x y z, x < n → y < n → z < n → f x y = true → f y z = true → f x z = true) (hn : 0 < n) : lstI n f (fun _ => true) = (lowI n f : Int) ∧ lstI n (flipB f) (fun _ => true) = (lowI n (flipB f) : Int) := by
  obtain ⟨h1, h2, h3⟩ := lattP_iff.1 h
  exact ⟨lst_low (latt_of (flip_anti h1) h3) h1 ht hn, lst_low (f := flipB f) (latt_of h1 h2) (flip_anti h1) (fun x y z hx hy hz a b => ht z y x hz hy hx b a) hn⟩

set_option maxHeartbeats 16000000 in
theorem code_lattice (lo base O C : Nat) (R cp : Nat → Nat) (b : Nat → Nat → Bool) (vN : Value) (n : Nat) (L : List (List UInt8)) (w : World) (hN : StrV w vN n L) (hNb : BlkP (fun k => k < base) vN) (hNl : BlkP (fun k => lo ≤ k) vN) (hlo : lo ≤ base) (hO : base ≤ O) (hM : Mat w base O C n R cp b) (h0 : 0 < n) (hn : n ≤ 1000) (hb : base ≤ w.heap.size) :
    Calls Tryd.prog 10 #[vN, .slice (some ⟨O, 0, none⟩) n C] w (LattTold lo base w L b) := by
  obtain ⟨aN, cN, rfl⟩ := hN.shape
  have HLow := Lib.hid (And.intro hNl (And.intro hlo hO))
  clear hNl hlo hO
  obtain ⟨RB, hRB⟩ : ∃ RB, w.heap.size = RB := ⟨_, rfl⟩
  obtain ⟨w1, hw1⟩ : ∃ w1, w.alloc (.cells #[.slice none 0 0, .slice none 0 0, .slice none 0 0, .slice none 0 0, .int .i64 0, .int .i64 0] 31) = w1 := ⟨_, rfl⟩
  have hg1 : Grow w w1 := by rw [← hw1]; exact (Below.refl _ _).alloc (Nat.le_refl _) _
  have hB1 : LatB w1 RB (.slice none 0 0) (.slice none 0 0) (.slice none 0 0) (.slice none 0 0) (.int .i64 0) (.int .i64 0) := by rw [← hw1, ← hRB]; exact LatB.new _ _ _ _ _ _ _
  have hRr : ∀ i, i < n → R i < RB := fun i hi => by have := (hM.lt hi).2; omega
  have hOr : O < RB := by
    have := World.block_lt_of_cell? w _ (hM.outer 0 h0)
    rw [hRB] at this
    exact this
  have P1 := code_closure base O C n R cp b w1 (hM.later hg1) hn
  have HN := Lib.hid (And.intro hN (And.intro hNb (And.intro hg1 (And.intro hB1 (And.intro hRr (And.intro hOr (And.intro hM.low (And.intro hb hRB))))))))
  clear hN hNb hg1 hB1 hRr hOr hM hb
  have hRB2 := hRB
  go_enter Tryd.func10, Tryd.ntmps10
  go_wp2_with fail
  refine P1.mono ?_
  rintro e w2 ⟨rfl, hc, f, hcl, hM2⟩
  have H2 : Hid (LatB w2 RB (.slice none 0 0) (.slice none 0 0) (.slice none 0 0) (.slice none 0 0) (.int .i64 0) (.int .i64 0) ∧ Below base w w2 ∧ Clos n b f ∧ Mat w2 base O C n R cp f) := Lib.hid ⟨HN.out.2.2.2.1.chg hc (fun hm => by
    obtain ⟨i, hi, he⟩ := List.mem_map.1 hm
    have := HN.out.2.2.2.2.1 i (by simpa using hi)
    omega), (HN.out.2.2.1.mono HN.out.2.2.2.2.2.2.2.1).trans (hc.below (Nat.le_trans HN.out.2.2.2.2.2.2.2.1 HN.out.2.2.1.size) HN.out.2.2.2.2.2.2.1), hcl, hM2⟩
  have P2 := code_turned _ n f w2 hM2.tab hn
  clear hc hcl hM2 P1 hw1
  go_wp2_with fail
  refine P2.mono ?_
  rintro e w3 ⟨aG, cG, rfl, hG, hg3⟩
  have H3 := Lib.hid (And.intro hG hg3)
  have P3 := code_bounds _ n f w3 (H2.out.2.2.2.tab.later hg3) hn
  clear hG hg3 P2
  go_wp2_with fail
  refine P3.mono ?_
  rintro e w4 ⟨hg4, hj⟩
  have P4 := code_bounds _ n (flipB f) w4 (H3.out.1.toV.later hg4) hn
  have H4 := Lib.hid (Grow.trans H3.out.2 hg4)
  have HG34 := Lib.hid hg4
  clear P3 hg4
  rcases hj with ⟨hf, rfl⟩ | ⟨ht, aJ, cJ, rfl, hJ⟩
  · have HF := Lib.hid (latt_no1 hf)
    clear hf
    go_wp2_with fail
    refine P4.mono ?_
    rintro e w5 ⟨hg5, hj⟩
    obtain ⟨vM, bM, rfl⟩ : ∃ v b, e = .returned (.tuple #[v, .bool b]) := by
      rcases hj with ⟨_, rfl⟩ | ⟨_, aM, cM, rfl, _⟩
      · exact ⟨_, _, rfl⟩
      · exact ⟨_, _, rfl⟩
    clear hj P4
    have HG := Lib.hid (Grow.trans H4.out hg5)
    have HB := Lib.hid (H2.out.1.later HG.out)
    obtain ⟨⟨m0, m1, m2⟩, m3, m4, m5⟩ := HB.out.cells
    obtain ⟨⟨z0, z1, z2⟩, z3, z4, z5⟩ := HB.out.free
    have HS := Lib.hid (fun q => lat_set6 (w := w5.drewN q) HB.out.h (.slice none 0 0) (.slice none 0 0) (.slice none 0 0) (.slice none 0 0) (.int .i64 0) (.int .i64 0))
    clear hg5
    go_wp2_with fail
    refine bodyPost_ret (res_lat2 rfl _ _ RB [.slice none 0 0, .slice none 0 0, .slice none 0 0, .slice none 0 0, .int .i64 0, .int .i64 0] rfl (HS.out 0).1 _ rfl rfl) rfl ⟨?_, f, by rw [← HN.out.1.1]; exact H2.out.2.2.1, .inl ⟨by rw [← HN.out.1.1]; exact HF.out, rfl⟩⟩
    have e5 : Below base w (w5.drewN 0) := below_drewN (H2.out.2.1.trans (HG.out.mono (Nat.le_trans HN.out.2.2.2.2.2.2.2.1 H2.out.2.1.size))) 0
    exact e5.trans ((HS.out 0).2.below (Nat.le_trans HN.out.2.2.2.2.2.2.2.1 e5.size) (by simp; have := HN.out.2.2.2.2.2.2.2; omega))
  · have HJ := Lib.hid hJ
    have HT := Lib.hid ht
    clear hJ ht
    go_wp2_with fail
    refine P4.mono ?_
    rintro e w5 ⟨hg5, hj⟩
    rcases hj with ⟨hf, rfl⟩ | ⟨ht2, aM, cM, rfl, hMt⟩
    · have HF := Lib.hid (latt_no2 hf)
      clear hf P4
      have HG := Lib.hid (Grow.trans H4.out hg5)
      have HB := Lib.hid (H2.out.1.later HG.out)
      obtain ⟨⟨m0, m1, m2⟩, m3, m4, m5⟩ := HB.out.cells
      obtain ⟨⟨z0, z1, z2⟩, z3, z4, z5⟩ := HB.out.free
      have HS := Lib.hid (fun q => lat_set6 (w := w5.drewN q) HB.out.h (.slice none 0 0) (.slice none 0 0) (.slice none 0 0) (.slice none 0 0) (.int .i64 0) (.int .i64 0))
      clear hg5
      go_wp2_with fail
      refine bodyPost_ret (res_lat2 rfl _ _ RB [.slice none 0 0, .slice none 0 0, .slice none 0 0, .slice none 0 0, .int .i64 0, .int .i64 0] rfl (HS.out 0).1 _ rfl rfl) rfl ⟨?_, f, by rw [← HN.out.1.1]; exact H2.out.2.2.1, .inl ⟨by rw [← HN.out.1.1]; exact HF.out, rfl⟩⟩
      have e5 : Below base w (w5.drewN 0) := below_drewN (H2.out.2.1.trans (HG.out.mono (Nat.le_trans HN.out.2.2.2.2.2.2.2.1 H2.out.2.1.size))) 0
      exact e5.trans ((HS.out 0).2.below (Nat.le_trans HN.out.2.2.2.2.2.2.2.1 e5.size) (by simp; have := HN.out.2.2.2.2.2.2.2; omega))
    · have HT2 := Lib.hid ht2
      have HMt := Lib.hid hMt
      have HCi := Lib.hid (code_circular _ n f w5 (H2.out.2.2.2.tab.later (Grow.trans H4.out hg5)) hn)
      clear hMt ht2 P4
      cases hci : circP n f with
      | true =>
        have HF := Lib.hid (latt_no3 hci)
        rw [hci] at HCi
        clear hci
        have HG := Lib.hid (Grow.trans H4.out hg5)
        have HB := Lib.hid (H2.out.1.later HG.out)
        obtain ⟨⟨m0, m1, m2⟩, m3, m4, m5⟩ := HB.out.cells
        obtain ⟨⟨z0, z1, z2⟩, z3, z4, z5⟩ := HB.out.free
        have HS := Lib.hid (fun q => lat_set6 (w := w5.drewN q) HB.out.h (.slice none 0 0) (.slice none 0 0) (.slice none 0 0) (.slice none 0 0) (.int .i64 0) (.int .i64 0))
        clear hg5
        go_wp2_with (go_at_call 18; refine HCi.out.mono ?_; rintro e w' ⟨rfl, q, rfl⟩)
        refine bodyPost_ret (res_lat2 rfl _ _ RB [.slice none 0 0, .slice none 0 0, .slice none 0 0, .slice none 0 0, .int .i64 0, .int .i64 0] rfl (HS.out q).1 _ rfl rfl) rfl ⟨?_, f, by rw [← HN.out.1.1]; exact H2.out.2.2.1, .inl ⟨by rw [← HN.out.1.1]; exact HF.out, rfl⟩⟩
        have e5 : Below base w (w5.drewN q) := below_drewN (H2.out.2.1.trans (HG.out.mono (Nat.le_trans HN.out.2.2.2.2.2.2.2.1 H2.out.2.1.size))) q
        exact e5.trans ((HS.out q).2.below (Nat.le_trans HN.out.2.2.2.2.2.2.2.1 e5.size) (by simp; have := HN.out.2.2.2.2.2.2.2; omega))
      | false =>
        have HF := Lib.hid (show lattP n f = true from lattP_iff.2 ⟨hci, HT.out, HT2.out⟩)
        have HLo := Lib.hid (lst_lows HF.out H2.out.2.2.1.trans h0)
        rw [hci] at HCi
        clear hci
        have HG := Lib.hid (Grow.trans H4.out hg5)
        have HG5 := Lib.hid hg5
        clear hg5
        go_wp2_with (first | (go_at_call 20; refine HL2.out.mono ?_; rintro e w8 ⟨rfl, q3, hw8⟩; have hg8 : Grow w7 w8 := (by rw [hw8]; exact below_drewN (Grow.refl w7) q3); have HG8 := Lib.hid (Grow.trans HG7.out hg8); clear hw8 hg8; have HB := Lib.hid (H2.out.1.later (Grow.trans HG.out HG8.out)); obtain ⟨⟨m0, m1, m2⟩, m3, m4, m5⟩ := HB.out.cells; obtain ⟨⟨z0, z1, z2⟩, z3, z4, z5⟩ := HB.out.free; have HS := Lib.hid (lat_set6 (w := w8) HB.out.h (.slice aN n cN) (.slice (some ⟨O, 0, none⟩) n C) (.slice aJ n cJ) (.slice aM n cM) (.int .i64 (lowI n f : Int)) (.int .i64 (lowI n (flipB f) : Int)))) | (go_at_call 20; refine HL1.out.mono ?_; rintro e w7 ⟨rfl, q2, hw7⟩; have hg7 : Grow w6 w7 := (by rw [hw7]; exact below_drewN (Grow.refl w6) q2); have HG7 := Lib.hid (Grow.trans HG6.out hg7); clear hw7 hg7; have HL2 := Lib.hid (code_least_all (.slice aG n cG) n (flipB f) w7 (H3.out.1.toV.later (Grow.trans HG34.out (Grow.trans HG5.out HG7.out))) hn); rw [HLo.out.2] at HL2) | (go_at_call 18; refine HCi.out.mono ?_; rintro e w6 ⟨rfl, q, hw6⟩; have hg6 : Grow w5 w6 := (by rw [hw6]; exact below_drewN (Grow.refl w5) q); have HG6 := Lib.hid hg6; clear hw6 hg6; have HL1 := Lib.hid (code_least_all _ n f w6 (H2.out.2.2.2.tab.later (Grow.trans HG.out HG6.out)) hn); rw [HLo.out.1] at HL1))
        generalize hW9 : (((((w8.setCell ⟨RB, 0, none⟩ _).setCell ⟨RB, 1, none⟩ _).setCell ⟨RB, 2, none⟩ _).setCell ⟨RB, 3, none⟩ _).setCell ⟨RB, 4, none⟩ _).setCell ⟨RB, 5, none⟩ _ = w9
        have HS2 := HS.out
        rw [hW9] at HS2
        have HG28 := Grow.trans HG.out HG8.out
        have hbs := HN.out.2.2.2.2.2.2.2.1
        have e8 : Below base w w8 := H2.out.2.1.trans (HG28.mono (Nat.le_trans hbs H2.out.2.1.size))
        have e9 : Below base w w9 := e8.trans (HS2.2.below (Nat.le_trans hbs e8.size) (by simp; omega))
        have hc89 := HS2.2
        have s2 : RB < w2.heap.size := H2.out.1.lt
        have s3 := H3.out.2.size
        have s4 := HG34.out.size
        refine bodyPost_ret (res_lat2 rfl _ _ RB [.slice aN n cN, .slice (some ⟨O, 0, none⟩) n C, .slice aJ n cJ, .slice aM n cM, .int .i64 (lowI n f : Int), .int .i64 (lowI n (flipB f) : Int)] rfl HS2.1 _ rfl rfl) rfl ⟨e9, f, by rw [← HN.out.1.1]; exact H2.out.2.2.1, .inr ⟨by rw [← HN.out.1.1]; exact HF.out, _, rfl, aN, cN, some ⟨O, 0, none⟩, C, aJ, cJ, aM, cM, n, HN.out.1.1, rfl, ⟨⟨HN.out.1.1, HN.out.1.2.1, HN.out.1.2.2.low e9 HN.out.2.1⟩, HLow.out.1⟩, ?_, ?_, ?_⟩⟩
        · refine ((Mat.chg (H2.out.2.2.2.later HG28) hc89 ?_ ?_).tabL HLow.out.2.2).mono HLow.out.2.1
          · have := HN.out.2.2.2.2.2.1
            simp
            omega
          · intro i hi
            have := HN.out.2.2.2.2.1 i hi
            simp
            omega
        · exact ((HJ.out.later (Grow.trans HG5.out HG8.out)).chg hc89 (by simp; omega)).mono (Nat.le_trans HLow.out.2.1 (by omega))
        · exact ((HMt.out.later HG8.out).chg hc89 (by simp; omega)).mono (Nat.le_trans HLow.out.2.1 (by omega))

end Go.Proofs.YtlgfijjkbomejaaDoor

namespace Go.Proofs.YtlgfijjkbomejaaDoor
open Go.RowKit Go.Lib Go.Sort
set_option maxRecDepth 100000

/-- What a list that may have one text more tells. -/
def InsTold (w : World) (base : Nat) (v : Value) (L : List (List UInt8)) (e : Ending) (w' : World) : Prop :=
  ∃ ao m c, e = .returned (.slice ao m c) ∧ OwnS w' base (.slice ao m c) m L ∧ Chg (rowF v) w w' ∧ FromRow w v (.slice ao m c)

theorem str_lit (w : World) (s : List UInt8) : Cells (w.alloc (.cells #[.string (tx s)] 9)) (.slice (some ⟨w.heap.size, 0, none⟩) 1 1) 1 1 [.string (tx s)] := Cells.lit w [.string (tx s)] 9 (0, 0) 1 1 rfl

/-- Where a text belongs in a rising list. -/
theorem insT_place (L : List (List UInt8)) (s : List UInt8) : ∃ k, k ≤ L.length ∧ (∀ t, t < k → ∃ x, L[t]? = some x ∧ x < s) ∧ (∀ x, L[k]? = some x → ¬ x < s) := by
  refine ⟨L.findIdx (fun x => decide (¬ x < s)), List.findIdx_le_length, fun t ht => ?_, fun x hx => ?_⟩
  · have hl : t < L.length := Nat.lt_of_lt_of_le ht List.findIdx_le_length
    refine ⟨L[t], List.getElem?_eq_getElem hl, ?_⟩
    have := List.not_of_lt_findIdx ht
    simpa using this
  · obtain ⟨hl, he⟩ := List.getElem?_eq_some_iff.1 hx
    have := List.findIdx_getElem (w := hl)
    rw [he] at this
    simpa using this

end Go.Proofs.YtlgfijjkbomejaaDoor
