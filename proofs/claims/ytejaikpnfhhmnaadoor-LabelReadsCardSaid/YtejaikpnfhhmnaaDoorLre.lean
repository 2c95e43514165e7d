/- The reference's Place and Read. Made by wip/tools/genrea.py. Numbers and types by name. -/
import Derived.Test.YtejaikpnfhhmnaaDoorLrm
import Derived.Test.YtejaikpnfhhmnaaDoorLrd
import Derived.Test.YtejaikpnfhhmnaaDoorRlb
namespace Go.Proofs.YtejaikpnfhhmnaaDoor
open Go.RowKit Go.Lib
set_option maxRecDepth 100000

theorem ref_place (lo : Nat) (L : List (List UInt8)) (f : Nat → Nat → Bool) (v : Value) (s : List UInt8) (w : World) (h : LatV lo w L f v) :
    Calls Tryd.prog 19 #[v, .string (tx s)] w fun e w' => e = .returned (.int .i64 (plcT L s)) ∧ Grow w w' := by
  obtain ⟨aN, cN, aL, cL, aJ, cJ, aM, cM, n, hn, rfl, h1, _, _, _⟩ := h
  generalize (lowI n f : Int) = LoZ
  generalize (lowI n (flipB f) : Int) = HiZ
  obtain ⟨W, hW⟩ : ∃ W, w.alloc (.cells #[.slice aN n cN, .slice aL n cL, .slice aJ n cJ, .slice aM n cM, .int .i64 LoZ, .int .i64 HiZ] 29) = W := ⟨_, rfl⟩
  have hgW : Grow w W := by rw [← hW]; exact (Below.refl _ _).alloc (Nat.le_refl _) _
  have hbW : LatB W w.heap.size (.slice aN n cN) (.slice aL n cL) (.slice aJ n cJ) (.slice aM n cM) (.int .i64 LoZ) (.int .i64 HiZ) := by rw [← hW]; exact LatB.new _ _ _ _ _ _ _
  have q0 := hbW.cells.1.1
  have P := Lib.hid (ref_plc (.slice aN n cN) n L s W (h1.1.later hgW))
  have HG := Lib.hid hgW
  clear hgW hbW h1 hn
  go_enter Tryd.func19, Tryd.ntmps19
  go_wp2_with (go_at_call 28; refine P.out.mono ?_; rintro e w' ⟨rfl, q, rfl⟩)
  go_ret
  exact ⟨rfl, below_drewN HG.out q⟩

set_option maxHeartbeats 8000000 in
theorem ref_read (b : List UInt8) (w : World) : Calls Tryd.prog 17 #[.string (tx b)] w (ReadTold w b) := by
  obtain ⟨RB, hRB⟩ : ∃ RB, w.heap.size = RB := ⟨_, rfl⟩
  obtain ⟨w1, hw1⟩ : ∃ w1, w.alloc (.cells #[.slice none 0 0, .slice none 0 0, .slice none 0 0, .slice none 0 0, .int .i64 0, .int .i64 0] 29) = w1 := ⟨_, rfl⟩
  have hg1 : Grow w w1 := by rw [← hw1]; exact (Below.refl _ _).alloc (Nat.le_refl _) _
  have hB1 : LatB w1 RB (.slice none 0 0) (.slice none 0 0) (.slice none 0 0) (.slice none 0 0) (.int .i64 0) (.int .i64 0) := by rw [← hw1, ← hRB]; exact LatB.new _ _ _ _ _ _ _
  have P1 := ref_labels b w1
  have HD : Hid (∀ v x a w', ReadV w.heap.size w' b v x a ↔ ((labelsP b).2.1 ≠ 0 ∧ v = lat0 ∧ x = (labelsP b).2.1 ∧ a = ((labelsP b).2.2 : Int)) ∨ ((labelsP b).2.1 = 0 ∧ a = 0 ∧ MadeV w.heap.size w' (prs (labelsP b).1) v x)) := Lib.hid (fun _ _ _ _ => Iff.rfl)
  have H := Lib.hid (And.intro hg1 (And.intro hB1 hRB))
  have hRB2 := hRB
  clear hg1 hB1
  generalize labelsP b = Q at *
  obtain ⟨pl, px, pp⟩ := Q
  simp only at HD
  go_enter Tryd.func17, Tryd.ntmps17
  go_wp2_with fail
  refine P1.mono ?_
  rintro e w2 ⟨al, m, cl, rfl, hR, hg2⟩
  have H2 := Lib.hid (And.intro (prms_rows hR) (And.intro (Grow.trans H.out.1 hg2) (H.out.2.1.later hg2)))
  clear hR hg2 P1 hw1
  by_cases hx : px = 0
  case neg =>
    have hxb : (px != 0) = true := by simpa using hx
    have HX := Lib.hid hx
    have HB := Lib.hid H2.out.2.2
    obtain ⟨⟨m0, m1, m2⟩, m3, m4, m5⟩ := HB.out.cells
    obtain ⟨⟨z0, z1, z2⟩, z3, z4, z5⟩ := HB.out.free
    have HS := Lib.hid (lat_set6 (w := w2) HB.out.h (.slice none 0 0) (.slice none 0 0) (.slice none 0 0) (.slice none 0 0) (.int .i64 0) (.int .i64 0))
    clear hx
    simp only
    go_wp2_with fail
    refine bodyPost_ret (res_lat3 rfl _ _ RB [.slice none 0 0, .slice none 0 0, .slice none 0 0, .slice none 0 0, .int .i64 0, .int .i64 0] rfl HS.out.1 (.int .i64 px) (.int .i64 (pp : Int)) rfl rfl rfl) rfl ⟨Below.trans H2.out.2.1 (HS.out.2.below H2.out.2.1.size (by simp; omega)), lat0, px, (pp : Int), rfl, (HD.out _ _ _ _).2 (.inl ⟨HX.out, rfl, rfl, rfl⟩)⟩
  subst hx
  have P2 := ref_make (.slice al m cl) m (prs pl) w2 H2.out.1
  simp only
  go_wp2_with fail
  refine P2.mono ?_
  rintro e w3 ⟨hg3, v, x, rfl, hMd⟩
  obtain ⟨b0, k0, b1, k1, b2, k2, b3, k3, nn, y4, y5, rfl⟩ := hMd.six
  have H3 := Lib.hid (And.intro hMd hg3)
  obtain ⟨W, hW⟩ : ∃ W, w3.alloc (.cells #[.slice b0 nn k0, .slice b1 nn k1, .slice b2 nn k2, .slice b3 nn k3, .int .i64 y4, .int .i64 y5] 29) = W := ⟨_, rfl⟩
  have HgW : Hid (Grow w3 W) := Lib.hid (by rw [← hW]; exact (Below.refl _ _).alloc (Nat.le_refl _) _)
  have hbW : LatB W w3.heap.size (.slice b0 nn k0) (.slice b1 nn k1) (.slice b2 nn k2) (.slice b3 nn k3) (.int .i64 y4) (.int .i64 y5) := by rw [← hW]; exact LatB.new _ _ _ _ _ _ _
  obtain ⟨⟨q0, q1, q2⟩, q3, q4, q5⟩ := hbW.cells
  have HB := Lib.hid (H2.out.2.2.later (Grow.trans hg3 HgW.out))
  obtain ⟨⟨m0, m1, m2⟩, m3, m4, m5⟩ := HB.out.cells
  obtain ⟨⟨z0, z1, z2⟩, z3, z4, z5⟩ := HB.out.free
  have HS := Lib.hid (lat_set6 (w := W) HB.out.h (.slice b0 nn k0) (.slice b1 nn k1) (.slice b2 nn k2) (.slice b3 nn k3) (.int .i64 y4) (.int .i64 y5))
  have s2 : RB < w2.heap.size := H2.out.2.2.lt
  have s3 : w2.heap.size ≤ w3.heap.size := hg3.size
  have hne : w3.heap.size ≠ RB := by omega
  have hne2 : ¬ RB = w3.heap.size := by omega
  clear hbW hMd hg3 P2
  go_wp2_with fail
  generalize hW9 : (((((W.setCell ⟨RB, 0, none⟩ _).setCell ⟨RB, 1, none⟩ _).setCell ⟨RB, 2, none⟩ _).setCell ⟨RB, 3, none⟩ _).setCell ⟨RB, 4, none⟩ _).setCell ⟨RB, 5, none⟩ _ = w9
  have HS2 := HS.out
  rw [hW9] at HS2
  have e8 : Grow w W := Grow.trans H2.out.2.1 (Grow.trans H3.out.2 HgW.out)
  refine bodyPost_ret (res_lat3 rfl _ _ RB [.slice b0 nn k0, .slice b1 nn k1, .slice b2 nn k2, .slice b3 nn k3, .int .i64 y4, .int .i64 y5] rfl HS2.1 (.int .i64 x) (.int .i64 0) rfl rfl rfl) rfl ⟨Below.trans e8 (HS2.2.below e8.size (by simp; omega)), _, x, 0, rfl, (HD.out _ _ _ _).2 (.inr ⟨by trivial, by trivial, ?_⟩)⟩
  exact ((H3.out.1.later HgW.out).chg HS2.2 (by simp; omega)).mono H2.out.2.1.size

end Go.Proofs.YtejaikpnfhhmnaaDoor
