/- What Make tells; the code's Make. Made by wip/tools/genmak.py. Numbers and types by name. -/
import Derived.Test.YtlgfijjkbomejaaDoorLra
import Derived.Test.YtlgfijjkbomejaaDoorLor
namespace Go.Proofs.YtlgfijjkbomejaaDoor
open Go.RowKit Go.Lib
set_option maxRecDepth 100000

/-- Which error Make tells of pairs. -/
def MakeX (l : List Pr8) (x : Int) : Prop :=
  ((namesP l).length = 0 ∧ x = 13) ∨ (12 < (namesP l).length ∧ x = 14) ∨ (0 < (namesP l).length ∧ (namesP l).length ≤ 12 ∧ ∃ f, Clos (namesP l).length (baseP (namesP l) l) f ∧ ((lattP (namesP l).length f = false ∧ x = 13) ∨ (lattP (namesP l).length f = true ∧ x = 0)))
theorem MakeX.one {l : List Pr8} {x y : Int} (h : MakeX l x) (k : MakeX l y) : x = y := by
  rcases h with ⟨h1, h2⟩ | ⟨h1, h2⟩ | ⟨h1, h2, f, hc, h3⟩ <;> rcases k with ⟨k1, k2⟩ | ⟨k1, k2⟩ | ⟨k1, k2, g, kc, k3⟩ <;> try omega
  have e := lattP_congr (hc.same kc)
  rcases h3 with ⟨h3, rfl⟩ | ⟨h3, rfl⟩ <;> rcases k3 with ⟨k3, rfl⟩ | ⟨k3, rfl⟩
  · rfl
  · rw [e, k3] at h3; cases h3
  · rw [e, k3] at h3; cases h3
  · rfl
/-- What Make tells. -/
def MadeV (lo : Nat) (w : World) (l : List Pr8) (v : Value) (x : Int) : Prop :=
  MakeX l x ∧ ((x ≠ 0 ∧ v = lat0) ∨ (x = 0 ∧ ∃ f, Clos (namesP l).length (baseP (namesP l) l) f ∧ lattP (namesP l).length f = true ∧ LatV lo w (namesP l) f v))
def MakeTold (w : World) (l : List Pr8) (e : Ending) (w' : World) : Prop := Grow w w' ∧ ∃ v x, e = .returned (.tuple #[v, .int .i64 x]) ∧ MadeV w.heap.size w' l v x
theorem MadeV.later {lo : Nat} {w w' : World} {l : List Pr8} {v : Value} {x : Int} (h : MadeV lo w l v x) (hg : Grow w w') : MadeV lo w' l v x := by
  refine ⟨h.1, ?_⟩
  rcases h.2 with h2 | ⟨h2, f, h3, h4, h5⟩
  · exact .inl h2
  · exact .inr ⟨h2, f, h3, h4, h5.later hg⟩
theorem MakeTold.none {w w' : World} {l : List Pr8} {x : Int} (hg : Grow w w') (hx : MakeX l x) (h0 : x ≠ 0) : MakeTold w l (.returned (.tuple #[lat0, .int .i64 x])) w' := ⟨hg, _, _, rfl, hx, .inl ⟨h0, rfl⟩⟩

set_option maxHeartbeats 16000000 in
theorem code_make (v : Value) (n : Nat) (l : List Pr8) (w : World) (h : PrmsV w v n l) :
    Calls Tryd.prog 5 #[v] w (MakeTold w l) := by
  obtain ⟨ao, c, rfl⟩ := h.shape
  obtain ⟨RB, hRB⟩ : ∃ RB, w.heap.size = RB := ⟨_, rfl⟩
  obtain ⟨w1, hw1⟩ : ∃ w1, w.alloc (.cells #[.slice none 0 0, .slice none 0 0, .slice none 0 0, .slice none 0 0, .int .i64 0, .int .i64 0] 31) = w1 := ⟨_, rfl⟩
  have hg1 : Grow w w1 := by rw [← hw1]; exact (Below.refl _ _).alloc (Nat.le_refl _) _
  have hB1 : LatB w1 RB (.slice none 0 0) (.slice none 0 0) (.slice none 0 0) (.slice none 0 0) (.int .i64 0) (.int .i64 0) := by rw [← hw1, ← hRB]; exact LatB.new _ _ _ _ _ _ _
  have P1 := code_names _ n l w1 (h.later hg1)
  have H := Lib.hid (And.intro (h.later hg1) (And.intro hg1 (And.intro hB1 hRB)))
  have hRB2 := hRB
  clear h hg1 hB1
  go_enter Tryd.func5, Tryd.ntmps5
  go_wp2_with fail
  refine P1.mono ?_
  rintro e w2 ⟨aN, m, cN, M, rfl, hO, hg2, hm16, hM⟩
  have HM := Lib.hid hM
  have H2 := Lib.hid (And.intro hO (And.intro hg2 (And.intro (Grow.trans H.out.2.1 hg2) (H.out.2.2.1.later hg2))))
  clear hO hg2 hM P1 hw1
  by_cases h0 : m = 0
  · subst h0
    have HX : Hid (MakeX l 13) := Lib.hid (by
      have hmL := H2.out.1.1
      rcases HM.out with ⟨_, rfl⟩ | ⟨_, h⟩
      · exact .inl ⟨hmL.symm, rfl⟩
      · omega)
    have HB := Lib.hid (H2.out.2.2.2)
    obtain ⟨⟨m0, m1, m2⟩, m3, m4, m5⟩ := HB.out.cells
    obtain ⟨⟨z0, z1, z2⟩, z3, z4, z5⟩ := HB.out.free
    have HS := Lib.hid (lat_set6 (w := w2) HB.out.h (.slice none 0 0) (.slice none 0 0) (.slice none 0 0) (.slice none 0 0) (.int .i64 0) (.int .i64 0))
    go_wp2_with fail
    have HQ := MakeTold.none (Below.trans H2.out.2.2.1 (HS.out.2.below (H2.out.2.2.1).size (by simp; omega))) HX.out (by decide)
    refine bodyPost_ret (res_lat2 rfl _ _ RB [.slice none 0 0, .slice none 0 0, .slice none 0 0, .slice none 0 0, .int .i64 0, .int .i64 0] rfl HS.out.1 (.int .i64 13) rfl rfl) rfl ?_
    exact HQ
  by_cases h12 : 12 < m
  · have g12 : (12 : Int) < (m : Int) := by omega
    have HX : Hid (MakeX l 14) := Lib.hid (by
      have hmL := H2.out.1.1
      rcases HM.out with ⟨h5, rfl⟩ | ⟨h5, _⟩
      · omega
      · exact .inr (.inl ⟨h5, rfl⟩))
    have HB := Lib.hid (H2.out.2.2.2)
    obtain ⟨⟨m0, m1, m2⟩, m3, m4, m5⟩ := HB.out.cells
    obtain ⟨⟨z0, z1, z2⟩, z3, z4, z5⟩ := HB.out.free
    have HS := Lib.hid (lat_set6 (w := w2) HB.out.h (.slice none 0 0) (.slice none 0 0) (.slice none 0 0) (.slice none 0 0) (.int .i64 0) (.int .i64 0))
    go_wp2_with fail
    have HQ := MakeTold.none (Below.trans H2.out.2.2.1 (HS.out.2.below (H2.out.2.2.1).size (by simp; omega))) HX.out (by decide)
    refine bodyPost_ret (res_lat2 rfl _ _ RB [.slice none 0 0, .slice none 0 0, .slice none 0 0, .slice none 0 0, .int .i64 0, .int .i64 0] rfl HS.out.1 (.int .i64 14) rfl rfl) rfl ?_
    exact HQ
  have g12 : ¬ (12 : Int) < (m : Int) := by omega
  have hMe : M = namesP l := by
    rcases HM.out with ⟨_, h⟩ | ⟨_, h⟩
    · exact h
    · omega
  subst hMe
  have hmL := H2.out.1.1
  have HR := Lib.hid (H2.out.1.read (by omega))
  have P2 := code_order _ _ m n _ l w2 HR.out (H.out.1.later H2.out.2.1) (inL_names l) (by omega) (by omega)
  have HmL := Lib.hid hmL
  clear hmL
  go_wp2_with fail
  refine P2.mono ?_
  rintro e w3 ⟨O, R, cp, rfl, hMt, hg3, hOb⟩
  have P3 := code_lattice w1.heap.size w2.heap.size O m R cp _ (.slice aN m cN) m _ w3 (HR.out.later hg3) (by
    intro a m' c' e
    cases e
    obtain ⟨g, e, _, h7⟩ := H2.out.1.block (by omega)
    cases e
    exact h7) (own_low H2.out.1.2) H2.out.2.1.size hOb hMt (by omega) (by omega) hg3.size
  have H3 := Lib.hid hg3
  clear hMt hg3 P2
  go_wp2_with fail
  refine P3.mono ?_
  rintro e w4 ⟨hb4, f, hcl, hres⟩
  have HB4 := Lib.hid (show LatB w4 RB (.slice none 0 0) (.slice none 0 0) (.slice none 0 0) (.slice none 0 0) (.int .i64 0) (.int .i64 0) from ⟨(hb4.block _ H2.out.2.2.2.lt).trans (H2.out.2.2.2.later H3.out).h⟩)
  have HG4 := Lib.hid (show Grow w w4 from Below.trans (Grow.trans H2.out.2.2.1 H3.out) (hb4.mono H2.out.2.2.1.size))
  have s1 : w1.heap.size ≤ w2.heap.size := H2.out.2.1.size
  have s3 : w2.heap.size ≤ w3.heap.size := H3.out.size
  have s4 : w3.heap.size ≤ w4.heap.size := hb4.size
  have s0 : RB < w1.heap.size := H.out.2.2.1.lt
  clear P3 hb4
  rcases hres with ⟨hno, rfl⟩ | ⟨hyes, vv, rfl, hLV⟩
  · have HX : Hid (MakeX l 13) := Lib.hid (.inr (.inr ⟨by have := HmL.out; omega, by have := HmL.out; omega, f, hcl, .inl ⟨hno, rfl⟩⟩))
    clear hno hcl
    unfold lat0
    have HgW : Hid (Grow w4 (w4.alloc (.cells #[.slice none 0 0, .slice none 0 0, .slice none 0 0, .slice none 0 0, .int .i64 0, .int .i64 0] 31))) := Lib.hid ((Below.refl _ _).alloc (Nat.le_refl _) _)
    have HB := Lib.hid ((HB4.out.later HgW.out))
    obtain ⟨⟨m0, m1, m2⟩, m3, m4, m5⟩ := HB.out.cells
    obtain ⟨⟨z0, z1, z2⟩, z3, z4, z5⟩ := HB.out.free
    have HS := Lib.hid (lat_set6 (w := (w4.alloc (.cells #[.slice none 0 0, .slice none 0 0, .slice none 0 0, .slice none 0 0, .int .i64 0, .int .i64 0] 31))) HB.out.h (.slice none 0 0) (.slice none 0 0) (.slice none 0 0) (.slice none 0 0) (.int .i64 0) (.int .i64 0))
    go_wp2_with fail
    have HQ := MakeTold.none (Below.trans (Grow.trans HG4.out HgW.out) (HS.out.2.below ((Grow.trans HG4.out HgW.out)).size (by simp; omega))) HX.out (by decide)
    refine bodyPost_ret (res_lat2 rfl _ _ RB [.slice none 0 0, .slice none 0 0, .slice none 0 0, .slice none 0 0, .int .i64 0, .int .i64 0] rfl HS.out.1 (.int .i64 13) rfl rfl) rfl ?_
    exact HQ
  · obtain ⟨aN', cN', aL, cL, aJ, cJ, aM, cM, n', hn', e, h1, h2, h3, h4⟩ := hLV
    obtain rfl : n' = m := by rw [hn']; exact HmL.out.symm
    have HLV := Lib.hid (show LatV w1.heap.size w4 (namesP l) f vv from ⟨aN', cN', aL, cL, aJ, cJ, aM, cM, n', hn', e, h1, h2, h3, h4⟩)
    subst e
    have HX : Hid (MakeX l 0 ∧ Clos (namesP l).length (baseP (namesP l) l) f ∧ lattP (namesP l).length f = true) := Lib.hid ⟨.inr (.inr ⟨by have := HmL.out; omega, by have := HmL.out; omega, f, hcl, .inr ⟨hyes, rfl⟩⟩), hcl, hyes⟩
    clear hn' h1 h2 h3 h4 hyes hcl
    generalize (lowI n' f : Int) = LoZ at *
    generalize (lowI n' (flipB f) : Int) = HiZ at *
    obtain ⟨W, hW⟩ : ∃ W, w4.alloc (.cells #[.slice aN' n' cN', .slice aL n' cL, .slice aJ n' cJ, .slice aM n' cM, .int .i64 LoZ, .int .i64 HiZ] 31) = W := ⟨_, rfl⟩
    have HgW : Hid (Grow w4 W) := Lib.hid (by rw [← hW]; exact (Below.refl _ _).alloc (Nat.le_refl _) _)
    have hbW : LatB W w4.heap.size (.slice aN' n' cN') (.slice aL n' cL) (.slice aJ n' cJ) (.slice aM n' cM) (.int .i64 LoZ) (.int .i64 HiZ) := by rw [← hW]; exact LatB.new _ _ _ _ _ _ _
    obtain ⟨⟨q0, q1, q2⟩, q3, q4, q5⟩ := hbW.cells
    have HB := Lib.hid (HB4.out.later HgW.out)
    obtain ⟨⟨m0, m1, m2⟩, m3, m4, m5⟩ := HB.out.cells
    obtain ⟨⟨z0, z1, z2⟩, z3, z4, z5⟩ := HB.out.free
    have HS := Lib.hid (lat_set6 (w := W) HB.out.h (.slice aN' n' cN') (.slice aL n' cL) (.slice aJ n' cJ) (.slice aM n' cM) (.int .i64 LoZ) (.int .i64 HiZ))
    have hne : w4.heap.size ≠ RB := by omega
    clear hbW
    go_wp2_with fail
    generalize hW9 : (((((W.setCell ⟨RB, 0, none⟩ _).setCell ⟨RB, 1, none⟩ _).setCell ⟨RB, 2, none⟩ _).setCell ⟨RB, 3, none⟩ _).setCell ⟨RB, 4, none⟩ _).setCell ⟨RB, 5, none⟩ _ = w9
    have HS2 := HS.out
    rw [hW9] at HS2
    have e8 : Grow w W := Grow.trans HG4.out HgW.out
    refine bodyPost_ret (res_lat2 rfl _ _ RB [.slice aN' n' cN', .slice aL n' cL, .slice aJ n' cJ, .slice aM n' cM, .int .i64 LoZ, .int .i64 HiZ] rfl HS2.1 _ rfl rfl) rfl ⟨Below.trans e8 (HS2.2.below e8.size (by simp; omega)), _, _, rfl, HX.out.1, .inr ⟨rfl, f, HX.out.2.1, HX.out.2.2, ?_⟩⟩
    exact ((HLV.out.later HgW.out).chg HS2.2 (by simp; omega)).mono H.out.2.1.size

end Go.Proofs.YtlgfijjkbomejaaDoor
