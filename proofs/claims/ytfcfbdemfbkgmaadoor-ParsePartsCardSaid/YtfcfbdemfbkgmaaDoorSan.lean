/- The reference's Whole. Numbers and types by name. -/
import Derived.Test.YtfcfbdemfbkgmaaDoorSme

namespace Go.Proofs.YtfcfbdemfbkgmaaDoor
open Go.RowKit Go.Lib
set_option maxRecDepth 100000

theorem ref_Whole (m1 m2 : Mdl) (s1 s2 : List Value) (w : World) (h1 : ModT true w m1 s1) (h2 : ModT true w m2 s2) (h : m1 = m2) :
    Calls Tryd.prog 10 #[.agg s1.toArray, .agg s2.toArray] w (Cmp (m1 = m2) w) := by
  subst h
  have P := fun W (hg : Grow w W) => yes_whole m1 s1 s2 W (h1.later hg) (h2.later hg)
  obtain ⟨z1, aI1, nI1, cI1, aV1, nV1, cV1, aP1, nP1, cP1, rfl⟩ := modT_shape h1
  obtain ⟨z2, aI2, nI2, cI2, aV2, nV2, cV2, aP2, nP2, cP2, rfl⟩ := modT_shape h2
  generalize tx m1.name = n1 at *
  obtain ⟨W, hW⟩ : ∃ W, (w.alloc (.cells #[.string n1, .int .i64 z1, .slice aI1 nI1 cI1, .slice aV1 nV1 cV1, .slice aP1 nP1 cP1] 27)).alloc (.cells #[.string n1, .int .i64 z2, .slice aI2 nI2 cI2, .slice aV2 nV2 cV2, .slice aP2 nP2 cP2] 27) = W := ⟨_, rfl⟩
  have b1 : W.heap[w.heap.size]? = some (.cells #[.string n1, .int .i64 z1, .slice aI1 nI1 cI1, .slice aV1 nV1 cV1, .slice aP1 nP1 cP1] 27) := by rw [← hW]; exact (two_new w _ _).1
  have b2 : W.heap[w.heap.size + 1]? = some (.cells #[.string n1, .int .i64 z2, .slice aI2 nI2 cI2, .slice aV2 nV2 cV2, .slice aP2 nP2 cP2] 27) := by rw [← hW]; exact (two_new w _ _).2.1
  have HW : Hid (Grow w W) := Lib.hid (by rw [← hW]; exact ((Below.refl _ w).alloc (Nat.le_refl _) _).alloc (by simp) _)
  have HP := Lib.hid (P W HW.out)
  have x1_0 : W.cell? ⟨w.heap.size, 0, none⟩ = some (.string n1) := cellsN b1 0 _ rfl
  have x1_1 : W.cell? ⟨w.heap.size, 1, none⟩ = some (.int .i64 z1) := cellsN b1 1 _ rfl
  have x1_2 : W.cell? ⟨w.heap.size, 2, none⟩ = some (.slice aI1 nI1 cI1) := cellsN b1 2 _ rfl
  have x1_3 : W.cell? ⟨w.heap.size, 3, none⟩ = some (.slice aV1 nV1 cV1) := cellsN b1 3 _ rfl
  have x1_4 : W.cell? ⟨w.heap.size, 4, none⟩ = some (.slice aP1 nP1 cP1) := cellsN b1 4 _ rfl
  have x2_0 : W.cell? ⟨w.heap.size + 1, 0, none⟩ = some (.string n1) := cellsN b2 0 _ rfl
  have x2_1 : W.cell? ⟨w.heap.size + 1, 1, none⟩ = some (.int .i64 z2) := cellsN b2 1 _ rfl
  have x2_2 : W.cell? ⟨w.heap.size + 1, 2, none⟩ = some (.slice aI2 nI2 cI2) := cellsN b2 2 _ rfl
  have x2_3 : W.cell? ⟨w.heap.size + 1, 3, none⟩ = some (.slice aV2 nV2 cV2) := cellsN b2 3 _ rfl
  have x2_4 : W.cell? ⟨w.heap.size + 1, 4, none⟩ = some (.slice aP2 nP2 cP2) := cellsN b2 4 _ rfl
  clear b1 b2 P h1 h2
  go_enter Tryd.func10, Tryd.ntmps10
  go_wp2_with fail
  refine HP.out.mono ?_
  rintro e w6 ⟨rfl, hg⟩
  have H6 := Lib.hid (HW.out.trans hg)
  clear hg x1_0 x1_1 x1_2 x1_3 x1_4 x2_0 x2_1 x2_2 x2_3 x2_4 hW
  go_wp2_with fail
  go_ret
  exact ⟨true, rfl, ⟨fun _ => by trivial, fun _ => rfl⟩, H6.out⟩

end Go.Proofs.YtfcfbdemfbkgmaaDoor
