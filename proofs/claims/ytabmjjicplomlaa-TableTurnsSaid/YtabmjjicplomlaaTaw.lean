/- The tables' example; what Decode tells. Numbers and types by name. -/
import Derived.Test.YtabmjjicplomlaaOpr
import Derived.Test.YtabmjjicplomlaaCel
import Derived.Test.YtabmjjicplomlaaBas
import Derived.Test.YtabmjjicplomlaaTbc
/- A list of one op that is written out. Numbers and types by name. -/
namespace Go.Proofs.Ytabmjjicplomlaa
open Go.RowKit Go.Lib

theorem Opr.lit (w : World) (o : Opm) (h : o.key.size ≤ maxLen ∧ o.val.size ≤ maxLen) : Opr (w.alloc (.cells (ov o).toArray 45)) (.slice (some ⟨w.heap.size, 0, none⟩) 1 1) 1 [o] :=
  ⟨rfl, by unfold maxLen; decide, by simpa [ovs] using Cells.lit w (ov o) 45 (0, 0) 3 1 rfl, fun p hp => by rw [List.mem_singleton.1 hp]; exact h⟩

end Go.Proofs.Ytabmjjicplomlaa

/- Num. Numbers and types by name. -/
namespace Go.Proofs.Ytabmjjicplomlaa
open Go.RowKit Go.Lib

theorem num_code (n : Int) (w : World) : Calls Try.prog 22 #[.int .i64 n] w fun e w' => e = .returned (.int .i64 n) ∧ w = w' := by
  go_enter Try.func22, Try.ntmps22
  go_wp2
  go_ret
  first | exact rfl | exact ⟨rfl, rfl⟩ | exact trivial

end Go.Proofs.Ytabmjjicplomlaa

namespace Go.Proofs.Ytabmjjicplomlaa
open Go.RowKit Go.Lib Go.Sort

def listF (b : List UInt8) : List Prm := (unP b).getD []
def errF (b : List UInt8) : Int := if (unP b).isSome then 0 else 2

theorem FromDone.told {b : List UInt8} {w w' : World} {e : Ending} (h : FromDone b w e w') : ∃ ao q c, e = .returned (.tuple #[.slice ao q c, .int .i64 (errF b)]) ∧ Prr w' (.slice ao q c) q (listF b) ∧ Below w.heap.size w w' := by
  obtain ⟨hb, ⟨L, ao, q, c, hu, rfl, hp⟩ | ⟨hu, rfl⟩⟩ := h
  · exact ⟨ao, q, c, by simp [errF, hu], by simp only [listF, hu, Option.getD_some]; exact hp, hb⟩
  · exact ⟨none, 0, 0, by simp [errF, hu], by simp only [listF, hu, Option.getD_none]; exact Prr.nil _, hb⟩

theorem Prr.lit (w : World) (o : Prm) (h : o.key.size ≤ maxLen ∧ o.val.size ≤ maxLen) : Prr (w.alloc (.cells (pv o).toArray 48)) (.slice (some ⟨w.heap.size, 0, none⟩) 1 1) 1 [o] :=
  ⟨rfl, by unfold maxLen; decide, by simpa [pvs] using Cells.lit w (pv o) 48 (0, 0) 2 1 rfl, fun p hp => by rw [List.mem_singleton.1 hp]; exact h⟩
theorem awake_tab (w : World) : Calls Try.prog 10 #[] w fun e w' => e = .returned (.bool true) ∧ Below w.heap.size w w' := by
  have z1 : (⟨#[97]⟩ : ByteArray).size ≤ maxLen ∧ (⟨#[49]⟩ : ByteArray).size ≤ maxLen ∧ (⟨#[]⟩ : ByteArray).size ≤ maxLen := by unfold maxLen; decide
  have HZ := Lib.hid z1
  clear z1
  go_enter Try.func10, Try.ntmps10
  go_wp2_with fail
  obtain ⟨X, hX⟩ : ∃ X, X = w.alloc (.cells (pv ⟨⟨#[97]⟩, ⟨#[49]⟩⟩).toArray 48) := ⟨_, rfl⟩
  have hxs : w.heap.size + 1 = X.heap.size := by rw [hX]; simp
  have HP : Hid (Prr X (.slice (some ⟨w.heap.size, 0, none⟩) 1 1) 1 [⟨⟨#[97]⟩, ⟨#[49]⟩⟩] ∧ Below w.heap.size w X) := Lib.hid (by rw [hX]; exact ⟨Prr.lit w ⟨⟨#[97]⟩, ⟨#[49]⟩⟩ ⟨HZ.out.1, HZ.out.2.1⟩, (Below.refl _ w).alloc (Nat.le_refl _) _⟩)
  have eX : w.alloc (Obj.cells #[Value.string { data := #[97] }, Value.string { data := #[49] }] 48) = X := hX.symm
  rw [eX, hxs]
  clear eX hxs hX
  have A1 := tapply_any _ _ 1 1 _ _ (X.alloc (.cells (ov ⟨true, ⟨#[97]⟩, ⟨#[]⟩⟩).toArray 45)) (HP.out.1.later ((Below.refl _ X).alloc (Nat.le_refl _) _)) (Opr.lit X ⟨true, ⟨#[97]⟩, ⟨#[]⟩⟩ ⟨HZ.out.1, HZ.out.2.2⟩) (by omega) (by omega)
  refine A1.mono ?_
  rintro e w1 ⟨a1, q1, c1, rfl, h1, hb1⟩
  have hq1 : q1 = 0 := by rw [h1.1]; kernel_rfl
  subst hq1
  have HB1 : Hid (Below w.heap.size w w1) := Lib.hid ((HP.out.2.alloc HP.out.2.size _).trans (hb1.mono (Nat.le_trans HP.out.2.size (by simp))))
  clear A1 h1 hb1 HP
  go_wp2_with fail
  have A2 := tapply_any _ _ 0 1 _ _ (w1.alloc (.cells (ov ⟨false, ⟨#[97]⟩, ⟨#[49]⟩⟩).toArray 45)) (Prr.nil _) (Opr.lit w1 ⟨false, ⟨#[97]⟩, ⟨#[49]⟩⟩ ⟨HZ.out.1, HZ.out.2.1⟩) (by omega) (by omega)
  refine A2.mono ?_
  rintro e w2 ⟨a2, q2, c2, rfl, h2, hb2⟩
  have hq2 : q2 = 1 := by rw [h2.1]; kernel_rfl
  subst hq2
  have HB2 : Hid (Below w.heap.size w w2) := Lib.hid ((HB1.out.alloc HB1.out.size _).trans (hb2.mono (Nat.le_trans HB1.out.size (by simp))))
  clear A2 h2 hb2
  go_wp2_with fail
  go_ret
  exact ⟨rfl, HB2.out⟩

end Go.Proofs.Ytabmjjicplomlaa
