/- The records' examples. Numbers and types by name. -/
import Derived.Test.YtooadeoebdbngaaScn
import Derived.Test.YtooadeoebdbngaaNmc
import Derived.Test.YtooadeoebdbngaaFrm
namespace Go.Proofs.Ytooadeoebdbngaa
open Go.RowKit Go.Lib

theorem seven_none : one? (List.replicate 7 0) = none := by kernel_rfl

/-- What is told of a record alone. -/
theorem scans_one {p : List UInt8} (hp : p.length ≤ 1048576) {l : List (List UInt8)} {n : Nat} (h : Scans (frm p) l n) : l = [p] ∧ n = 8 + p.length := by
  have h1 := scans_frms scans_nil [p] (by simpa using hp)
  have e : frms [p] = frm p := by simp [frms]
  rw [e, List.append_nil] at h1
  obtain ⟨rfl, rfl⟩ := scans_det h h1
  exact ⟨by simp, by rw [frm_length]; omega⟩

theorem awake_frame (w : World) : Calls Try.prog 7 #[] w fun e w' => e = .returned (.bool true) ∧ Below w.heap.size w w' := by
  have kc := fun (w : World) (C : Array Value) (n c : Nat) => Lib.run_convert_bytes_const (P := Try.prog) w 22 5 C n c Try.underlying22 Try.underlying5
  have HZ : Hid (7 ≤ 140737488355328) := Lib.hid (by omega)
  go_enter Try.func7, Try.ntmps7
  go_wp2_with (at_make; refine wpList_make_zeros rfl (.const (.int .i64 7)) (.const (.int .i64 7)) rfl w.heap.size 7 7 7 rfl rfl rfl rfl HZ (Nat.le_refl _) ?_; intro w1 hown1 hb1)
  clear kc
  refine (scan_any _ 7 _ w1 hown1.reads rfl (Lib.hid (by omega))).mono ?_
  rintro e w2 ⟨hb2, l, n, ao, c, hs, _, rfl, ho⟩
  obtain ⟨rfl, rfl⟩ := scans_det hs (.stop seven_none)
  have B2 := Lib.hid (hb1.trans (hb2.mono hb1.size))
  clear hb1 hb2 hs ho hown1
  have kc := fun (w : World) (C : Array Value) (n c : Nat) => Lib.run_convert_bytes_const (P := Try.prog) w 22 5 C n c Try.underlying22 Try.underlying5
  go_wp2_with fail
  clear kc
  refine (frame_any _ 1 [120] _ (Reads.lit w2 (bv [120]) 5 (1, 2) 1 rfl) rfl (by omega)).mono ?_
  rintro e w3 ⟨ao3, c3, rfl, hown3, hb3⟩
  have B3 := Lib.hid ((B2.out.trans ((Below.refl _ w2).alloc B2.out.size _)).trans (hb3.mono (Nat.le_trans B2.out.size (by simp))))
  clear hb3
  have HO := Lib.hid hown3
  clear hown3
  go_wp2_with fail
  refine (scan_any _ 9 _ w3 HO.out.reads rfl (Lib.hid (by omega))).mono ?_
  rintro e w4 ⟨hb4, l, n, ao4, c4, hs, _, rfl, ho⟩
  obtain ⟨rfl, rfl⟩ := scans_one (by simp) hs
  have B4 := Lib.hid (B3.out.trans (hb4.mono B3.out.size))
  clear hb4 hs ho HO
  go_wp2_with (go_at_call 12; refine (num_code _ _).mono ?_; rintro e w' ⟨rfl, rfl⟩)
  go_ret
  exact ⟨rfl, B4.out⟩

end Go.Proofs.Ytooadeoebdbngaa
