/- IndexNil, walked over what is asked of an index that there is not. Numbers and types by name. -/
import Derived.Test.YtkeahapgliljoaaIaw
namespace Go.Proofs.Ytkeahapgliljoaa
open Go.RowKit Go.Lib
set_option maxRecDepth 100000

structure IxN : Prop where
  put : ∀ (k v : ByteArray) (w : World), Calls Try.prog 10 #[.pointer none, .string k, .string v] w fun e w' => e = .returned (.tuple #[]) ∧ Grow w w'
  get : ∀ (k : ByteArray) (w : World), Calls Try.prog 12 #[.pointer none, .string k] w fun e w' => e = .returned (.tuple #[.string ⟨#[]⟩, .bool false]) ∧ Grow w w'
  del : ∀ (k : ByteArray) (w : World), Calls Try.prog 13 #[.pointer none, .string k] w fun e w' => e = .returned (.bool false) ∧ Grow w w'
  len : ∀ (w : World), Calls Try.prog 14 #[.pointer none] w fun e w' => e = .returned (.int .i64 0) ∧ Grow w w'
  all : ∀ (w : World), Calls Try.prog 16 #[.pointer none] w fun e w' => e = .returned (.slice none 0 0) ∧ Grow w w'

theorem nil_index {C : World → Nat → List Prm → List Nat → Prop} (K : IxK C) (N : IxN) (s : ByteArray) (w : World) : Calls Try.prog 5 #[.string s] w fun e w' => e = .returned (.bool true) ∧ Below w.heap.size w w' := by
  have HK := Lib.hid K
  have HN := Lib.hid N
  have B0 : Hid (Grow w w) := Lib.hid (Grow.refl _)
  clear K N
  go_enter Try.func5, Try.ntmps5
  go_wp2_with fail
  refine (HN.out.put _ _ _).mono ?_
  rintro e w1 ⟨rfl, h1⟩
  have B1 := Lib.hid h1
  clear h1
  go_wp2_with fail
  refine (HN.out.get _ _).mono ?_
  rintro e w2 ⟨rfl, h1⟩
  have B2 := Lib.hid (B1.out.trans h1)
  clear h1
  go_wp2_with fail
  refine (HN.out.del _ _).mono ?_
  rintro e w3 ⟨rfl, h1⟩
  have B3 := Lib.hid (B2.out.trans h1)
  clear h1
  go_wp2_with fail
  refine (HN.out.all _).mono ?_
  rintro e w4 ⟨rfl, h1⟩
  have B4 := Lib.hid (B3.out.trans h1)
  clear h1
  go_wp2_with fail
  refine (HN.out.len _).mono ?_
  rintro e w5 ⟨rfl, h1⟩
  have B5 := Lib.hid (B4.out.trans h1)
  clear h1
  go_wp2_with (go_at_call 7; refine (awake_index HK.out _).mono ?_; rintro e w' ⟨rfl, hb9⟩)
  go_ret
  exact ⟨rfl, B5.out.trans hb9⟩

end Go.Proofs.Ytkeahapgliljoaa
