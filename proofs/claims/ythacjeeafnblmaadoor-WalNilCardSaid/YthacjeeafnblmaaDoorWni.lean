/- WalNil, walked. Numbers and types by name. -/
import Derived.Test.YthacjeeafnblmaaDoorWaw
import Derived.Test.YthacjeeafnblmaaDoorCut
namespace Go.Proofs.YthacjeeafnblmaaDoor
open Go.RowKit Go.Lib
set_option maxRecDepth 100000

set_option maxHeartbeats 8000000 in
theorem nil_wal (v1 : Value) (n : Nat) (A : List Opm) (w : World) (h1 : Opr w v1 n A) (ht : Tab w) :
    Calls Tryd.prog 5 #[v1] w fun e w' => e = .returned (.bool true) ∧ Below w.heap.size w w' := by
  obtain ⟨a1, c1, rfl⟩ := h1.shape
  have H1 := Lib.hid h1
  have HTB := Lib.hid ht
  clear h1 ht
  go_enter Tryd.func5, Tryd.ntmps5
  go_wp2_with fail
  refine (wal_open_nil w).mono ?_
  rintro e w1 ⟨⟨ao, c, rfl⟩, hb⟩
  have B1 : Hid (Grow w w1) := Lib.hid hb
  clear hb
  have C1 := (wal_commit_nil _ n A w1 (H1.out.later B1.out)).mono fun e w' h => (⟨h.1, h.2.symm⟩ : e = .returned (.int .i64 3) ∧ w1 = w')
  have C2 := (wal_size_nil w1).mono fun e w' h => (⟨h.1, h.2.symm⟩ : e = .returned (.int .i64 0) ∧ w1 = w')
  have C3 := (wal_reset_nil w1).mono fun e w' h => (⟨h.1, h.2.symm⟩ : e = .returned (.int .i64 3) ∧ w1 = w')
  have C4 := (wal_sick_nil w1).mono fun e w' h => (⟨h.1, h.2.symm⟩ : e = .returned (.bool false) ∧ w1 = w')
  go_wp2_with (first | (go_at_call 12; refine (num1_any _ _).mono ?_; rintro e w' ⟨rfl, rfl⟩) | (go_at_call 13; refine C1.mono ?_; rintro e w' ⟨rfl, rfl⟩) | (go_at_call 16; refine C2.mono ?_; rintro e w' ⟨rfl, rfl⟩) | (go_at_call 17; refine C3.mono ?_; rintro e w' ⟨rfl, rfl⟩) | (go_at_call 15; refine C4.mono ?_; rintro e w' ⟨rfl, rfl⟩) | (go_at_call 8; refine (awake_wal _ (HTB.out.later B1.out)).mono ?_; rintro e w' ⟨rfl, hb9⟩))
  go_ret
  exact ⟨rfl, B1.out.trans hb9⟩

end Go.Proofs.YthacjeeafnblmaaDoor
