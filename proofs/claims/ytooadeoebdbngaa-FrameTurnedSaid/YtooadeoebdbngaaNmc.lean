/- Num. Numbers and types by name. -/
import Derived.Test.YtooadeoebdbngaaBas
namespace Go.Proofs.Ytooadeoebdbngaa
open Go.RowKit Go.Lib

theorem num_code (n : Int) (w : World) : Calls Try.prog 12 #[.int .i64 n] w fun e w' => e = .returned (.int .i64 n) ∧ w = w' := by
  go_enter Try.func12, Try.ntmps12
  go_wp2
  go_ret
  first | exact rfl | exact ⟨rfl, rfl⟩ | exact trivial

end Go.Proofs.Ytooadeoebdbngaa
