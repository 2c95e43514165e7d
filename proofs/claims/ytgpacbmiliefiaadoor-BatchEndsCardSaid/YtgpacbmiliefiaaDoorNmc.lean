/- Num. Numbers and types by name. -/
import Derived.Test.YtgpacbmiliefiaaDoorBas
namespace Go.Proofs.YtgpacbmiliefiaaDoor
open Go.RowKit Go.Lib

theorem num_code (n : Int) (w : World) : Calls Tryd.prog 15 #[.int .i64 n] w fun e w' => e = .returned (.int .i64 n) ∧ w = w' := by
  go_enter Tryd.func15, Tryd.ntmps15
  go_wp2
  go_ret
  first | exact rfl | exact ⟨rfl, rfl⟩ | exact trivial

end Go.Proofs.YtgpacbmiliefiaaDoor
