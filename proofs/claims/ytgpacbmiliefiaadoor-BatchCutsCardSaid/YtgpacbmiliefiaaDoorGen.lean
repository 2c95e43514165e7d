/- append to own rows of whatever elements: ops, lists of ops. Numbers and types by name. -/
import Derived.Test.YtgpacbmiliefiaaDoorOpl
import Derived.Test.YtgpacbmiliefiaaDoorCel
namespace Go.Proofs.YtgpacbmiliefiaaDoor
open Go.RowKit Go.Lib

theorem elemOp : Elem 22 49 (.agg #[.bool false, .string ⟨#[]⟩, .string ⟨#[]⟩]) 3 40 := ⟨Tryd.underlying22, by kernel_rfl, by decide, by decide⟩
theorem elemOps : Elem 32 22 (.slice none 0 0) 1 24 := ⟨Tryd.underlying32, by kernel_rfl, by decide, by decide⟩

end Go.Proofs.YtgpacbmiliefiaaDoor
