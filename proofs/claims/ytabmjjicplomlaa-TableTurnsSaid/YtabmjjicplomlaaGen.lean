/- append to own rows of whatever elements: ops, lists of ops. Numbers and types by name. -/
import Derived.Test.YtabmjjicplomlaaOpr
import Derived.Test.YtabmjjicplomlaaCel
/- Lists of ops: are they right, are they one? Numbers and types by name. -/
namespace Go.Proofs.Ytabmjjicplomlaa
open Go.RowKit Go.Lib

/-- What SameOps tells. -/
def SameO (ps qs : List Opm) (w : World) (e : Ending) (w' : World) : Prop := ∃ b k, e = .returned (.bool b) ∧ w' = w.drewN k ∧ (b = true ↔ ps = qs)

end Go.Proofs.Ytabmjjicplomlaa

namespace Go.Proofs.Ytabmjjicplomlaa
open Go.RowKit Go.Lib

theorem elemOp : Elem 23 45 (.agg #[.bool false, .string ⟨#[]⟩, .string ⟨#[]⟩]) 3 40 := ⟨Try.underlying23, by kernel_rfl, by decide, by decide⟩
theorem elemOps : Elem 76 23 (.slice none 0 0) 1 24 := ⟨Try.underlying76, by kernel_rfl, by decide, by decide⟩

end Go.Proofs.Ytabmjjicplomlaa
