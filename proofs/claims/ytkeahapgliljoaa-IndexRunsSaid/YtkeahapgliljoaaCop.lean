/- The copies of lists: 'copied' at int and at byte; what a slice value reads as. Numbers and types by name. -/
import Derived.Test.YtkeahapgliljoaaBas
import Derived.WalkKit
import Derived.WalkLawsBesides
import Derived.Lib.Hide
import Derived.BigQuiet
import Derived.Deep.QuietTactic
import Derived.ArgAppend
namespace Go.Proofs.Ytkeahapgliljoaa
open Go.RowKit

end Go.Proofs.Ytkeahapgliljoaa
