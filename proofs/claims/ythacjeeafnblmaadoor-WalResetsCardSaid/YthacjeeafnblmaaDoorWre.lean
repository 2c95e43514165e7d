/- WalResets, walked. Numbers and types by name. -/
import Derived.Test.YthacjeeafnblmaaDoorWls
namespace Go.Proofs.YthacjeeafnblmaaDoor
open Go.RowKit Go.Lib
set_option maxRecDepth 100000

end Go.Proofs.YthacjeeafnblmaaDoor
