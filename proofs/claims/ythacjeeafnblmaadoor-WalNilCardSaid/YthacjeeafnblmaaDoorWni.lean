/- WalNil, walked. Numbers and types by name. -/
import Derived.Test.YthacjeeafnblmaaDoorObt
import Derived.Test.YthacjeeafnblmaaDoorCut
namespace Go.Proofs.YthacjeeafnblmaaDoor
open Go.RowKit Go.Lib
set_option maxRecDepth 100000

end Go.Proofs.YthacjeeafnblmaaDoor
