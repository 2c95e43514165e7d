/- WalResets holds: for every two lists of ops, behind a Reset nothing is told but what was committed since. Conditions: the three tables of the library's that the card lists lie as the program's text lays them; the card ties that. -/
import Derived.Test.YthacjeeafnblmaaDoorRows
import Derived.Test.YthacjeeafnblmaaDoorDig
import Derived.Test.YthacjeeafnblmaaDoorWre
import Derived.Test.YthacjeeafnblmaaDoorObt
import Derived.Test.YthacjeeafnblmaaDoorCards
import Derived.Test.YthacjeeafnblmaaDoorTie
import Derived.SevenTiedAt
import Derived.ProofKit
namespace Go.Proofs.YthacjeeafnblmaaDoor
open Go.ChangeShapes Go.WideShapes Go.ChangeAt Go.RowKit
open Go.ChangeMaps (open_string shut_string)

end Go.Proofs.YthacjeeafnblmaaDoor
