/- What a tied card's condition gives: the table of signs lies as the program's text lays it; and a world in which it does. Numbers and types by name. -/
import Derived.Test.YtlgfijjkbomejaaDoorRows
import Derived.Test.YtlgfijjkbomejaaDoorSgn
import Derived.ProofKit
import Derived.LaidMore
import Derived.Stop.LaidErr
namespace Go.Proofs.YtlgfijjkbomejaaDoor
open Go.ChangeShapes Go.WideShapes Go.ChangeAt Go.RowKit

/-- The table, as each row lists it. -/
def laid3 : List (String × DataW Unit) := [("aquifer/lex.signs", Rows.laid_aquifer_lex_signs)]

theorem tab_of_laid {W : World} (h : laidMetH Tryd.prog laid3 W) : SgW W := by
  rw [MakeChecks.laidMetH_plain _ _ _ (by kernel_rfl)] at h
  have h3 : laidMet Tryd.prog [("aquifer/lex.signs", txData signs19)] W := h
  exact sgW_of_head (show Tryd.prog.globalNamed "aquifer/lex.signs" = some 0 by kernel_rfl) (show (Tryd.prog.globals[0]?).map (·.type) = some 90 by kernel_rfl) Tryd.underlying90 Tryd.underlying9 (by kernel_rfl) (by kernel_rfl) h3

theorem door_met (os : Os) (args : Array Value) : laidMetH Tryd.prog laid3 ((World.doorLaid Tryd.prog 24 os).forCall (fun _ _ => 0) ⟨#[], args, []⟩).memory :=
  laidMetH_of_parts3 (fuel := 8) (laidMet_of_run' 8 (by kernel_rfl) (by kernel_rfl)) (by kernel_rfl) (by kernel_rfl)

end Go.Proofs.YtlgfijjkbomejaaDoor
