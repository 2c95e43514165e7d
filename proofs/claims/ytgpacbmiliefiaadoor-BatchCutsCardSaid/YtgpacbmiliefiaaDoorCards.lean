/-
  DERIVED. GIVEN WITH THE SEED: THE CARDS: each row of YtgpacbmiliefiaaDoorRows.lean that lists a variable, with what it lists TIED to the program's text (the seventh form; the later family's looks); each row that meets fmt, with fmt's text TOLD by the authors' own Lean function (tested against real Go, not proved from fmt's source: count such statements apart). THE CARD IS WHAT COUNTS. Prove the row's statement (the work); the ties are given (YtgpacbmiliefiaaDoorTie.lean); close each card by the builder's one call (the guide's Derived/Test/ToyasCard.lean, 'card_holds'). Laid BY PROGRAM, IN A SANDBOX (cutbox-door.mjs). By AI agents, Wed Nov 11 2026. No macro, syntax, notation, axiom, sorry.
-/
import Derived.Test.YtgpacbmiliefiaaDoorRows
import GoSem.ClaimSeven
namespace Go.Proofs.YtgpacbmiliefiaaDoor
namespace Rows

/-- THE TIED CARD OF 'aquiferlaw5.BatchAll'. -/
def batchAllCard : Claim7 := { stood := { row := batchAllRow, standIns := [], harness := (true, "dd074679148c934597ffdf7ed35ebaae72d71cd601232cf9f5ac36e2be9c43ef"), looks := false }, kinds := [], alts := [], laidByText := true, laidKinds := [.data, .data, .data], laidTests := true, laidLooks := .later }
def BatchAllCardSaid : Prop := Claim7.holds Tryd.pinned (.plain (OpenSpec.ofChange batchAllSpec)) batchAllCard

/-- THE TIED CARD OF 'aquiferlaw5.BatchCuts'. -/
def batchCutsCard : Claim7 := { stood := { row := batchCutsRow, standIns := [], harness := (true, "dd074679148c934597ffdf7ed35ebaae72d71cd601232cf9f5ac36e2be9c43ef"), looks := false }, kinds := [], alts := [], laidByText := true, laidKinds := [.data, .data, .data], laidTests := true, laidLooks := .later }
def BatchCutsCardSaid : Prop := Claim7.holds Tryd.pinned (.plain (OpenSpec.ofChange batchCutsSpec)) batchCutsCard

/-- THE TIED CARD OF 'aquiferlaw5.BatchApart'. -/
def batchApartCard : Claim7 := { stood := { row := batchApartRow, standIns := [], harness := (true, "dd074679148c934597ffdf7ed35ebaae72d71cd601232cf9f5ac36e2be9c43ef"), looks := false }, kinds := [], alts := [], laidByText := true, laidKinds := [.data, .data, .data], laidTests := true, laidLooks := .later }
def BatchApartCardSaid : Prop := Claim7.holds Tryd.pinned (.plain (OpenSpec.ofChange batchApartSpec)) batchApartCard

/-- THE TIED CARD OF 'aquiferlaw5.BatchEnds'. -/
def batchEndsCard : Claim7 := { stood := { row := batchEndsRow, standIns := [], harness := (true, "dd074679148c934597ffdf7ed35ebaae72d71cd601232cf9f5ac36e2be9c43ef"), looks := false }, kinds := [], alts := [], laidByText := true, laidKinds := [.data, .data, .data], laidTests := true, laidLooks := .later }
def BatchEndsCardSaid : Prop := Claim7.holds Tryd.pinned (.plain (OpenSpec.ofChange batchEndsSpec)) batchEndsCard

/-- THE SECOND FORM's CARD OF 'aquiferlaw5.BatchAll'. -/
def batchAllUptoCard : Claim7 := { stood := { row := batchAllUptoRow, standIns := [], harness := (true, "dd074679148c934597ffdf7ed35ebaae72d71cd601232cf9f5ac36e2be9c43ef"), looks := false }, kinds := [], alts := [], laidByText := true, laidKinds := [.data, .data, .data], laidTests := true, laidLooks := .later }
def BatchAllUptoCardSaid : Prop := Claim7.holds Tryd.pinned (.plain (OpenSpec.upto batchAllSpec)) batchAllUptoCard

/-- THE SECOND FORM's CARD OF 'aquiferlaw5.BatchCuts'. -/
def batchCutsUptoCard : Claim7 := { stood := { row := batchCutsUptoRow, standIns := [], harness := (true, "dd074679148c934597ffdf7ed35ebaae72d71cd601232cf9f5ac36e2be9c43ef"), looks := false }, kinds := [], alts := [], laidByText := true, laidKinds := [.data, .data, .data], laidTests := true, laidLooks := .later }
def BatchCutsUptoCardSaid : Prop := Claim7.holds Tryd.pinned (.plain (OpenSpec.upto batchCutsSpec)) batchCutsUptoCard

/-- THE SECOND FORM's CARD OF 'aquiferlaw5.BatchApart'. -/
def batchApartUptoCard : Claim7 := { stood := { row := batchApartUptoRow, standIns := [], harness := (true, "dd074679148c934597ffdf7ed35ebaae72d71cd601232cf9f5ac36e2be9c43ef"), looks := false }, kinds := [], alts := [], laidByText := true, laidKinds := [.data, .data, .data], laidTests := true, laidLooks := .later }
def BatchApartUptoCardSaid : Prop := Claim7.holds Tryd.pinned (.plain (OpenSpec.upto batchApartSpec)) batchApartUptoCard

/-- THE SECOND FORM's CARD OF 'aquiferlaw5.BatchEnds'. -/
def batchEndsUptoCard : Claim7 := { stood := { row := batchEndsUptoRow, standIns := [], harness := (true, "dd074679148c934597ffdf7ed35ebaae72d71cd601232cf9f5ac36e2be9c43ef"), looks := false }, kinds := [], alts := [], laidByText := true, laidKinds := [.data, .data, .data], laidTests := true, laidLooks := .later }
def BatchEndsUptoCardSaid : Prop := Claim7.holds Tryd.pinned (.plain (OpenSpec.upto batchEndsSpec)) batchEndsUptoCard
end Rows
end Go.Proofs.YtgpacbmiliefiaaDoor
