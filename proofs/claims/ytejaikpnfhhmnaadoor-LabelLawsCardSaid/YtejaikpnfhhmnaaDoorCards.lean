/-
  DERIVED. GIVEN WITH THE SEED: THE CARDS: each row of YtejaikpnfhhmnaaDoorRows.lean that lists a variable, with what it lists TIED to the program's text (the seventh form; the later family's looks); each row that meets fmt, with fmt's text TOLD by the authors' own Lean function (tested against real Go, not proved from fmt's source: count such statements apart). THE CARD IS WHAT COUNTS. Prove the row's statement (the work); the ties are given (YtejaikpnfhhmnaaDoorTie.lean); close each card by the builder's one call (the guide's Derived/Test/ToyasCard.lean, 'card_holds'). Laid BY PROGRAM, IN A SANDBOX (cutbox-door.mjs). By AI agents, Wed Nov 11 2026. No macro, syntax, notation, axiom, sorry.
-/
import Derived.Test.YtejaikpnfhhmnaaDoorRows
import GoSem.ClaimSeven
namespace Go.Proofs.YtejaikpnfhhmnaaDoor
namespace Rows

/-- THE TIED CARD OF 'aquiferlaw14.LabelMakes'. -/
def labelMakesCard : Claim7 := { stood := { row := labelMakesRow, standIns := [], harness := (true, "f0d6e59cd8f5ceebbe50f3947055c06be27701fed36c0c23d549b103ef74a614"), looks := true }, kinds := [], alts := [], laidByText := true, laidKinds := [.data], laidTests := true, laidLooks := .later }
def LabelMakesCardSaid : Prop := Claim7.holds Tryd.pinned (.plain (OpenSpec.ofChange labelMakesSpec)) labelMakesCard

/-- THE TIED CARD OF 'aquiferlaw14.LabelReads'. -/
def labelReadsCard : Claim7 := { stood := { row := labelReadsRow, standIns := [], harness := (true, "f0d6e59cd8f5ceebbe50f3947055c06be27701fed36c0c23d549b103ef74a614"), looks := true }, kinds := [], alts := [], laidByText := true, laidKinds := [.data], laidTests := true, laidLooks := .later }
def LabelReadsCardSaid : Prop := Claim7.holds Tryd.pinned (.plain (OpenSpec.ofChange labelReadsSpec)) labelReadsCard

/-- THE TIED CARD OF 'aquiferlaw14.LabelLaws'. -/
def labelLawsCard : Claim7 := { stood := { row := labelLawsRow, standIns := [], harness := (true, "f0d6e59cd8f5ceebbe50f3947055c06be27701fed36c0c23d549b103ef74a614"), looks := true }, kinds := [], alts := [], laidByText := true, laidKinds := [.data], laidTests := true, laidLooks := .later }
def LabelLawsCardSaid : Prop := Claim7.holds Tryd.pinned (.plain (OpenSpec.ofChange labelLawsSpec)) labelLawsCard

/-- THE TIED CARD OF 'aquiferlaw14.LabelOrders'. -/
def labelOrdersCard : Claim7 := { stood := { row := labelOrdersRow, standIns := [], harness := (true, "f0d6e59cd8f5ceebbe50f3947055c06be27701fed36c0c23d549b103ef74a614"), looks := true }, kinds := [], alts := [], laidByText := true, laidKinds := [.data], laidTests := true, laidLooks := .later }
def LabelOrdersCardSaid : Prop := Claim7.holds Tryd.pinned (.plain (OpenSpec.ofChange labelOrdersSpec)) labelOrdersCard

/-- THE TIED CARD OF 'aquiferlaw14.LabelRows'. -/
def labelRowsCard : Claim7 := { stood := { row := labelRowsRow, standIns := [], harness := (true, "f0d6e59cd8f5ceebbe50f3947055c06be27701fed36c0c23d549b103ef74a614"), looks := true }, kinds := [], alts := [], laidByText := true, laidKinds := [.data], laidTests := true, laidLooks := .later }
def LabelRowsCardSaid : Prop := Claim7.holds Tryd.pinned (.plain (OpenSpec.ofChange labelRowsSpec)) labelRowsCard

/-- THE TIED CARD OF 'aquiferlaw14.LabelChains'. -/
def labelChainsCard : Claim7 := { stood := { row := labelChainsRow, standIns := [], harness := (true, "f0d6e59cd8f5ceebbe50f3947055c06be27701fed36c0c23d549b103ef74a614"), looks := true }, kinds := [], alts := [], laidByText := true, laidKinds := [.data], laidTests := true, laidLooks := .later }
def LabelChainsCardSaid : Prop := Claim7.holds Tryd.pinned (.plain (OpenSpec.ofChange labelChainsSpec)) labelChainsCard

/-- THE TIED CARD OF 'aquiferlaw14.LabelSets'. -/
def labelSetsCard : Claim7 := { stood := { row := labelSetsRow, standIns := [], harness := (true, "f0d6e59cd8f5ceebbe50f3947055c06be27701fed36c0c23d549b103ef74a614"), looks := true }, kinds := [], alts := [], laidByText := true, laidKinds := [.data], laidTests := true, laidLooks := .later }
def LabelSetsCardSaid : Prop := Claim7.holds Tryd.pinned (.plain (OpenSpec.ofChange labelSetsSpec)) labelSetsCard

/-- THE SECOND FORM's CARD OF 'aquiferlaw14.LabelMakes'. -/
def labelMakesUptoCard : Claim7 := { stood := { row := labelMakesUptoRow, standIns := [], harness := (true, "f0d6e59cd8f5ceebbe50f3947055c06be27701fed36c0c23d549b103ef74a614"), looks := true }, kinds := [], alts := [], laidByText := true, laidKinds := [.data], laidTests := true, laidLooks := .later }
def LabelMakesUptoCardSaid : Prop := Claim7.holds Tryd.pinned (.plain (OpenSpec.upto labelMakesSpec)) labelMakesUptoCard

/-- THE SECOND FORM's CARD OF 'aquiferlaw14.LabelReads'. -/
def labelReadsUptoCard : Claim7 := { stood := { row := labelReadsUptoRow, standIns := [], harness := (true, "f0d6e59cd8f5ceebbe50f3947055c06be27701fed36c0c23d549b103ef74a614"), looks := true }, kinds := [], alts := [], laidByText := true, laidKinds := [.data], laidTests := true, laidLooks := .later }
def LabelReadsUptoCardSaid : Prop := Claim7.holds Tryd.pinned (.plain (OpenSpec.upto labelReadsSpec)) labelReadsUptoCard

/-- THE SECOND FORM's CARD OF 'aquiferlaw14.LabelLaws'. -/
def labelLawsUptoCard : Claim7 := { stood := { row := labelLawsUptoRow, standIns := [], harness := (true, "f0d6e59cd8f5ceebbe50f3947055c06be27701fed36c0c23d549b103ef74a614"), looks := true }, kinds := [], alts := [], laidByText := true, laidKinds := [.data], laidTests := true, laidLooks := .later }
def LabelLawsUptoCardSaid : Prop := Claim7.holds Tryd.pinned (.plain (OpenSpec.upto labelLawsSpec)) labelLawsUptoCard

/-- THE SECOND FORM's CARD OF 'aquiferlaw14.LabelOrders'. -/
def labelOrdersUptoCard : Claim7 := { stood := { row := labelOrdersUptoRow, standIns := [], harness := (true, "f0d6e59cd8f5ceebbe50f3947055c06be27701fed36c0c23d549b103ef74a614"), looks := true }, kinds := [], alts := [], laidByText := true, laidKinds := [.data], laidTests := true, laidLooks := .later }
def LabelOrdersUptoCardSaid : Prop := Claim7.holds Tryd.pinned (.plain (OpenSpec.upto labelOrdersSpec)) labelOrdersUptoCard

/-- THE SECOND FORM's CARD OF 'aquiferlaw14.LabelRows'. -/
def labelRowsUptoCard : Claim7 := { stood := { row := labelRowsUptoRow, standIns := [], harness := (true, "f0d6e59cd8f5ceebbe50f3947055c06be27701fed36c0c23d549b103ef74a614"), looks := true }, kinds := [], alts := [], laidByText := true, laidKinds := [.data], laidTests := true, laidLooks := .later }
def LabelRowsUptoCardSaid : Prop := Claim7.holds Tryd.pinned (.plain (OpenSpec.upto labelRowsSpec)) labelRowsUptoCard

/-- THE SECOND FORM's CARD OF 'aquiferlaw14.LabelChains'. -/
def labelChainsUptoCard : Claim7 := { stood := { row := labelChainsUptoRow, standIns := [], harness := (true, "f0d6e59cd8f5ceebbe50f3947055c06be27701fed36c0c23d549b103ef74a614"), looks := true }, kinds := [], alts := [], laidByText := true, laidKinds := [.data], laidTests := true, laidLooks := .later }
def LabelChainsUptoCardSaid : Prop := Claim7.holds Tryd.pinned (.plain (OpenSpec.upto labelChainsSpec)) labelChainsUptoCard

/-- THE SECOND FORM's CARD OF 'aquiferlaw14.LabelSets'. -/
def labelSetsUptoCard : Claim7 := { stood := { row := labelSetsUptoRow, standIns := [], harness := (true, "f0d6e59cd8f5ceebbe50f3947055c06be27701fed36c0c23d549b103ef74a614"), looks := true }, kinds := [], alts := [], laidByText := true, laidKinds := [.data], laidTests := true, laidLooks := .later }
def LabelSetsUptoCardSaid : Prop := Claim7.holds Tryd.pinned (.plain (OpenSpec.upto labelSetsSpec)) labelSetsUptoCard
end Rows
end Go.Proofs.YtejaikpnfhhmnaaDoor
