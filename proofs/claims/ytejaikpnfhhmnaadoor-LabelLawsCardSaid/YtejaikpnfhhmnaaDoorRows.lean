/-
  NARROWER THAN 'FOR EVERY INPUT', by the rows' own cells (each row's printed sentence says how): LabelMakes: laid · LabelReads: laid · LabelLaws: laid · LabelOrders: laid · LabelRows: laid · LabelChains: laid · LabelSets: laid.
  DERIVED. THE GIVEN ROWS OF THIS SEAT. 7 by the template 'for every input the law returns true; each argument reads behind the call as it read before'; 0 by the template 'total and deterministic' (their statements: YtejaikpnfhhmnaaDoorTotals.lean).
  GIVEN WITH THE SEED: the statements are not yours to turn. If you find one false, say at which input.
  Laid BY PROGRAM, IN A SANDBOX (cutbox-rows.mjs): the forced cells as the released guide's own fill.sh prints them over the translation 962bd7ee26851efd… (all of the seat's roots in one cut). By AI agents, Wed Nov 11 2026. No macro, syntax, notation, axiom, sorry.
-/
import Derived.Test.YtejaikpnfhhmnaaDoorChecked
import GoSem.Claim
import GoSem.ClaimJoined
import GoSem.ClaimMapViews
import Derived.JoinedTies
import Derived.KernelRfl
namespace Go.Proofs.YtejaikpnfhhmnaaDoor
/- THE CELL 'sum', in the pinned program and in every row, IS THE sha256 OF THE DUMP (.gsa) THAT YtejaikpnfhhmnaaDoorProg.lean LOADS. Nothing in Lean hashes anything: it is a label: what it is worth is what the hold of that sum in a sandbox is worth. -/
noncomputable def Tryd.pinned : Pinned := { name := "ytejaikpnfhhmnaadoor", sum := "962bd7ee26851efd0c832ca7c4e86a3c73b1bef115ec0ea1cc5c78399d601b0c", checked := Tryd.checked }
namespace Rows
def none {H : Type} : Left H := { results := [], args := [] }

/- WHAT THE LISTED PACKAGE-LEVEL VARIABLES READ AS WHEN THE CALL BEGINS. Each datum BY PROGRAM (the guide's laid-datum.mjs) off the statement by which the dump's own 'gosem.cut.vars' lays the variable. In a bare row this is a premise. The card (YtejaikpnfhhmnaaDoorCards.lean) ties it to the program's text. -/
def laid_aquifer_lex_signs {H : Type} : DataW H := .agg [.lit (.string [61, 61]), .lit (.string [60, 61]), .lit (.string [45, 62]), .lit (.string [40]), .lit (.string [41]), .lit (.string [123]), .lit (.string [125]), .lit (.string [44]), .lit (.string [59]), .lit (.string [58]), .lit (.string [46]), .lit (.string [61]), .lit (.string [60]), .lit (.string [43]), .lit (.string [45]), .lit (.string [42]), .lit (.string [47]), .lit (.string [37]), .lit (.string [33])]

/-- 'aquiferlaw14.LabelMakes': WHATEVER THE INPUT: true; the input reads as it did. -/
def labelMakesSpec : ChangeSpec := { name := "labelMakes", fn := fun _ => fun
  | [d] => { results := [.lit (.bool true)], args := [d] }
  | _ => none }
def labelMakesRow : OpenClaim := { program := "ytejaikpnfhhmnaadoor", sum := "962bd7ee26851efd0c832ca7c4e86a3c73b1bef115ec0ea1cc5c78399d601b0c", func := "aquifer/aquiferlaw14.LabelMakes", spec := "labelMakes", inPlace := ["slices.overlaps[string]"], unfollowed := true, recurses := true, named := ["aquifer/lex.signs"], apart := false, laid := [("aquifer/lex.signs", laid_aquifer_lex_signs)] }
def LabelMakesSaid : Prop := labelMakesRow.holds Tryd.pinned (OpenSpec.ofChange labelMakesSpec)

/-- ITS FALSE NEIGHBOUR: 'it returns false'. Refute it at one input. -/
def labelMakesWrong : ChangeSpec := { name := "labelMakes", fn := fun _ => fun
  | [d] => { results := [.lit (.bool false)], args := [d] }
  | _ => none }
def LabelMakesWrongFalsely : Prop := labelMakesRow.holds Tryd.pinned (OpenSpec.ofChange labelMakesWrong)

/-- 'aquiferlaw14.LabelReads': WHATEVER THE INPUT: true; the input reads as it did. -/
def labelReadsSpec : ChangeSpec := { name := "labelReads", fn := fun _ => fun
  | [d1, d2] => { results := [.lit (.bool true)], args := [d1, d2] }
  | _ => none }
def labelReadsRow : OpenClaim := { program := "ytejaikpnfhhmnaadoor", sum := "962bd7ee26851efd0c832ca7c4e86a3c73b1bef115ec0ea1cc5c78399d601b0c", func := "aquifer/aquiferlaw14.LabelReads", spec := "labelReads", inPlace := ["slices.overlaps[string]"], unfollowed := true, recurses := true, named := ["aquifer/lex.signs"], apart := false, laid := [("aquifer/lex.signs", laid_aquifer_lex_signs)] }
def LabelReadsSaid : Prop := labelReadsRow.holds Tryd.pinned (OpenSpec.ofChange labelReadsSpec)

/-- ITS FALSE NEIGHBOUR: 'it returns false'. Refute it at one input. -/
def labelReadsWrong : ChangeSpec := { name := "labelReads", fn := fun _ => fun
  | [d1, d2] => { results := [.lit (.bool false)], args := [d1, d2] }
  | _ => none }
def LabelReadsWrongFalsely : Prop := labelReadsRow.holds Tryd.pinned (OpenSpec.ofChange labelReadsWrong)

/-- 'aquiferlaw14.LabelLaws': WHATEVER THE INPUT: true; the input reads as it did. -/
def labelLawsSpec : ChangeSpec := { name := "labelLaws", fn := fun _ => fun
  | [d1, d2, d3, d4] => { results := [.lit (.bool true)], args := [d1, d2, d3, d4] }
  | _ => none }
def labelLawsRow : OpenClaim := { program := "ytejaikpnfhhmnaadoor", sum := "962bd7ee26851efd0c832ca7c4e86a3c73b1bef115ec0ea1cc5c78399d601b0c", func := "aquifer/aquiferlaw14.LabelLaws", spec := "labelLaws", inPlace := ["slices.overlaps[string]"], unfollowed := true, recurses := true, named := ["aquifer/lex.signs"], apart := false, laid := [("aquifer/lex.signs", laid_aquifer_lex_signs)] }
def LabelLawsSaid : Prop := labelLawsRow.holds Tryd.pinned (OpenSpec.ofChange labelLawsSpec)

/-- ITS FALSE NEIGHBOUR: 'it returns false'. Refute it at one input. -/
def labelLawsWrong : ChangeSpec := { name := "labelLaws", fn := fun _ => fun
  | [d1, d2, d3, d4] => { results := [.lit (.bool false)], args := [d1, d2, d3, d4] }
  | _ => none }
def LabelLawsWrongFalsely : Prop := labelLawsRow.holds Tryd.pinned (OpenSpec.ofChange labelLawsWrong)

/-- 'aquiferlaw14.LabelOrders': WHATEVER THE INPUT: true; the input reads as it did. -/
def labelOrdersSpec : ChangeSpec := { name := "labelOrders", fn := fun _ => fun
  | [d] => { results := [.lit (.bool true)], args := [d] }
  | _ => none }
def labelOrdersRow : OpenClaim := { program := "ytejaikpnfhhmnaadoor", sum := "962bd7ee26851efd0c832ca7c4e86a3c73b1bef115ec0ea1cc5c78399d601b0c", func := "aquifer/aquiferlaw14.LabelOrders", spec := "labelOrders", inPlace := ["slices.overlaps[string]"], unfollowed := true, recurses := true, named := ["aquifer/lex.signs"], apart := false, laid := [("aquifer/lex.signs", laid_aquifer_lex_signs)] }
def LabelOrdersSaid : Prop := labelOrdersRow.holds Tryd.pinned (OpenSpec.ofChange labelOrdersSpec)

/-- ITS FALSE NEIGHBOUR: 'it returns false'. Refute it at one input. -/
def labelOrdersWrong : ChangeSpec := { name := "labelOrders", fn := fun _ => fun
  | [d] => { results := [.lit (.bool false)], args := [d] }
  | _ => none }
def LabelOrdersWrongFalsely : Prop := labelOrdersRow.holds Tryd.pinned (OpenSpec.ofChange labelOrdersWrong)

/-- 'aquiferlaw14.LabelRows': WHATEVER THE INPUT: true; the input reads as it did. -/
def labelRowsSpec : ChangeSpec := { name := "labelRows", fn := fun _ => fun
  | [d] => { results := [.lit (.bool true)], args := [d] }
  | _ => none }
def labelRowsRow : OpenClaim := { program := "ytejaikpnfhhmnaadoor", sum := "962bd7ee26851efd0c832ca7c4e86a3c73b1bef115ec0ea1cc5c78399d601b0c", func := "aquifer/aquiferlaw14.LabelRows", spec := "labelRows", inPlace := ["slices.overlaps[string]"], unfollowed := true, recurses := true, named := ["aquifer/lex.signs"], apart := false, laid := [("aquifer/lex.signs", laid_aquifer_lex_signs)] }
def LabelRowsSaid : Prop := labelRowsRow.holds Tryd.pinned (OpenSpec.ofChange labelRowsSpec)

/-- ITS FALSE NEIGHBOUR: 'it returns false'. Refute it at one input. -/
def labelRowsWrong : ChangeSpec := { name := "labelRows", fn := fun _ => fun
  | [d] => { results := [.lit (.bool false)], args := [d] }
  | _ => none }
def LabelRowsWrongFalsely : Prop := labelRowsRow.holds Tryd.pinned (OpenSpec.ofChange labelRowsWrong)

/-- 'aquiferlaw14.LabelChains': WHATEVER THE INPUT: true; the input reads as it did. -/
def labelChainsSpec : ChangeSpec := { name := "labelChains", fn := fun _ => fun
  | [d1, d2, d3] => { results := [.lit (.bool true)], args := [d1, d2, d3] }
  | _ => none }
def labelChainsRow : OpenClaim := { program := "ytejaikpnfhhmnaadoor", sum := "962bd7ee26851efd0c832ca7c4e86a3c73b1bef115ec0ea1cc5c78399d601b0c", func := "aquifer/aquiferlaw14.LabelChains", spec := "labelChains", inPlace := ["slices.overlaps[string]"], unfollowed := true, recurses := true, named := ["aquifer/lex.signs"], apart := false, laid := [("aquifer/lex.signs", laid_aquifer_lex_signs)] }
def LabelChainsSaid : Prop := labelChainsRow.holds Tryd.pinned (OpenSpec.ofChange labelChainsSpec)

/-- ITS FALSE NEIGHBOUR: 'it returns false'. Refute it at one input. -/
def labelChainsWrong : ChangeSpec := { name := "labelChains", fn := fun _ => fun
  | [d1, d2, d3] => { results := [.lit (.bool false)], args := [d1, d2, d3] }
  | _ => none }
def LabelChainsWrongFalsely : Prop := labelChainsRow.holds Tryd.pinned (OpenSpec.ofChange labelChainsWrong)

/-- 'aquiferlaw14.LabelSets': WHATEVER THE INPUT: true; the input reads as it did. -/
def labelSetsSpec : ChangeSpec := { name := "labelSets", fn := fun _ => fun
  | [d1, d2, d3] => { results := [.lit (.bool true)], args := [d1, d2, d3] }
  | _ => none }
def labelSetsRow : OpenClaim := { program := "ytejaikpnfhhmnaadoor", sum := "962bd7ee26851efd0c832ca7c4e86a3c73b1bef115ec0ea1cc5c78399d601b0c", func := "aquifer/aquiferlaw14.LabelSets", spec := "labelSets", inPlace := ["slices.overlaps[string]"], unfollowed := true, recurses := true, named := ["aquifer/lex.signs"], apart := false, laid := [("aquifer/lex.signs", laid_aquifer_lex_signs)] }
def LabelSetsSaid : Prop := labelSetsRow.holds Tryd.pinned (OpenSpec.ofChange labelSetsSpec)

/-- ITS FALSE NEIGHBOUR: 'it returns false'. Refute it at one input. -/
def labelSetsWrong : ChangeSpec := { name := "labelSets", fn := fun _ => fun
  | [d1, d2, d3] => { results := [.lit (.bool false)], args := [d1, d2, d3] }
  | _ => none }
def LabelSetsWrongFalsely : Prop := labelSetsRow.holds Tryd.pinned (OpenSpec.ofChange labelSetsWrong)

/- THE SECOND FORM. 'bulk': how many values and letters a reading holds, each counted each time it is reached (what is shared counts as often as it is met; a slice's spare places count too). A statement '..UptoSaid' is the law's where the arguments, and the package variables that the reading takes, are together of bulk at most 1048576: NARROWER than '..Said'. Prove '..Said' where nothing that the law and all that it calls make is longer than what came in: it says more and counts as full. Else prove '..UptoSaid'. A law counts once. -/
mutual
def uptoBulk {H : Type} : DataW H → Nat
  | .lit (.string bytes) => bytes.length + 1
  | .lit _ => 1
  | .nil => 1
  | .ptr d => uptoBulk d + 1
  | .slice elems spare => uptoBulkAll elems + uptoBulkAll spare + 1
  | .agg parts => uptoBulkAll parts + 1
  | .iface _ d => uptoBulk d + 1
  | .map entries => uptoBulkEntries entries + 1
  | .held _ => 1
def uptoBulkAll {H : Type} : List (DataW H) → Nat
  | [] => 0
  | d :: r => uptoBulk d + uptoBulkAll r
def uptoBulkEntries {H : Type} : List (Lit × DataW H) → Nat
  | [] => 0
  | x :: r => uptoBulkEntry x + uptoBulkEntries r
def uptoBulkEntry {H : Type} : Lit × DataW H → Nat
  | (.string bytes, d) => bytes.length + uptoBulk d + 1
  | (_, d) => uptoBulk d + 1
 end
def uptoSmall : (H : Type) → List (DataW H) → Bool := fun _ ds => decide (uptoBulkAll ds ≤ 1048576)
def OpenSpec.upto (s : _root_.Go.ChangeSpec) : _root_.Go.OpenSpec := { _root_.Go.OpenSpec.ofChange s with cond := some uptoSmall }

/-- 'aquiferlaw14.LabelMakes', WHERE WHAT IT READS IS OF BULK AT MOST 1048576: true; the input reads as it did. -/
def labelMakesUptoRow : OpenClaim := { program := "ytejaikpnfhhmnaadoor", sum := "962bd7ee26851efd0c832ca7c4e86a3c73b1bef115ec0ea1cc5c78399d601b0c", func := "aquifer/aquiferlaw14.LabelMakes", spec := "labelMakes", inPlace := ["slices.overlaps[string]"], unfollowed := true, recurses := true, named := ["aquifer/lex.signs"], apart := false, laid := [("aquifer/lex.signs", laid_aquifer_lex_signs)], narrowed := true }
def LabelMakesUptoSaid : Prop := labelMakesUptoRow.holds Tryd.pinned (OpenSpec.upto labelMakesSpec)

/-- 'aquiferlaw14.LabelReads', WHERE WHAT IT READS IS OF BULK AT MOST 1048576: true; the input reads as it did. -/
def labelReadsUptoRow : OpenClaim := { program := "ytejaikpnfhhmnaadoor", sum := "962bd7ee26851efd0c832ca7c4e86a3c73b1bef115ec0ea1cc5c78399d601b0c", func := "aquifer/aquiferlaw14.LabelReads", spec := "labelReads", inPlace := ["slices.overlaps[string]"], unfollowed := true, recurses := true, named := ["aquifer/lex.signs"], apart := false, laid := [("aquifer/lex.signs", laid_aquifer_lex_signs)], narrowed := true }
def LabelReadsUptoSaid : Prop := labelReadsUptoRow.holds Tryd.pinned (OpenSpec.upto labelReadsSpec)

/-- 'aquiferlaw14.LabelLaws', WHERE WHAT IT READS IS OF BULK AT MOST 1048576: true; the input reads as it did. -/
def labelLawsUptoRow : OpenClaim := { program := "ytejaikpnfhhmnaadoor", sum := "962bd7ee26851efd0c832ca7c4e86a3c73b1bef115ec0ea1cc5c78399d601b0c", func := "aquifer/aquiferlaw14.LabelLaws", spec := "labelLaws", inPlace := ["slices.overlaps[string]"], unfollowed := true, recurses := true, named := ["aquifer/lex.signs"], apart := false, laid := [("aquifer/lex.signs", laid_aquifer_lex_signs)], narrowed := true }
def LabelLawsUptoSaid : Prop := labelLawsUptoRow.holds Tryd.pinned (OpenSpec.upto labelLawsSpec)

/-- 'aquiferlaw14.LabelOrders', WHERE WHAT IT READS IS OF BULK AT MOST 1048576: true; the input reads as it did. -/
def labelOrdersUptoRow : OpenClaim := { program := "ytejaikpnfhhmnaadoor", sum := "962bd7ee26851efd0c832ca7c4e86a3c73b1bef115ec0ea1cc5c78399d601b0c", func := "aquifer/aquiferlaw14.LabelOrders", spec := "labelOrders", inPlace := ["slices.overlaps[string]"], unfollowed := true, recurses := true, named := ["aquifer/lex.signs"], apart := false, laid := [("aquifer/lex.signs", laid_aquifer_lex_signs)], narrowed := true }
def LabelOrdersUptoSaid : Prop := labelOrdersUptoRow.holds Tryd.pinned (OpenSpec.upto labelOrdersSpec)

/-- 'aquiferlaw14.LabelRows', WHERE WHAT IT READS IS OF BULK AT MOST 1048576: true; the input reads as it did. -/
def labelRowsUptoRow : OpenClaim := { program := "ytejaikpnfhhmnaadoor", sum := "962bd7ee26851efd0c832ca7c4e86a3c73b1bef115ec0ea1cc5c78399d601b0c", func := "aquifer/aquiferlaw14.LabelRows", spec := "labelRows", inPlace := ["slices.overlaps[string]"], unfollowed := true, recurses := true, named := ["aquifer/lex.signs"], apart := false, laid := [("aquifer/lex.signs", laid_aquifer_lex_signs)], narrowed := true }
def LabelRowsUptoSaid : Prop := labelRowsUptoRow.holds Tryd.pinned (OpenSpec.upto labelRowsSpec)

/-- 'aquiferlaw14.LabelChains', WHERE WHAT IT READS IS OF BULK AT MOST 1048576: true; the input reads as it did. -/
def labelChainsUptoRow : OpenClaim := { program := "ytejaikpnfhhmnaadoor", sum := "962bd7ee26851efd0c832ca7c4e86a3c73b1bef115ec0ea1cc5c78399d601b0c", func := "aquifer/aquiferlaw14.LabelChains", spec := "labelChains", inPlace := ["slices.overlaps[string]"], unfollowed := true, recurses := true, named := ["aquifer/lex.signs"], apart := false, laid := [("aquifer/lex.signs", laid_aquifer_lex_signs)], narrowed := true }
def LabelChainsUptoSaid : Prop := labelChainsUptoRow.holds Tryd.pinned (OpenSpec.upto labelChainsSpec)

/-- 'aquiferlaw14.LabelSets', WHERE WHAT IT READS IS OF BULK AT MOST 1048576: true; the input reads as it did. -/
def labelSetsUptoRow : OpenClaim := { program := "ytejaikpnfhhmnaadoor", sum := "962bd7ee26851efd0c832ca7c4e86a3c73b1bef115ec0ea1cc5c78399d601b0c", func := "aquifer/aquiferlaw14.LabelSets", spec := "labelSets", inPlace := ["slices.overlaps[string]"], unfollowed := true, recurses := true, named := ["aquifer/lex.signs"], apart := false, laid := [("aquifer/lex.signs", laid_aquifer_lex_signs)], narrowed := true }
def LabelSetsUptoSaid : Prop := labelSetsUptoRow.holds Tryd.pinned (OpenSpec.upto labelSetsSpec)

end Rows
end Go.Proofs.YtejaikpnfhhmnaaDoor
