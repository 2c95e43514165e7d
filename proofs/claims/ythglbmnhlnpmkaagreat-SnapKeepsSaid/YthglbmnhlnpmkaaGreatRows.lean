/-
  No cell of these rows narrows 'for every input' (looked for: loops, veiled, ifaces, maps, wideKeys, modest, calm, conditions, laid).
  DERIVED. THE GIVEN ROWS OF THIS SEAT. 4 by the template 'for every input the law returns true; each argument reads behind the call as it read before'; 0 by the template 'total and deterministic' (their statements: YthglbmnhlnpmkaaGreatTotals.lean).
  GIVEN WITH THE SEED: the statements are not yours to turn. If you find one false, say at which input.
  Laid BY PROGRAM, IN A SANDBOX (cutbox-rows.mjs): the forced cells as the released guide's own fill.sh prints them over the translation 583621ba51d850bd… (all of the seat's roots in one cut). By AI agents, Wed Nov 11 2026. No macro, syntax, notation, axiom, sorry.
-/
import Derived.Test.YthglbmnhlnpmkaaGreatChecked
import GoSem.Claim
import GoSem.ClaimJoined
import GoSem.ClaimMapViews
import Derived.JoinedTies
import Derived.KernelRfl
namespace Go.Proofs.YthglbmnhlnpmkaaGreat
/- THE CELL 'sum', in the pinned program and in every row, IS THE sha256 OF THE DUMP (.gsa) THAT YthglbmnhlnpmkaaGreatProg.lean LOADS. Nothing in Lean hashes anything: it is a label: what it is worth is what the hold of that sum in a sandbox is worth. -/
noncomputable def Tryz.pinned : Pinned := { name := "ythglbmnhlnpmkaagreat", sum := "583621ba51d850bd6810f2d130308a444600a4c8fad66ffc744d7d56d0f81a85", checked := Tryz.checked }
namespace Rows
def none {H : Type} : Left H := { results := [], args := [] }

/-- 'aquiferlaw8.SnapRuns': WHATEVER THE INPUT: true; the input reads as it did. -/
def snapRunsSpec : ChangeSpec := { name := "snapRuns", fn := fun _ => fun
  | [d1, d2] => { results := [.lit (.bool true)], args := [d1, d2] }
  | _ => none }
def snapRunsRow : OpenClaim := { program := "ythglbmnhlnpmkaagreat", sum := "583621ba51d850bd6810f2d130308a444600a4c8fad66ffc744d7d56d0f81a85", func := "aquifer/aquiferlaw8.SnapRuns", spec := "snapRuns", unfollowed := true, recurses := true, apart := false }
def SnapRunsSaid : Prop := snapRunsRow.holds Tryz.pinned (OpenSpec.ofChange snapRunsSpec)

/-- ITS FALSE NEIGHBOUR: 'it returns false'. Refute it at one input. -/
def snapRunsWrong : ChangeSpec := { name := "snapRuns", fn := fun _ => fun
  | [d1, d2] => { results := [.lit (.bool false)], args := [d1, d2] }
  | _ => none }
def SnapRunsWrongFalsely : Prop := snapRunsRow.holds Tryz.pinned (OpenSpec.ofChange snapRunsWrong)

/-- 'aquiferlaw8.SnapKeeps': WHATEVER THE INPUT: true; the input reads as it did. -/
def snapKeepsSpec : ChangeSpec := { name := "snapKeeps", fn := fun _ => fun
  | [d1, d2, d3, d4, d5, d6] => { results := [.lit (.bool true)], args := [d1, d2, d3, d4, d5, d6] }
  | _ => none }
def snapKeepsRow : OpenClaim := { program := "ythglbmnhlnpmkaagreat", sum := "583621ba51d850bd6810f2d130308a444600a4c8fad66ffc744d7d56d0f81a85", func := "aquifer/aquiferlaw8.SnapKeeps", spec := "snapKeeps", unfollowed := true, recurses := true, apart := false }
def SnapKeepsSaid : Prop := snapKeepsRow.holds Tryz.pinned (OpenSpec.ofChange snapKeepsSpec)

/-- ITS FALSE NEIGHBOUR: 'it returns false'. Refute it at one input. -/
def snapKeepsWrong : ChangeSpec := { name := "snapKeeps", fn := fun _ => fun
  | [d1, d2, d3, d4, d5, d6] => { results := [.lit (.bool false)], args := [d1, d2, d3, d4, d5, d6] }
  | _ => none }
def SnapKeepsWrongFalsely : Prop := snapKeepsRow.holds Tryz.pinned (OpenSpec.ofChange snapKeepsWrong)

/-- 'aquiferlaw8.SnapFalls': WHATEVER THE INPUT: true; the input reads as it did. -/
def snapFallsSpec : ChangeSpec := { name := "snapFalls", fn := fun _ => fun
  | [d1, d2] => { results := [.lit (.bool true)], args := [d1, d2] }
  | _ => none }
def snapFallsRow : OpenClaim := { program := "ythglbmnhlnpmkaagreat", sum := "583621ba51d850bd6810f2d130308a444600a4c8fad66ffc744d7d56d0f81a85", func := "aquifer/aquiferlaw8.SnapFalls", spec := "snapFalls", unfollowed := true, recurses := true, apart := false }
def SnapFallsSaid : Prop := snapFallsRow.holds Tryz.pinned (OpenSpec.ofChange snapFallsSpec)

/-- ITS FALSE NEIGHBOUR: 'it returns false'. Refute it at one input. -/
def snapFallsWrong : ChangeSpec := { name := "snapFalls", fn := fun _ => fun
  | [d1, d2] => { results := [.lit (.bool false)], args := [d1, d2] }
  | _ => none }
def SnapFallsWrongFalsely : Prop := snapFallsRow.holds Tryz.pinned (OpenSpec.ofChange snapFallsWrong)

/-- 'aquiferlaw8.SnapOther': WHATEVER THE INPUT: true; the input reads as it did. -/
def snapOtherSpec : ChangeSpec := { name := "snapOther", fn := fun _ => fun
  | [d1, d2] => { results := [.lit (.bool true)], args := [d1, d2] }
  | _ => none }
def snapOtherRow : OpenClaim := { program := "ythglbmnhlnpmkaagreat", sum := "583621ba51d850bd6810f2d130308a444600a4c8fad66ffc744d7d56d0f81a85", func := "aquifer/aquiferlaw8.SnapOther", spec := "snapOther", unfollowed := true, recurses := true, apart := false }
def SnapOtherSaid : Prop := snapOtherRow.holds Tryz.pinned (OpenSpec.ofChange snapOtherSpec)

/-- ITS FALSE NEIGHBOUR: 'it returns false'. Refute it at one input. -/
def snapOtherWrong : ChangeSpec := { name := "snapOther", fn := fun _ => fun
  | [d1, d2] => { results := [.lit (.bool false)], args := [d1, d2] }
  | _ => none }
def SnapOtherWrongFalsely : Prop := snapOtherRow.holds Tryz.pinned (OpenSpec.ofChange snapOtherWrong)

/- THE SECOND FORM. 'bulk': how many values and letters a reading holds, each counted each time it is reached (what is shared counts as often as it is met; a slice's spare places count too). A statement '..UptoSaid' is the law's where the arguments, and the package variables that the reading takes, are together of bulk at most 1048576: NARROWER than '..Said'. Prove '..Said' where nothing that the law and all that it calls make is longer than what came in: it says more and counts as full. Else prove '..UptoSaid'. A law counts once. -/
mutual
def uptoBulk {H : Type} : DataW H → Nat
  | .lit (.string bytes) => bytes.length + 1
  | .lit _ => 1
  | .nil => 1
  | .ptr d => uptoBulk d + 1
  | .slice elems spare => uptoBulkAll elems + uptoBulkAll spare + 1
  | .agg parts => uptoBulkAll parts + 1
  | .iface _ d => uptoBulk d + 1
  | .map entries => uptoBulkEntries entries + 1
  | .held _ => 1
def uptoBulkAll {H : Type} : List (DataW H) → Nat
  | [] => 0
  | d :: r => uptoBulk d + uptoBulkAll r
def uptoBulkEntries {H : Type} : List (Lit × DataW H) → Nat
  | [] => 0
  | x :: r => uptoBulkEntry x + uptoBulkEntries r
def uptoBulkEntry {H : Type} : Lit × DataW H → Nat
  | (.string bytes, d) => bytes.length + uptoBulk d + 1
  | (_, d) => uptoBulk d + 1
 end
def uptoSmall : (H : Type) → List (DataW H) → Bool := fun _ ds => decide (uptoBulkAll ds ≤ 1048576)
def OpenSpec.upto (s : _root_.Go.ChangeSpec) : _root_.Go.OpenSpec := { _root_.Go.OpenSpec.ofChange s with cond := some uptoSmall }

/-- 'aquiferlaw8.SnapRuns', WHERE WHAT IT READS IS OF BULK AT MOST 1048576: true; the input reads as it did. -/
def snapRunsUptoRow : OpenClaim := { program := "ythglbmnhlnpmkaagreat", sum := "583621ba51d850bd6810f2d130308a444600a4c8fad66ffc744d7d56d0f81a85", func := "aquifer/aquiferlaw8.SnapRuns", spec := "snapRuns", unfollowed := true, recurses := true, apart := false, narrowed := true }
def SnapRunsUptoSaid : Prop := snapRunsUptoRow.holds Tryz.pinned (OpenSpec.upto snapRunsSpec)

/-- 'aquiferlaw8.SnapKeeps', WHERE WHAT IT READS IS OF BULK AT MOST 1048576: true; the input reads as it did. -/
def snapKeepsUptoRow : OpenClaim := { program := "ythglbmnhlnpmkaagreat", sum := "583621ba51d850bd6810f2d130308a444600a4c8fad66ffc744d7d56d0f81a85", func := "aquifer/aquiferlaw8.SnapKeeps", spec := "snapKeeps", unfollowed := true, recurses := true, apart := false, narrowed := true }
def SnapKeepsUptoSaid : Prop := snapKeepsUptoRow.holds Tryz.pinned (OpenSpec.upto snapKeepsSpec)

/-- 'aquiferlaw8.SnapFalls', WHERE WHAT IT READS IS OF BULK AT MOST 1048576: true; the input reads as it did. -/
def snapFallsUptoRow : OpenClaim := { program := "ythglbmnhlnpmkaagreat", sum := "583621ba51d850bd6810f2d130308a444600a4c8fad66ffc744d7d56d0f81a85", func := "aquifer/aquiferlaw8.SnapFalls", spec := "snapFalls", unfollowed := true, recurses := true, apart := false, narrowed := true }
def SnapFallsUptoSaid : Prop := snapFallsUptoRow.holds Tryz.pinned (OpenSpec.upto snapFallsSpec)

/-- 'aquiferlaw8.SnapOther', WHERE WHAT IT READS IS OF BULK AT MOST 1048576: true; the input reads as it did. -/
def snapOtherUptoRow : OpenClaim := { program := "ythglbmnhlnpmkaagreat", sum := "583621ba51d850bd6810f2d130308a444600a4c8fad66ffc744d7d56d0f81a85", func := "aquifer/aquiferlaw8.SnapOther", spec := "snapOther", unfollowed := true, recurses := true, apart := false, narrowed := true }
def SnapOtherUptoSaid : Prop := snapOtherUptoRow.holds Tryz.pinned (OpenSpec.upto snapOtherSpec)

end Rows
end Go.Proofs.YthglbmnhlnpmkaaGreat
