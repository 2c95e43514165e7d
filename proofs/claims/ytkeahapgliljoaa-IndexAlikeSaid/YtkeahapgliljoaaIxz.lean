/- The index laws over the code's own index. Numbers and types by name. -/
import Derived.Test.YtkeahapgliljoaaIxn
import Derived.Test.YtkeahapgliljoaaIru
import Derived.Test.YtkeahapgliljoaaIal
namespace Go.Proofs.Ytkeahapgliljoaa
open Go.RowKit Go.Lib

theorem runs_this (b : Int) (v : Value) (n : Nat) (L : List Iam) (w : World) (hr : Iar w v n L) :
    Calls Try.prog 3 #[.int .i64 b, v] w fun e w' => e = .returned (.bool true) ∧ Below w.heap.size w w' := runs_index ix_kept b v n L w hr
theorem alike_this (a0 b0 : Int) (v : Value) (n : Nat) (L : List Iam) (w : World) (hr : Iar w v n L) :
    Calls Try.prog 4 #[.int .u16 a0, .int .u16 b0, v] w fun e w' => e = .returned (.bool true) ∧ Below w.heap.size w w' := alike_index ix_kept a0 b0 v n L w hr
theorem nil_this (s : ByteArray) (w : World) : Calls Try.prog 5 #[.string s] w fun e w' => e = .returned (.bool true) ∧ Below w.heap.size w w' := nil_index ix_kept ix_none s w

end Go.Proofs.Ytkeahapgliljoaa
