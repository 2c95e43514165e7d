/- The reference's More and Sum. Numbers and types by name. -/
import Derived.Test.YtkeahapgliljoaaCrc
namespace Go.Proofs.Ytkeahapgliljoaa
open Go.RowKit Go.Lib

theorem crc_take {l : List UInt8} {k : Nat} {x : UInt8} (c : BitVec 32) (h : l[k]? = some x) : crc c (l.take (k + 1)) = feed (crc c (l.take k)) x := by
  have : l.take (k + 1) = l.take k ++ [x] := by rw [List.take_add_one, h]; rfl
  rw [this, crc_append]
  rfl

end Go.Proofs.Ytkeahapgliljoaa
