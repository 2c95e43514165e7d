/- The walks of stage 10 at whole numbers, as the rows hand them. Numbers and types by name. -/
import Derived.Test.YthcdkggkoanjpaaGreatDoorMgs
import Derived.Test.YthcdkggkoanjpaaGreatDoorSre
namespace Go.Proofs.YthcdkggkoanjpaaGreatDoor
open Go.RowKit Go.Lib
theorem room_int {C : SP} {I : SI} (K : StK C I) (v1 : Value) (n1 : Nat) (LL : List (List Opm)) (zr zm : Int) (w : World) (h1 : Obs w v1 n1 LL) (hzr : 0 ≤ zr ∧ zr ≤ 65535) (hzm : 0 ≤ zm ∧ zm ≤ 65535) (ht : Tab w) :
    Calls Tryz.prog 6 #[v1, .int .u16 zr, .int .u16 zm] w fun e w' => e = .returned (.bool true) ∧ Below w.heap.size w w' := by
  obtain ⟨a, rfl⟩ := Int.eq_ofNat_of_zero_le hzr.1
  obtain ⟨b, rfl⟩ := Int.eq_ofNat_of_zero_le hzm.1
  exact room_store K v1 n1 LL a b w h1 (by have := hzr.2; omega) (by have := hzm.2; omega) ht
theorem again_int {C : SP} {I : SI} (K : StK C I) (v1 : Value) (n1 : Nat) (LL : List (List Opm)) (zm : Int) (v3 : Value) (A : List UInt8) (kp : Int) (dn : Bool) (w : World) (h1 : Obs w v1 n1 LL) (hzm : 0 ≤ zm ∧ zm ≤ 65535) (h3 : Reads w v3 (bv A)) (h3l : A.length ≤ maxLen) (hkp : 0 ≤ kp ∧ kp ≤ 255) (ht : Tab w) :
    Calls Tryz.prog 5 #[v1, .int .u16 zm, v3, .int .u8 kp, .bool dn] w fun e w' => e = .returned (.bool true) ∧ Below w.heap.size w w' := by
  obtain ⟨a, rfl⟩ := Int.eq_ofNat_of_zero_le hzm.1
  obtain ⟨b, rfl⟩ := Int.eq_ofNat_of_zero_le hkp.1
  exact again_store K v1 n1 LL a v3 A b dn w h1 (by have := hzm.2; omega) h3 h3l (by have := hkp.2; omega) ht
theorem stkeeps_int {C : SP} {I : SI} (K : StK C I) (v1 : Value) (n1 : Nat) (LL : List (List Opm)) (zm cr : Int) (dn : Bool) (v5 : Value) (A : List UInt8) (v6 : Value) (A6 : List UInt8) (w : World) (h1 : Obs w v1 n1 LL) (hzm : 0 ≤ zm ∧ zm ≤ 65535) (hcr : 0 ≤ cr ∧ cr ≤ 255) (h5 : Reads w v5 (bv A)) (h5l : A.length ≤ maxLen) (h6 : Reads w v6 (bv A6)) (h6l : A6.length ≤ maxLen) (ht : Tab w) :
    Calls Tryz.prog 4 #[v1, .int .u16 zm, .int .u8 cr, .bool dn, v5, v6] w fun e w' => e = .returned (.bool true) ∧ Below w.heap.size w w' := by
  obtain ⟨a, rfl⟩ := Int.eq_ofNat_of_zero_le hzm.1
  obtain ⟨b, rfl⟩ := Int.eq_ofNat_of_zero_le hcr.1
  exact keeps_store K v1 n1 LL a b dn v5 A v6 A6 w h1 (by have := hzm.2; omega) (by have := hcr.2; omega) h5 h5l h6 h6l ht
end Go.Proofs.YthcdkggkoanjpaaGreatDoor
