/- Lists of bytes that came in. Numbers and types by name. -/
import Derived.Test.YtlgfijjkbomejaaDoorBas
import Derived.ProofKit
import Derived.Deep.Slices
namespace Go.Proofs.YtlgfijjkbomejaaDoor
open Go.ChangeShapes Go.WideShapes Go.ChangeAt Go.RowKit Go.Lib Go.Deep

theorem ownKnobK : ownKnob Tryd.prog.godebug = none := by kernel_rfl
theorem laidOutK : laidOutB Tryd.prog = true := by kernel_rfl
theorem cellsByteK : Tryd.prog.cellsOf 5 = 1 := by kernel_rfl
/-- A []byte that came in reads as bytes. -/
theorem open_bytes {H : Type} {enc : TypeId × Value → H} {W : World} {base : Nat} {spare : Nat → Bool} {held : Bool} {fuel : Nat} {a0 : Option Addr} {len cap : Nat} {x : DataW H × List MemPlace}
    (h : DataW.trod enc Tryd.prog W base spare held fuel 42 [.slice a0 len cap] = some x) : ∃ A : List UInt8, A.length = len ∧ Reads W (.slice a0 len cap) (bv A) ∧ len ≤ maxLen := by
  rcases open_ints Tryd.underlying42 Tryd.underlying5 cellsByteK h with ⟨hcs, _⟩ | ⟨a, len', cap', zs, hcs, _, hl, hm, hz, _, hcell, hwz⟩
  · simp only [List.cons.injEq, Value.slice.injEq, and_true] at hcs
    obtain ⟨rfl, rfl, rfl⟩ := hcs
    exact ⟨[], rfl, Reads.nil W, Nat.zero_le _⟩
  · simp only [List.cons.injEq, Value.slice.injEq, and_true] at hcs
    obtain ⟨rfl, rfl, rfl⟩ := hcs
    have hzl : len ≤ zs.length := by rw [hz]; split <;> omega
    refine ⟨(zs.take len).map fun n => UInt8.ofNat n.toNat, by simp; omega, ⟨some a, cap, by simp [bv]; omega, by simp [bv]; omega, (fun e => by cases e), fun a' ha j u hj => ?_⟩, Nat.le_trans hl hm⟩
    cases ha
    have hj1 : j < len := by
      have := (List.getElem?_eq_some_iff.1 hj).1
      simp [bv] at this
      omega
    have hjz : j < zs.length := by omega
    rw [hcell j hjz]
    have hw := hwz (zs[j]) (List.getElem_mem hjz)
    have hr : 0 ≤ zs[j] ∧ zs[j] ≤ 255 := by simpa [Lit.wf, IntKind.min, IntKind.max, IntKind.signed, IntKind.bits] using hw
    have e : (bv ((zs.take len).map fun n => UInt8.ofNat n.toNat))[j]? = some (.int .u8 ((UInt8.ofNat (zs[j]).toNat).toNat : Int)) := by
      simp [bv, List.getElem?_take, hj1, List.getElem?_eq_getElem hjz]
    rw [e] at hj
    cases hj
    have e2 : ((UInt8.ofNat (zs[j]).toNat).toNat : Int) = zs[j] := by
      rw [UInt8.toNat_ofNat']
      omega
    rw [e2]
    simp [List.getElem?_eq_getElem hjz]

end Go.Proofs.YtlgfijjkbomejaaDoor
