/- The reference's Parse. Numbers and types by name. -/
import Derived.Test.YtejaikpnfhhmnaaDoorQpr
import Derived.Test.YtejaikpnfhhmnaaDoorQpt
import Derived.Test.YtejaikpnfhhmnaaDoorLca
import Derived.Test.YtejaikpnfhhmnaaDoorSmn
namespace Go.Proofs.YtejaikpnfhhmnaaDoor
open Go.RowKit Go.Lib
set_option maxRecDepth 100000

theorem rdr_new {w : World} {ao : Option Addr} {n c : Nat} {L : List Tk} (hT : Tkr w (.slice ao n c) n L) (hL : TokL L) : Rdr w (w.alloc (.cells #[.slice ao n c, .int .i64 0, .int .i64 0, .int .i64 0, .int .i64 0] 93)) w.heap.size n (.slice ao n c) L ps0 :=
  ⟨⟨cellsN (heap_alloc_new _ _) 0 _ rfl, cellsN (heap_alloc_new _ _) 1 _ rfl, cellsN (heap_alloc_new _ _) 2 _ rfl, cellsN (heap_alloc_new _ _) 3 _ rfl, cellsN (heap_alloc_new _ _) 4 _ rfl, fun k => frozen_of_row _ _ _ _ _ (heap_alloc_new _ _)⟩, hT, Nat.le_refl _, (Below.refl _ w).alloc (Nat.le_refl _) _, hL.pos, hL, by decide⟩

/-- Five cells are written. -/
theorem mod_set5 {w : World} {M : Nat} {a0 a1 a2 a3 a4 : Value} {t : TypeId} (h : w.heap[M]? = some (.cells #[a0, a1, a2, a3, a4] t)) (b0 b1 b2 b3 b4 : Value) :
    (((((w.setCell ⟨M, 0, none⟩ b0).setCell ⟨M, 1, none⟩ b1).setCell ⟨M, 2, none⟩ b2).setCell ⟨M, 3, none⟩ b3).setCell ⟨M, 4, none⟩ b4).heap[M]? = some (.cells #[b0, b1, b2, b3, b4] t) ∧ Chg [M] w (((((w.setCell ⟨M, 0, none⟩ b0).setCell ⟨M, 1, none⟩ b1).setCell ⟨M, 2, none⟩ b2).setCell ⟨M, 3, none⟩ b3).setCell ⟨M, 4, none⟩ b4) :=
  ⟨heap_setCell_same _ _ _ _ _ _ (heap_setCell_same _ _ _ _ _ _ (heap_setCell_same _ _ _ _ _ _ (heap_setCell_same _ _ _ _ _ _ (heap_setCell_same _ _ _ _ _ _ h)))), ((((((Chg.refl [M] w).set (.inl (by simp)) 0 _).set (.inl (by simp)) 1 _).set (.inl (by simp)) 2 _).set (.inl (by simp)) 3 _).set (.inl (by simp)) 4 _)⟩

end Go.Proofs.YtejaikpnfhhmnaaDoor
