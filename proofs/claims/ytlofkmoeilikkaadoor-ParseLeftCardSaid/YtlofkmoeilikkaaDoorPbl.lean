/- The reference's proc. Numbers and types by name. -/
import Derived.Test.YtlofkmoeilikkaaDoorPbk
import Derived.Deep.Cut
import Derived.Deep.CutBlock
import Derived.Deep.CutRange
namespace Go.Proofs.YtlofkmoeilikkaaDoor
open Go.RowKit Go.Lib
set_option maxRecDepth 100000

def listOf {α : Type} (L : List Tk) (one : PS → α × PS) (s : PS) (shut : List UInt8) : List α × PS := if isT L s shut = true then ([], s) else listLoop L one (L.length + 1) s []
theorem list_of {α : Type} (L : List Tk) (one : PS → α × PS) (s : PS) (shut : List UInt8) : listT L one s shut = ((listOf L one s shut).1, wantT L (listOf L one s shut).2 shut) := rfl
theorem listOf_goes {α : Type} {L : List Tk} (hL : TokL L) {one : PS → α × PS} (h1 : ∀ s, Goes L s (one s).2) (s : PS) (shut : List UInt8) : Goes L s (listOf L one s shut).2 := by
  unfold listOf
  split
  · exact Goes.refl L s
  · exact listLoop_goes hL h1 _ _ _
theorem listLoop_step {α : Type} {L : List Tk} {one : PS → α × PS} {q : Nat} {s : PS} {acc : List α} {G : List α × PS} (h : listLoop L one (q + 1) s acc = G) (he : s.e = 0) : (if isT L (one s).2 [44] = true then listLoop L one q (one s).2.go (acc ++ [(one s).1]) else (acc ++ [(one s).1], (one s).2)) = G := by
  unfold listLoop at h
  rw [if_neg (by simp [he])] at h
  exact h
theorem list_less {α : Type} {L : List Tk} {one : PS → α × PS} {s : PS} (h1 : Goes L s (one s).2) (hs : s.i < L.length) (h : isT L (one s).2 [44] = true) : remT L (one s).2.go < remT L s := by
  have h2 := isT_e h
  have h3 := h1.rem
  have h4 := rem_go (L := L) h2.1 (h1.lt hs)
  omega

/-- Another block of the call's own is written. -/
theorem PrAt.other {w0 w wr w1 : World} {b n : Nat} {vl : Value} {L : List Tk} {T U X : Nat} {p : Prc} {vP vU : Value} {mP mU : Nat} {s : PS} (H : PrAt w0 w wr b n vl L T U p vP vU mP mU s) (hX : w.heap.size ≤ X) (hT : X ≠ T) (hU : X ≠ U) (h1 : vP.ownBlock ≠ some X) (h2 : vU.ownBlock ≠ some X) (hc : Chg [X] wr w1) : PrAt w0 w w1 b n vl L T U p vP vU mP mU s := by
  have hb := H.rc.bw
  exact ⟨⟨H.rc.r.chg hc (fun y hy => by simp only [List.mem_singleton] at hy; omega) (H.rc.r.r.chg hc (by simp only [List.mem_singleton]; omega)) H.rc.r.lt H.rc.r.deep, H.rc.c.trans' hc (fun y hy => by simp only [List.mem_singleton] at hy; subst hy; exact .inr hX), (hc.block T (Array.getElem?_eq_some_iff.1 H.rc.sb).1 (by simp only [List.mem_singleton]; omega)).trans H.rc.sb, (hc.block U (Array.getElem?_eq_some_iff.1 H.rc.z).1 (by simp only [List.mem_singleton]; omega)).trans H.rc.z, hb, H.rc.wT, H.rc.wU, H.rc.tu⟩,
    H.op.chg hc (fun k hk hm => h1 (by simp only [List.mem_singleton] at hm; rw [← hm]; exact hk)), H.ou.chg hc (fun k hk hm => h2 (by simp only [List.mem_singleton] at hm; rw [← hm]; exact hk)), H.lP, H.lU, H.pu⟩
theorem OwnR.one {w wr : World} {T U : Nat} {e : TypeId} {size : Nat} {v : Value} {m : Nat} {cs : List Value} (h : OwnR w wr T U e size v m cs) : v.oneCell' = true := by
  rcases h.o.2 with ⟨rfl, _⟩ | ⟨g, cap, cur, rfl, _⟩ <;> rfl
theorem prc_ones (p : Prc) {vP vU vB : Value} (h1 : vP.oneCell' = true) (h2 : vU.oneCell' = true) (h3 : vB.oneCell' = true) : (prcV p vP vU vB).toArray.all (·.oneCell') = true := by
  simp only [prcV, List.all_toArray, List.all_cons, List.all_nil, h1, h2, h3]
  rfl
theorem par_info (p : Par) : (Tryd.prog.info? 62).map (·.size) = some (parV p).toArray.size := by
  show _ = some 3
  kernel_rfl

end Go.Proofs.YtlofkmoeilikkaaDoor
