/- The law's own lists of pairs: pairs of numbers. Numbers and types by name. -/
import Derived.Test.YtejaikpnfhhmnaaDoorLrw
import Derived.Deep.RegionHeld3
import Derived.Deep.RegionHeldLaw
namespace Go.Proofs.YtejaikpnfhhmnaaDoor
open Go.RowKit Go.Lib
set_option maxRecDepth 100000

theorem elemPrm8 : Elem 22 50 (.agg #[.string ⟨#[]⟩, .string ⟨#[]⟩, .int .i64 0]) 3 40 := ⟨Tryd.underlying22, by kernel_rfl, by decide, by decide⟩

/-- An own list of pairs. -/
def OwnPr (w : World) (base : Nat) (v : Value) (n : Nat) (l : List Pr8) : Prop := n = l.length ∧ ∃ cs, w.ownsRow base 50 3 v n cs ∧ Parts 3 PrmR l cs
theorem OwnPr.nil (w : World) (base : Nat) : OwnPr w base (.slice none 0 0) 0 [] := ⟨rfl, [], World.ownsRow_nil _ _ _ _, rfl⟩
theorem owns_shape3 {w : World} {base e : Nat} {v : Value} {n : Nat} {xs : List Value} (h : w.ownsRow base e 3 v n xs) : ∃ ao c, v = .slice ao n c := by
  rcases h.2 with ⟨rfl, rfl⟩ | ⟨g, cap, cur, rfl, _⟩
  · exact ⟨none, 0, rfl⟩
  · exact ⟨_, _, rfl⟩
theorem OwnPr.shape {w : World} {base : Nat} {v : Value} {n : Nat} {l : List Pr8} (h : OwnPr w base v n l) : ∃ ao c, v = .slice ao n c := owns_shape3 h.2.choose_spec.1
theorem OwnPr.later {w w' : World} {base : Nat} {v : Value} {n : Nat} {l : List Pr8} (h : OwnPr w base v n l) (hg : Grow w w') : OwnPr w' base v n l := by
  obtain ⟨h1, cs, h2, h3⟩ := h
  exact ⟨h1, cs, own_chg (F := []) h2 (Chg.of_below hg) (by simp), h3⟩
theorem OwnPr.chg {w w' : World} {base : Nat} {v : Value} {n : Nat} {l : List Pr8} {F : List Nat} (h : OwnPr w base v n l) (hc : Chg F w w') (hF : ∀ k, v.ownBlock = some k → k ∉ F) : OwnPr w' base v n l := by
  obtain ⟨h1, cs, h2, h3⟩ := h
  exact ⟨h1, cs, own_chg h2 hc hF, h3⟩
theorem OwnPr.base {w : World} {base base' : Nat} {v : Value} {n : Nat} {l : List Pr8} (h : OwnPr w base v n l) (hb : base' ≤ base) : OwnPr w base' v n l := by
  obtain ⟨h1, cs, h2, h3⟩ := h
  exact ⟨h1, cs, owns_base h2 hb, h3⟩
theorem OwnPr.read {w : World} {base : Nat} {v : Value} {n : Nat} {l : List Pr8} (h : OwnPr w base v n l) (hn : n ≤ 1000000) : PrmsV w v n l := by
  obtain ⟨rfl, cs, h2, h3⟩ := h
  exact ⟨rfl, hn, by unfold maxLen; omega, cs, Cells.own h2 (by decide), h3⟩
def pcs (p : Pr8) : List Value := [.string (tx p.1), .string (tx p.2), .int .i64 0]
theorem pcs_one (p : Pr8) : ∀ u ∈ pcs p, u.oneCell' = true := by
  intro u hu
  simp only [pcs, List.mem_cons, List.not_mem_nil, or_false] at hu
  rcases hu with rfl | rfl | rfl <;> rfl
theorem pcs_prm (p : Pr8) : PrmR p (pcs p) := ⟨0, rfl⟩

theorem conv_one {W : World} {a : Addr} {z : Int} (x : UInt8) (hz : z = (x.toNat : Int)) (h : W.cell? a = some (.int .u8 z)) : (convert 43 9 (.slice (some a) 1 1)).run Tryd.prog W = .ok (.string (tx [x])) W := by
  refine conv_reads ⟨some a, 1, rfl, Nat.le_refl _, (fun e => by cases e), fun a' ha j u hj => ?_⟩
  cases ha
  have hj0 : j = 0 := by have := (List.getElem?_eq_some_iff.1 hj).1; simp [bv] at this; omega
  subst hj0
  rw [show (bv [x])[0]? = some (.int .u8 (x.toNat : Int)) from rfl] at hj
  cases hj
  rw [show a.add 0 = a from by cases a; rfl, h, hz]

theorem growA {w W : World} (o : Obj) (h : Grow w W) : Grow w (W.alloc o) := Grow.trans h ((Below.refl _ _).alloc (Nat.le_refl _) _)
theorem growD {w W : World} (h : Grow w W) : Grow w W.drew := below_drewN h 1
theorem lit_two (w : World) (p : Pr8) : Hid (∀ A B, Cells (((w.alloc A).alloc B).alloc (.cells #[.string (tx p.1), .string (tx p.2), .int .i64 0] 50)).drew (.slice (some ⟨w.heap.size + 1 + 1, 0, none⟩) 1 1) 3 1 (pcs p)) := Lib.hid fun A B => by
  have h := Cells.lit ((w.alloc A).alloc B) (pcs p) 50 (0, 0) 3 1 rfl
  rw [show ((w.alloc A).alloc B).heap.size = w.heap.size + 1 + 1 by simp] at h
  exact h
/-- The pairs of numbers. -/
def ltr6 (x : UInt8) : UInt8 := UInt8.ofNat (97 + x.toNat % 6)
def pairsT : List UInt8 → List Pr8
  | x :: y :: r => ([ltr6 x], [ltr6 y]) :: pairsT r
  | _ => []
theorem ltr6_wrap (x : UInt8) : IntKind.u8.wrap (97 + (x.toNat : Int).tmod 6) = ((ltr6 x).toNat : Int) := by
  have h1 : (x.toNat : Int).tmod 6 = ((x.toNat % 6 : Nat) : Int) := by rw [Int.tmod_eq_emod_of_nonneg (by omega)]; omega
  have h2 : (ltr6 x).toNat = 97 + x.toNat % 6 := by unfold ltr6; rw [UInt8.toNat_ofNat']; omega
  rw [h1, h2, IntWalk.u8_in _ (by omega)]
  omega
theorem pairsT_len : ∀ l : List UInt8, (pairsT l).length = l.length / 2
  | [] => rfl
  | [_] => by simp [pairsT]
  | x :: y :: r => by
    unfold pairsT
    rw [List.length_cons, pairsT_len r, List.length_cons, List.length_cons]
    omega
theorem pairsT_at : ∀ {l : List UInt8} {k : Nat} {x y : UInt8}, l[2 * k]? = some x → l[2 * k + 1]? = some y → (pairsT l)[k]? = some ([ltr6 x], [ltr6 y])
  | [], _, _, _, h, _ => by simp at h
  | [_], 0, _, _, _, h => by simp at h
  | [_], k + 1, _, _, h, _ => by
    rw [List.getElem?_eq_none (by simp; omega)] at h
    cases h
  | a :: b :: r, 0, x, y, h, h2 => by
    simp only [Nat.mul_zero, List.getElem?_cons_zero, Option.some.injEq, Nat.zero_add, List.getElem?_cons_succ] at h h2
    subst h h2
    rfl
  | a :: b :: r, k + 1, x, y, h, h2 => by
    rw [show 2 * (k + 1) = 2 * k + 1 + 1 by omega] at h h2
    rw [List.getElem?_cons_succ, List.getElem?_cons_succ] at h
    rw [show 2 * k + 1 + 1 + 1 = (2 * k + 1) + 1 + 1 by omega, List.getElem?_cons_succ, List.getElem?_cons_succ] at h2
    unfold pairsT
    rw [List.getElem?_cons_succ]
    exact pairsT_at h h2

/-- What pairs tells. -/
def PairTold (w : World) (ns : List UInt8) (e : Ending) (w' : World) : Prop := ∃ u m, e = .returned u ∧ OwnPr w' w.heap.size u m (pairsT ns) ∧ Grow w w'

set_option maxHeartbeats 2000000 in
theorem law_pairs (v : Value) (n : Nat) (ns : List UInt8) (w : World) (hl : n = ns.length) (hn : n ≤ 1000) (h : Reads w v (bv ns)) :
    Calls Tryd.prog 20 #[v] w (PairTold w ns) := by
  obtain ⟨ao, c, rfl, hc, hz, hat⟩ := h
  rw [bv_length, ← hl] at hc ⊢
  have HA := Lib.hid (And.intro hat (And.intro hl (show ao = none → n = 0 from fun e => by have := (hz e).1; rw [hl, ← bv_length, this]; rfl)))
  clear hat hl hz
  go_enter Tryd.func20, Tryd.ntmps20
  go_wp2_with fail
  go_loopw [3, 4] (fun r i wr => ∃ k q : Nat, q ≤ n ∧ i = .int .i64 (q : Int) ∧ Hid (q = 2 * k ∧ OwnPr wr w.heap.size r k ((pairsT ns).take k) ∧ Grow w wr)) (fun _ i _ => n - (RowKit.intOf i).toNat)
  case atStart => exact ⟨0, 0, by omega, rfl, Lib.hid ⟨rfl, OwnPr.nil _ _, Grow.refl w⟩⟩
  case round =>
    obtain ⟨k, q, hk, rfl, hs⟩ := hrel
    by_cases h1 : q + 1 < n
    · have h3 : (q : Int) + 1 < (n : Int) := by omega
      obtain ⟨bo, d, rfl⟩ := hs.out.2.1.shape
      obtain ⟨x, hx⟩ : ∃ x, ns[q]? = some x := ⟨_, List.getElem?_eq_getElem (by have := HA.out.2.1; omega)⟩
      obtain ⟨y, hy⟩ : ∃ y, ns[q + 1]? = some y := ⟨_, List.getElem?_eq_getElem (by have := HA.out.2.1; omega)⟩
      have hp := pairsT_at (k := k) (by rw [← hs.out.1]; exact hx) (by rw [← hs.out.1]; exact hy)
      obtain ⟨a, rfl⟩ : ∃ a, ao = some a := by
        cases ao with
        | some a => exact ⟨a, rfl⟩
        | none => have := HA.out.2.2 rfl; omega
      have d1 : w.cell? (a.add q) = some (.int .u8 (x.toNat : Int)) := HA.out.1 a rfl _ _ (by simp [bv, hx])
      have d2 : w.cell? (a.add (q + 1)) = some (.int .u8 (y.toNat : Int)) := HA.out.1 a rfl _ _ (by simp [bv, hy])
      have d3 : w.cell? ⟨a.block, a.off + (q + 1), none⟩ = some (.int .u8 (y.toNat : Int)) := by simpa [Addr.add] using d2
      have hs0 := hs.out.2.2
      have c1 := grow_cellO hs0 d1
      have c3 := grow_cellO hs0 d3
      have h9 : q < n := by omega
      have h8 : (q : Int) < (n : Int) := by omega
      have cv1 : ∀ (W : World) (b : Addr), W.cell? b = some (.int .u8 ((ltr6 x).toNat : Int)) → (convert 43 9 (.slice (some b) 1 1)).run Tryd.prog W = .ok (.string (tx [ltr6 x])) W := fun W b h => conv_one _ rfl h
      have cv2 : ∀ (W : World) (b : Addr), W.cell? b = some (.int .u8 ((ltr6 y).toNat : Int)) → (convert 43 9 (.slice (some b) 1 1)).run Tryd.prog W = .ok (.string (tx [ltr6 y])) W := fun W b h => conv_one _ rfl h
      have wx := ltr6_wrap x
      have wy := ltr6_wrap y
      have x0 : (0 : Int) ≤ (x.toNat : Int) := by omega
      have y0 : (0 : Int) ≤ (y.toNat : Int) := by omega
      have HS := Lib.hid (And.intro hs.out (And.intro hp (And.intro hx hy)))
      clear hs hp hx hy
      have FK : Hid (k + 1 ≤ 1000000) := Lib.hid (by have := HS.out.1.1; omega)
      have hwq : IntKind.i64.wrap ((q : Int) + 1) = (q : Int) + 1 := IntWalk.i64_in _ (by omega)
      have hq0 : (0 : Int) ≤ (q : Int) + 1 := by omega
      have hqt : ((q : Int) + 1).toNat = q + 1 := by omega
      have HGR := Lib.hid hs0
      have KEEP : Hid (∀ W, Grow w W → W.cell? (a.add q) = some (.int .u8 (x.toNat : Int)) ∧ W.cell? ⟨a.block, a.off + (q + 1), none⟩ = some (.int .u8 (y.toNat : Int))) := Lib.hid fun W hg => ⟨grow_cellO hg d1, grow_cellO hg d3⟩
      obtain ⟨cs, hcs⟩ := HS.out.1.2.1.2
      have HO : Hid (∀ W, Grow wr W → W.ownsRow w.heap.size 50 3 (.slice bo k d) k cs) := Lib.hid fun W hg => own_chg (F := []) hcs.1 (Chg.of_below hg) (by simp)
      have HP := Lib.hid hcs.2
      have HB : Hid (∀ W, Grow wr W → w.heap.size ≤ W.heap.size) := Lib.hid fun W hg => by have := HS.out.1.2.2.size; have := hg.size; omega
      have HL := lit_two wr ([ltr6 x], [ltr6 y])
      clear hcs d1 d2 d3 hs0
      go_upto_region 5 with fail
      go_region_held_law (fun w' => w'.cell? (a.add q) = some (.int .u8 (x.toNat : Int)) ∧ w'.cell? ⟨a.block, a.off + (q + 1), none⟩ = some (.int .u8 (y.toNat : Int))) (exact KEEP.out _ (by repeat' (first | exact HGR.out | refine growA _ ?_ | refine growD ?_ | refine Below.trans ?_ hb6))) ((refine step_append_gen elemPrm8 (by rfl) (.tmp 12) (.tmp 31) (by rfl) w.heap.size (.slice bo k d) k cs (by rfl) (HO.out _ (by repeat' (first | exact Grow.refl _ | refine growA _ ?_ | refine growD ?_))) (.slice (some ⟨wr.heap.size + 1 + 1, 0, none⟩) 1 1) 1 (pcs ([ltr6 x], [ltr6 y])) (by rfl) (HL.out _ _) (pcs_one _) (k + 1) rfl FK (by decide) (HB.out _ (by repeat' (first | exact Grow.refl _ | refine growA _ ?_ | refine growD ?_))) ?_; intro ao6 c6 w6 hown6 hb6 hg6 ho6))
      all_goals
        have HN : Hid (OwnPr w6 w.heap.size (.slice ao6 (k + 1) c6) (k + 1) ((pairsT ns).take (k + 1)) ∧ Grow w w6) := Lib.hid ⟨⟨by rw [List.length_take]; have := (List.getElem?_eq_some_iff.1 HS.out.2.1).1; omega, _, hown6, by rw [List.take_add_one, HS.out.2.1]; exact Parts.snoc rfl (pcs_prm _) HP.out⟩, Below.trans (by repeat' (first | exact HGR.out | refine growA _ ?_ | refine growD ?_)) hb6⟩
        clear hown6 hb6 hg6 ho6
        go_wp2_with fail
        exact ⟨⟨k + 1, q + 2, by omega, by go_num, Lib.hid ⟨by have := HS.out.1.1; omega, HN.out⟩⟩, by simp [RowKit.intOf]; omega⟩
    · have h3 : ¬ (q : Int) + 1 < (n : Int) := by omega
      obtain ⟨bo, d, rfl⟩ := hs.out.2.1.shape
      go_wp2_with fail
      go_ret
      have h6 : (pairsT ns).take k = pairsT ns := List.take_of_length_le (by rw [pairsT_len]; have := HA.out.2.1; have := hs.out.1; omega)
      have h7 := hs.out.2.1
      rw [h6] at h7
      exact ⟨_, k, rfl, h7, hs.out.2.2⟩

end Go.Proofs.YtejaikpnfhhmnaaDoor
