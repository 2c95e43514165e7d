/- Regions that draw their order and end with an operation that may write what was there: one walk. Numbers and types by name. -/
import Derived.Test.YtlgfijjkbomejaaDoorLin
import Derived.Test.YtlgfijjkbomejaaDoorMov
/- Lists of pairs that are read; the code's names. Numbers and types by name. -/
namespace Go.Proofs.YtlgfijjkbomejaaDoor
open Go.RowKit Go.Lib Go.Sort
set_option maxRecDepth 100000

abbrev Pr8 := List UInt8 × List UInt8
def PrmR (p : Pr8) (cs : List Value) : Prop := ∃ z : Int, cs = [.string (tx p.1), .string (tx p.2), .int .i64 z]
/-- A list of pairs that is read, whatever their places. -/
def PrmsV (w : World) (v : Value) (n : Nat) (l : List Pr8) : Prop := n = l.length ∧ n ≤ 1000000 ∧ TRows w 3 PrmR v l
theorem PrmsV.shape {w : World} {v : Value} {n : Nat} {l : List Pr8} (h : PrmsV w v n l) : ∃ ao c, v = .slice ao n c := by
  obtain ⟨ao, c, e⟩ := h.2.2.shape
  exact ⟨ao, c, by rw [h.1]; exact e⟩
theorem PrmsV.later {w w' : World} {v : Value} {n : Nat} {l : List Pr8} (h : PrmsV w v n l) (hg : Grow w w') : PrmsV w' v n l := ⟨h.1, h.2.1, h.2.2.imp hg fun _ _ h => h⟩
theorem PrmsV.at {w : World} {ao : Option Addr} {n c : Nat} {l : List Pr8} (h : PrmsV w (.slice ao n c) n l) {k : Nat} (hk : k < n) :
    ∃ a p z, ao = some a ∧ l[k]? = some p ∧ w.cell? (a.add (k * 3)) = some (.string (tx p.1)) ∧ w.cell? ⟨(a.add (k * 3)).block, (a.add (k * 3)).off + 1, none⟩ = some (.string (tx p.2)) ∧ w.cell? ⟨(a.add (k * 3)).block, (a.add (k * 3)).off + 2, none⟩ = some (.int .i64 z) := by
  obtain ⟨a, p, cs, rfl, h1, ⟨z, rfl⟩, _, h2⟩ := TRows.at h.2.2 hk
  exact ⟨a, p, z, rfl, h1, h2.1 _ rfl, h2.2 1 _ (by decide) rfl, h2.2 2 _ (by decide) rfl⟩

/-- Writes to an own row, and new blocks. -/
theorem row_grow {w W w2 : World} {v : Value} {m : Nat} {L : List (List UInt8)} (h : Grow w W) (ho : OwnS W w.heap.size v m L) (hc : Chg (rowF v) W w2) : Grow w w2 :=
  Below.trans h (hc.below h.size fun x hx => (ho.2.lt x (rowF_mem.1 hx)).1)
/-- What names tells: the names, or more of them than may be. -/
def NamTold (w : World) (l : List Pr8) (e : Ending) (w' : World) : Prop :=
  ∃ ao m c M, e = .returned (.slice ao m c) ∧ OwnS w' w.heap.size (.slice ao m c) m M ∧ Grow w w' ∧ m ≤ 16 ∧ (((namesP l).length ≤ 12 ∧ M = namesP l) ∨ (12 < (namesP l).length ∧ 12 < m))

set_option maxHeartbeats 8000000 in
theorem code_names (v : Value) (n : Nat) (l : List Pr8) (w : World) (h : PrmsV w v n l) :
    Calls Tryd.prog 9 #[v] w (NamTold w l) := by
  obtain ⟨ao, c, rfl⟩ := h.shape
  have H := Lib.hid h
  have hm := h.2.1
  clear h
  go_enter Tryd.func9, Tryd.ntmps9
  go_wp2_with fail
  go_loopw [8, 3] (fun i o wr => ∃ (k : Nat) (bo : Option Addr) (m d : Nat), k ≤ n ∧ i = .int .i64 k ∧ o = .slice bo m d ∧ m ≤ 12 ∧ Hid (OwnS wr w.heap.size (.slice bo m d) m (namesP (l.take k)) ∧ Grow w wr))
    (fun i _ _ => n - (RowKit.intOf i).toNat)
  case atStart => exact ⟨0, none, 0, 0, Nat.zero_le _, rfl, rfl, by decide, Lib.hid ⟨OwnS.nil _ _, Grow.refl _⟩⟩
  case round =>
    obtain ⟨k, bo, m, d, hk, rfl, rfl, hm12, hs⟩ := hrel
    by_cases h1 : k < n
    · have h3 : (k : Int) < (n : Int) := by omega
      obtain ⟨a, p, z, rfl, hp, c0, c1, c2⟩ := (H.out.later hs.out.2).at h1
      obtain ⟨p1, p2⟩ := p
      simp only at c0 c1
      obtain ⟨W, hW⟩ : ∃ W, wr.alloc (.cells #[.string (tx p1), .string (tx p2), .int .i64 z] 26) = W := ⟨_, rfl⟩
      have hgW : Grow wr W := by rw [← hW]; exact (Below.refl _ _).alloc (Nat.le_refl _) _
      have hbW : W.heap[wr.heap.size]? = some (.cells #[.string (tx p1), .string (tx p2), .int .i64 z] 26 (0, 0)) := by rw [← hW]; exact heap_alloc_new _ _
      have b0 : W.cell? ⟨wr.heap.size, 0, none⟩ = some (.string (tx p1)) := cellsN hbW 0 _ rfl
      have b1 : W.cell? ⟨wr.heap.size, 1, none⟩ = some (.string (tx p2)) := cellsN hbW 1 _ rfl
      have hOW := hs.out.1.later hgW
      have hne : wr.heap.size ∉ rowF (.slice bo m d) := fun hm9 => by
        have := (hs.out.1.2.lt _ (rowF_mem.1 hm9)).2
        omega
      have P1 := code_with w.heap.size _ m _ p1 W hOW (namesP_rise _) (Grow.trans hs.out.2 hgW).size (by omega)
      have HM := Lib.hid (And.intro hs.out.1.1 hm12)
      have HW := Lib.hid (And.intro hp (And.intro (Grow.trans hs.out.2 hgW) hbW))
      have HRw := Lib.hid (And.intro hOW hne)
      clear hp hs hgW hbW hOW hne
      go_wp2_with fail
      refine P1.mono ?_
      rintro e w2 ⟨bo2, m2, d2, rfl, hO2, hC2, hF2⟩
      have hB2 : Grow w w2 := row_grow HW.out.2.1 HRw.out.1 hC2
      have hbx2 := (hC2.block _ (Array.getElem?_eq_some_iff.1 HW.out.2.2).1 HRw.out.2).trans HW.out.2.2
      have hm2 : m2 ≤ 13 := by
        have h5 := hO2.1
        have h6 := insT_length p1 (namesP (l.take k))
        have h7 := HM.out.1
        have h8 := HM.out.2
        omega
      have b1 : w2.cell? ⟨wr.heap.size, 1, none⟩ = some (.string (tx p2)) := cellsN hbx2 1 _ rfl
      cases p2 with
      | nil =>
        have HE : Hid (OwnS w2 w.heap.size (.slice bo2 m2 d2) m2 (namesP (l.take (k + 1))) ∧ Grow w w2) := Lib.hid ⟨by rw [names_take HW.out.1]; unfold addP; rw [if_pos rfl]; exact hO2, hB2⟩
        clear hO2 hB2 P1 hC2 hF2 hbx2
        have hem : (!(tx []).toList.isEmpty) = false := by rw [tx_list]; decide
        by_cases hle : m2 ≤ 12
        · have hgt : ¬ (12 : Int) < (m2 : Int) := by omega
          go_wp2_with fail
          exact ⟨⟨k + 1, bo2, m2, d2, by omega, by go_num, rfl, hle, Lib.hid HE.out⟩, by simp [RowKit.intOf]; omega⟩
        · have hgt : (12 : Int) < (m2 : Int) := by omega
          go_wp2_with fail
          go_ret
          refine ⟨bo2, m2, d2, _, rfl, HE.out.1, HE.out.2, by omega, .inr ⟨?_, by omega⟩⟩
          have h5 := names_le l (k + 1)
          have h6 := HE.out.1.1
          omega
      | cons ch p2 =>
        have P2 := code_with w.heap.size _ m2 _ (ch :: p2) w2 hO2 (insT_rise (namesP_rise _)) hB2.size (by omega)
        have HO := Lib.hid (And.intro hO2 hB2)
        clear hO2 hB2 P1 hC2 hF2 hbx2
        have hem : (!(tx (ch :: p2)).toList.isEmpty) = true := by rw [tx_list]; rfl
        go_wp2_with fail
        refine P2.mono ?_
        rintro e w3 ⟨bo3, m3, d3, rfl, hO3, hC3, hF3⟩
        have hB3 : Grow w w3 := row_grow HO.out.2 HO.out.1 hC3
        have hm3 : m3 ≤ 14 := by
          have h5 := hO3.1
          have h6 := insT_length (ch :: p2) (insT p1 (namesP (l.take k)))
          have h7 := HO.out.1.1
          omega
        have HE : Hid (OwnS w3 w.heap.size (.slice bo3 m3 d3) m3 (namesP (l.take (k + 1))) ∧ Grow w w3) := Lib.hid ⟨by rw [names_take HW.out.1]; unfold addP; rw [if_neg (by simp)]; exact hO3, hB3⟩
        clear hO3 hB3 P2 hC3 hF3
        by_cases hle : m3 ≤ 12
        · have hgt : ¬ (12 : Int) < (m3 : Int) := by omega
          go_wp2_with fail
          exact ⟨⟨k + 1, bo3, m3, d3, by omega, by go_num, rfl, hle, Lib.hid HE.out⟩, by simp [RowKit.intOf]; omega⟩
        · have hgt : (12 : Int) < (m3 : Int) := by omega
          go_wp2_with fail
          go_ret
          refine ⟨bo3, m3, d3, _, rfl, HE.out.1, HE.out.2, by omega, .inr ⟨?_, by omega⟩⟩
          have h5 := names_le l (k + 1)
          have h6 := HE.out.1.1
          omega
    · have h3 : ¬ (k : Int) < (n : Int) := by omega
      obtain rfl : k = n := by omega
      go_wp2_with fail
      go_ret
      have h5 : l.take k = l := List.take_of_length_le (by have := H.out.1; omega)
      have h6 := hs.out.1
      rw [h5] at h6
      exact ⟨bo, m, d, _, rfl, h6, hs.out.2, by omega, .inl ⟨by have := h6.1; omega, rfl⟩⟩

end Go.Proofs.YtlgfijjkbomejaaDoor

namespace Go.Proofs.YtlgfijjkbomejaaDoor
open Go.RowKit Go.Lib
section
variable {P : Program} {md : Region.Mode} {ops : Array Oper}

/-- Every order; each step but the one of place k into a later world. -/
def wpMvs (P : Program) (md : Region.Mode) (ops : Array Oper) (k : Nat) (Q : Act → World → Prop) : Nat → Array Bool → Act → World → Prop
  | 0, listed, a, w => Region.ready md ops listed = [] ∧ Q a w
  | fuel + 1, listed, a, w =>
    (Region.ready md ops listed = [] → Q a w) ∧
    ∀ i ∈ Region.ready md ops listed, mvOp P ops i (fun a' w' => (i = k ∨ Grow w w') ∧ wpMvs P md ops k Q fuel (listed.setIfInBounds i true) a' w') a w

theorem wpAny_of_mvs {k : Nat} {Q : Act → World → Prop} {Q' : Exit → Act → World → Prop} (hQ : ∀ a w, Q a w → Q' .normal a w) : ∀ (fuel : Nat) (listed : Array Bool) (a : Act) (w : World),
    wpMvs P md ops k Q fuel listed a w → wpAny P md ops Q' fuel listed a w
  | 0, _, _, _, h => ⟨h.1, hQ _ _ h.2⟩
  | fuel + 1, _, _, _, h => ⟨fun h0 => hQ _ _ (h.1 h0), fun i hi => wpOp_mono (fun a' w' h' => wpAny_of_mvs hQ fuel _ a' w' h'.2) (wpOp_of_mvOp (h.2 i hi))⟩

/-- The operation k waits for i. -/
def waitB (md : Region.Mode) (ops : Array Oper) (k i : Nat) : Bool :=
  match ops[k]? with
  | none => false
  | some o => o.after.any fun e => Region.binds md e && e.on == i

theorem wait_not {k i : Nat} {listed : Array Bool} (h : waitB md ops k i = true) (hun : listed.getD i true = false) : k ∉ Region.ready md ops listed := by
  intro hm
  obtain ⟨_, o, ho, hall⟩ := mem_ready.1 hm
  unfold waitB at h
  rw [ho] at h
  obtain ⟨e, he, hb⟩ := Array.any_eq_true'.1 h
  simp only [Bool.and_eq_true, beq_iff_eq] at hb
  have h2 := hall e he hb.1
  rw [hb.2] at h2
  rcases Nat.lt_or_ge i listed.size with h' | h'
  · simp [h'] at hun h2; rw [hun] at h2; cases h2
  · simp [Array.getElem?_eq_none h'] at hun

theorem wpMvs_first {k : Nat} {Q : Act → World → Prop} {i : Nat} {oi : Oper} {v : Value} (hi : ops[i]? = some oi) (hL : waitB md ops k i = true) (hsel : ∀ (j : Nat) (o : Oper) cs b, ops[j]? = some o → o.op ≠ .select cs b) :
    ∀ (fuel : Nat) (listed : Array Bool) (a : Act) (w : World),
      (∀ j oj, ops[j]? = some oj → j ≠ i → listed.getD j true = false → (∀ e ∈ oj.after, Region.binds md e = true → e.on ≠ i) → oi.apart ops oj = true) →
      i ∈ Region.ready md ops listed → Ups P ops w oi v a →
      wpMvs P md ops k Q fuel (listed.setIfInBounds i true) (a.put oi.dst v) w → wpMvs P md ops k Q (fuel + 1) listed a w := by
  intro fuel
  induction fuel with
  | zero =>
    intro listed a w _ hr hy H
    refine ⟨fun h => (by rw [h] at hr; cases hr), fun j hj => ?_⟩
    by_cases hji : j = i
    · subst hji; exact YieldsAt.mvOp hi (hy w (Grow.refl w)) ⟨.inr (Grow.refl w), H⟩
    · have := ready_mono hj hji
      rw [H.1] at this
      cases this
  | succ fuel ih =>
    intro listed a w hfree hr hy H
    refine ⟨fun h => (by rw [h] at hr; cases hr), fun j hj => ?_⟩
    by_cases hji : j = i
    · subst hji; exact YieldsAt.mvOp hi (hy w (Grow.refl w)) ⟨.inr (Grow.refl w), H⟩
    · have hjk : j ≠ k := by
        rintro rfl
        exact wait_not hL (mem_ready.1 hr).1 hj
      have h1 := mvOp_mono (K' := fun a' w' => Grow w w' ∧ wpMvs P md ops k Q fuel ((listed.setIfInBounds i true).setIfInBounds j true) a' w') (fun a' w' h => ⟨h.1.resolve_left hjk, h.2⟩) (H.2 j (ready_mono hj hji))
      obtain ⟨hjun, oj, hoj, hall⟩ := mem_ready.1 hj
      have hnot : ∀ e ∈ oj.after, Region.binds md e = true → e.on ≠ i := fun e he hb heq => by
        have h1 := hall e he hb
        have h0 := (mem_ready.1 hr).1
        rw [heq] at h1
        rcases Nat.lt_or_ge i listed.size with h' | h'
        · simp [h'] at h0 h1; rw [h0] at h1; cases h1
        · simp [Array.getElem?_eq_none h'] at h1
      have h2 := mvOp_put hoj (hfree j oj hoj hji hjun hnot) (fun cs b => hsel i oi cs b hi) (fun cs b => hsel j oj cs b hoj) hy h1
      have hfree' : ∀ q ok, ops[q]? = some ok → q ≠ i → (listed.setIfInBounds j true).getD q true = false →
          (∀ e ∈ ok.after, Region.binds md e = true → e.on ≠ i) → oi.apart ops ok = true := fun q ok hk hki hun hno => by
        refine hfree q ok hk hki ?_ hno
        by_cases hjk : j = q
        · subst hjk; exact hjun
        · rw [getD_set_ne true hjk] at hun; exact hun
      refine mvOp_mono (fun a' w' h3 => ⟨.inr h3.1, ih (listed.setIfInBounds j true) a' w' hfree' (ready_mono hr (Ne.symm hji)) h3.2.1 ?_⟩) h2
      rw [Array.setIfInBounds_comm _ _ hji]
      exact h3.2.2

/-- One walk. -/
def wpLins (P : Program) (ops : Array Oper) (k : Nat) (Q : Act → World → Prop) : List (Nat × Bool × Oper) → Act → World → Prop
  | [], a, w => Q a w
  | (_, true, o) :: r, a, w => ∃ v, Ups P ops w o v a ∧ wpLins P ops k Q r (a.put o.dst v) w
  | (j, false, o) :: r, a, w => mvRun P ops o (fun a' w' => (j = k ∨ Grow w w') ∧ wpLins P ops k Q r a' w') a w

theorem wpMvs_of_lin {k : Nat} {Q : Act → World → Prop} (hs : Region.noSelect ops = true) : ∀ (l : List (Nat × Bool × Oper)) (listed : Array Bool) (a : Act) (w : World), (∀ x ∈ l, ops[x.1]? = some x.2.2) → (∀ x ∈ l, x.2.1 = true → waitB md ops k x.1 = true) →
    mvB md ops l listed = true → wpLins P ops k Q l a w → wpMvs P md ops k Q l.length listed a w
  | [], _, _, _, _, _, hB, h => ⟨by simpa [mvB] using hB, h⟩
  | (j, true, o) :: r, listed, a, w, hat, hnk, hB, h => by
    simp only [mvB, Bool.and_eq_true] at hB
    obtain ⟨v, hy, hK⟩ := h
    have h0 : ops[j]? = some o := hat (j, true, o) (List.mem_cons_self ..)
    exact wpMvs_first h0 (hnk (j, true, o) (List.mem_cons_self ..) rfl) (Region.noSelect_spec hs) r.length listed a w (Region.free_spec h0 hB.1.2) (by simpa using hB.1.1) hy
      (wpMvs_of_lin hs r _ _ w (fun x hx => hat x (by simp [hx])) (fun x hx => hnk x (by simp [hx])) hB.2 hK)
  | (j, false, o) :: r, listed, a, w, hat, hnk, hB, h => by
    simp only [mvB, Bool.and_eq_true, decide_eq_true_eq] at hB
    refine ⟨fun h1 => (by rw [hB.1] at h1; cases h1), fun i hi => ?_⟩
    rw [hB.1] at hi
    obtain rfl : i = j := by simpa using hi
    have h0 : ops[i]? = some o := hat (i, false, o) (List.mem_cons_self ..)
    have hm : mvOp P ops i (fun a' w' => (i = k ∨ Grow w w') ∧ wpLins P ops k Q r a' w') a w := by unfold mvOp; simp only [h0]; exact h
    exact mvOp_mono (fun a' w' h' => ⟨h'.1, wpMvs_of_lin hs r _ a' w' (fun x hx => hat x (by simp [hx])) (fun x hx => hnk x (by simp [hx])) hB.2 h'.2⟩) hm

def mvsOk (ops : Array Oper) (k : Nat) (items : List (Nat × Bool × Oper)) : Bool := mvOk ops items && items.all fun x => !x.2.1 || waitB .any ops k x.1

theorem wp_region_mvs {id : Nat} {Q : Exit → Act → World → Prop} {a : Act} {w : World} {l : List Oper} (k : Nat) (segs : List (Nat × Nat × Bool)) (hm : P.follows .mixedOrders = true) (hB : mvsOk l.toArray k (mvAll segs l) = true)
    (h : wpLins P l.toArray k (fun a' w' => Q .normal a' w') (mvAll segs l) a w.drew) : (Code.region id l.toArray true).wp P Q a w := by
  simp only [mvsOk, mvOk, Bool.and_eq_true, beq_iff_eq] at hB
  refine wp_region_any hm (wpAny_of_mvs (k := k) (Q := fun a' w' => Q .normal a' w') (fun _ _ h => h) _ _ _ _ ?_)
  have := wpMvs_of_lin (md := .any) (k := k) hB.1.1.1 (mvAll segs l) (Array.replicate l.toArray.size false) a w.drew (mvAll_at l segs) (fun x hx hb => by
    have := List.all_eq_true.1 hB.2 x hx
    simp only [Bool.or_eq_true, Bool.not_eq_true'] at this
    rcases this with h | h
    · rw [hb] at h; cases h
    · exact h) hB.1.2 h
  rw [hB.1.1.2] at this
  exact this

theorem wpLins_nil {k : Nat} {Q : Act → World → Prop} {a : Act} {w : World} (h : Q a w) : wpLins P ops k Q [] a w := h

theorem wpLins_still {k : Nat} {Q : Act → World → Prop} {j : Nat} {o : Oper} {r : List (Nat × Bool × Oper)} {a : Act} {w : World} (v : Value) (hv : ∀ w', Grow w w' → ∀ K : Value → Prop, K v → mvVal P ops o a w' K)
    (h : ∀ K : Act → Prop, (∀ a, wpLins P ops k Q r a w → K a) → K (a.put o.dst v)) : wpLins P ops k Q ((j, true, o) :: r) a w := by
  refine ⟨v, fun w' hg => ?_, h _ fun _ h => h⟩
  have := hv w' hg (fun u => u = v) rfl
  unfold mvVal at this
  unfold YieldsAt
  by_cases hw : Region.wanted o (yielded ops a.tmps) = true
  · left
    rw [if_pos hw] at this
    refine ⟨hw, ?_⟩
    split at this
    · next heq => obtain ⟨rfl, rfl⟩ := this; exact .inl heq
    · next heq => obtain ⟨rfl, rfl⟩ := this; exact .inr (.inl ⟨heq, rfl⟩)
    · next heq => obtain ⟨rfl, u, hc, rfl⟩ := this; exact .inr (.inr ⟨_, _, heq, hc⟩)
    · exact this.elim
  · right
    rw [if_neg hw] at this
    exact ⟨by simpa using hw, this.symm⟩

theorem wpLins_call {k : Nat} {Q : Act → World → Prop} {j : Nat} {o : Oper} {r : List (Nat × Bool × Oper)} {a : Act} {w : World}
    (h : ∀ K : Act → World → Prop, (∀ a w', Grow w w' → wpLins P ops k Q r a w' → K a w') → mvRun P ops o K a w) : wpLins P ops k Q ((j, false, o) :: r) a w :=
  mvRun_mono (fun _ _ h => ⟨.inr h.1, h.2⟩) (h (fun a' w' => Grow w w' ∧ wpLins P ops k Q r a' w') fun _ _ hg hk => ⟨hg, hk⟩)
theorem wpLins_last {k : Nat} {Q : Act → World → Prop} {o : Oper} {r : List (Nat × Bool × Oper)} {a : Act} {w : World}
    (h : ∀ K : Act → World → Prop, (∀ a w', wpLins P ops k Q r a w' → K a w') → mvRun P ops o K a w) : wpLins P ops k Q ((k, false, o) :: r) a w :=
  mvRun_mono (fun _ _ h => ⟨.inl rfl, h⟩) (h (fun a' w' => wpLins P ops k Q r a' w') fun _ _ hk => hk)
end

end Go.Proofs.YtlgfijjkbomejaaDoor
