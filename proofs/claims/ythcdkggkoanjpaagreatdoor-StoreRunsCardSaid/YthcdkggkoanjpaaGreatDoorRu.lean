/- The reference's Cut. Numbers and types by name. -/
import Derived.Test.YthcdkggkoanjpaaGreatDoorMov
import Derived.Test.YthcdkggkoanjpaaGreatDoorScr
import Derived.Test.YthcdkggkoanjpaaGreatDoorRo
namespace Go.Proofs.YthcdkggkoanjpaaGreatDoor
open Go.RowKit Go.Lib
section
variable {P : Program} {md : Region.Mode} {ops : Array Oper}
def wpMvs (P : Program) (md : Region.Mode) (ops : Array Oper) (k : Nat) (Q : Act → World → Prop) : Nat → Array Bool → Act → World → Prop
  | 0, listed, a, w => Region.ready md ops listed = [] ∧ Q a w
  | fuel + 1, listed, a, w =>
    (Region.ready md ops listed = [] → Q a w) ∧
    ∀ i ∈ Region.ready md ops listed, mvOp P ops i (fun a' w' => (i = k ∨ Grow w w') ∧ wpMvs P md ops k Q fuel (listed.setIfInBounds i true) a' w') a w
theorem wpAny_of_mvs {k : Nat} {Q : Act → World → Prop} {Q' : Exit → Act → World → Prop} (hQ : ∀ a w, Q a w → Q' .normal a w) : ∀ (fuel : Nat) (listed : Array Bool) (a : Act) (w : World),
    wpMvs P md ops k Q fuel listed a w → wpAny P md ops Q' fuel listed a w
  | 0, _, _, _, h => ⟨h.1, hQ _ _ h.2⟩
  | fuel + 1, _, _, _, h => ⟨fun h0 => hQ _ _ (h.1 h0), fun i hi => wpOp_mono (fun a' w' h' => wpAny_of_mvs hQ fuel _ a' w' h'.2) (wpOp_of_mvOp (h.2 i hi))⟩
def waitB (md : Region.Mode) (ops : Array Oper) (k i : Nat) : Bool :=
  match ops[k]? with
  | none => false
  | some o => o.after.any fun e => Region.binds md e && e.on == i
theorem wait_not {k i : Nat} {listed : Array Bool} (h : waitB md ops k i = true) (hun : listed.getD i true = false) : k ∉ Region.ready md ops listed := by
  intro hm
  obtain ⟨_, o, ho, hall⟩ := mem_ready.1 hm
  unfold waitB at h
  rw [ho] at h
  obtain ⟨e, he, hb⟩ := Array.any_eq_true'.1 h
  simp only [Bool.and_eq_true, beq_iff_eq] at hb
  have h2 := hall e he hb.1
  rw [hb.2] at h2
  rcases Nat.lt_or_ge i listed.size with h' | h'
  · simp [h'] at hun h2; rw [hun] at h2; cases h2
  · simp [Array.getElem?_eq_none h'] at hun
theorem wpMvs_first {k : Nat} {Q : Act → World → Prop} {i : Nat} {oi : Oper} {v : Value} (hi : ops[i]? = some oi) (hL : waitB md ops k i = true) (hsel : ∀ (j : Nat) (o : Oper) cs b, ops[j]? = some o → o.op ≠ .select cs b) :
    ∀ (fuel : Nat) (listed : Array Bool) (a : Act) (w : World),
      (∀ j oj, ops[j]? = some oj → j ≠ i → listed.getD j true = false → (∀ e ∈ oj.after, Region.binds md e = true → e.on ≠ i) → oi.apart ops oj = true) →
      i ∈ Region.ready md ops listed → Ups P ops w oi v a →
      wpMvs P md ops k Q fuel (listed.setIfInBounds i true) (a.put oi.dst v) w → wpMvs P md ops k Q (fuel + 1) listed a w := by
  intro fuel
  induction fuel with
  | zero =>
    intro listed a w _ hr hy H
    refine ⟨fun h => (by rw [h] at hr; cases hr), fun j hj => ?_⟩
    by_cases hji : j = i
    · subst hji; exact YieldsAt.mvOp hi (hy w (Grow.refl w)) ⟨.inr (Grow.refl w), H⟩
    · have := ready_mono hj hji
      rw [H.1] at this
      cases this
  | succ fuel ih =>
    intro listed a w hfree hr hy H
    refine ⟨fun h => (by rw [h] at hr; cases hr), fun j hj => ?_⟩
    by_cases hji : j = i
    · subst hji; exact YieldsAt.mvOp hi (hy w (Grow.refl w)) ⟨.inr (Grow.refl w), H⟩
    · have hjk : j ≠ k := by
        rintro rfl
        exact wait_not hL (mem_ready.1 hr).1 hj
      have h1 := mvOp_mono (K' := fun a' w' => Grow w w' ∧ wpMvs P md ops k Q fuel ((listed.setIfInBounds i true).setIfInBounds j true) a' w') (fun a' w' h => ⟨h.1.resolve_left hjk, h.2⟩) (H.2 j (ready_mono hj hji))
      obtain ⟨hjun, oj, hoj, hall⟩ := mem_ready.1 hj
      have hnot : ∀ e ∈ oj.after, Region.binds md e = true → e.on ≠ i := fun e he hb heq => by
        have h1 := hall e he hb
        have h0 := (mem_ready.1 hr).1
        rw [heq] at h1
        rcases Nat.lt_or_ge i listed.size with h' | h'
        · simp [h'] at h0 h1; rw [h0] at h1; cases h1
        · simp [Array.getElem?_eq_none h'] at h1
      have h2 := mvOp_put hoj (hfree j oj hoj hji hjun hnot) (fun cs b => hsel i oi cs b hi) (fun cs b => hsel j oj cs b hoj) hy h1
      have hfree' : ∀ q ok, ops[q]? = some ok → q ≠ i → (listed.setIfInBounds j true).getD q true = false →
          (∀ e ∈ ok.after, Region.binds md e = true → e.on ≠ i) → oi.apart ops ok = true := fun q ok hk hki hun hno => by
        refine hfree q ok hk hki ?_ hno
        by_cases hjk : j = q
        · subst hjk; exact hjun
        · rw [getD_set_ne true hjk] at hun; exact hun
      refine mvOp_mono (fun a' w' h3 => ⟨.inr h3.1, ih (listed.setIfInBounds j true) a' w' hfree' (ready_mono hr (Ne.symm hji)) h3.2.1 ?_⟩) h2
      rw [Array.setIfInBounds_comm _ _ hji]
      exact h3.2.2
def wpLins (P : Program) (ops : Array Oper) (k : Nat) (Q : Act → World → Prop) : List (Nat × Bool × Oper) → Act → World → Prop
  | [], a, w => Q a w
  | (_, true, o) :: r, a, w => ∃ v, Ups P ops w o v a ∧ wpLins P ops k Q r (a.put o.dst v) w
  | (j, false, o) :: r, a, w => mvRun P ops o (fun a' w' => (j = k ∨ Grow w w') ∧ wpLins P ops k Q r a' w') a w
theorem wpMvs_of_lin {k : Nat} {Q : Act → World → Prop} (hs : Region.noSelect ops = true) : ∀ (l : List (Nat × Bool × Oper)) (listed : Array Bool) (a : Act) (w : World), (∀ x ∈ l, ops[x.1]? = some x.2.2) → (∀ x ∈ l, x.2.1 = true → waitB md ops k x.1 = true) →
    mvB md ops l listed = true → wpLins P ops k Q l a w → wpMvs P md ops k Q l.length listed a w
  | [], _, _, _, _, _, hB, h => ⟨by simpa [mvB] using hB, h⟩
  | (j, true, o) :: r, listed, a, w, hat, hnk, hB, h => by
    simp only [mvB, Bool.and_eq_true] at hB
    obtain ⟨v, hy, hK⟩ := h
    have h0 : ops[j]? = some o := hat (j, true, o) (List.mem_cons_self ..)
    exact wpMvs_first h0 (hnk (j, true, o) (List.mem_cons_self ..) rfl) (Region.noSelect_spec hs) r.length listed a w (Region.free_spec h0 hB.1.2) (by simpa using hB.1.1) hy
      (wpMvs_of_lin hs r _ _ w (fun x hx => hat x (by simp [hx])) (fun x hx => hnk x (by simp [hx])) hB.2 hK)
  | (j, false, o) :: r, listed, a, w, hat, hnk, hB, h => by
    simp only [mvB, Bool.and_eq_true, decide_eq_true_eq] at hB
    refine ⟨fun h1 => (by rw [hB.1] at h1; cases h1), fun i hi => ?_⟩
    rw [hB.1] at hi
    obtain rfl : i = j := by simpa using hi
    have h0 : ops[i]? = some o := hat (i, false, o) (List.mem_cons_self ..)
    have hm : mvOp P ops i (fun a' w' => (i = k ∨ Grow w w') ∧ wpLins P ops k Q r a' w') a w := by unfold mvOp; simp only [h0]; exact h
    exact mvOp_mono (fun a' w' h' => ⟨h'.1, wpMvs_of_lin hs r _ a' w' (fun x hx => hat x (by simp [hx])) (fun x hx => hnk x (by simp [hx])) hB.2 h'.2⟩) hm
def mvsOk (ops : Array Oper) (k : Nat) (items : List (Nat × Bool × Oper)) : Bool := mvOk ops items && items.all fun x => !x.2.1 || waitB .any ops k x.1
theorem wp_region_mvs {id : Nat} {Q : Exit → Act → World → Prop} {a : Act} {w : World} {l : List Oper} (k : Nat) (segs : List (Nat × Nat × Bool)) (hm : P.follows .mixedOrders = true) (hB : mvsOk l.toArray k (mvAll segs l) = true)
    (h : wpLins P l.toArray k (fun a' w' => Q .normal a' w') (mvAll segs l) a w.drew) : (Code.region id l.toArray true).wp P Q a w := by
  simp only [mvsOk, mvOk, Bool.and_eq_true, beq_iff_eq] at hB
  refine wp_region_any hm (wpAny_of_mvs (k := k) (Q := fun a' w' => Q .normal a' w') (fun _ _ h => h) _ _ _ _ ?_)
  have := wpMvs_of_lin (md := .any) (k := k) hB.1.1.1 (mvAll segs l) (Array.replicate l.toArray.size false) a w.drew (mvAll_at l segs) (fun x hx hb => by
    have := List.all_eq_true.1 hB.2 x hx
    simp only [Bool.or_eq_true, Bool.not_eq_true'] at this
    rcases this with h | h
    · rw [hb] at h; cases h
    · exact h) hB.1.2 h
  rw [hB.1.1.2] at this
  exact this
theorem wpLins_nil {k : Nat} {Q : Act → World → Prop} {a : Act} {w : World} (h : Q a w) : wpLins P ops k Q [] a w := h
theorem wpLins_still {k : Nat} {Q : Act → World → Prop} {j : Nat} {o : Oper} {r : List (Nat × Bool × Oper)} {a : Act} {w : World} (v : Value) (hv : ∀ w', Grow w w' → ∀ K : Value → Prop, K v → mvVal P ops o a w' K)
    (h : ∀ K : Act → Prop, (∀ a, wpLins P ops k Q r a w → K a) → K (a.put o.dst v)) : wpLins P ops k Q ((j, true, o) :: r) a w := by
  refine ⟨v, fun w' hg => ?_, h _ fun _ h => h⟩
  have := hv w' hg (fun u => u = v) rfl
  unfold mvVal at this
  unfold YieldsAt
  by_cases hw : Region.wanted o (yielded ops a.tmps) = true
  · left
    rw [if_pos hw] at this
    refine ⟨hw, ?_⟩
    split at this
    · next heq => obtain ⟨rfl, rfl⟩ := this; exact .inl heq
    · next heq => obtain ⟨rfl, rfl⟩ := this; exact .inr (.inl ⟨heq, rfl⟩)
    · next heq => obtain ⟨rfl, u, hc, rfl⟩ := this; exact .inr (.inr ⟨_, _, heq, hc⟩)
    · exact this.elim
  · right
    rw [if_neg hw] at this
    exact ⟨by simpa using hw, this.symm⟩
theorem wpLins_call {k : Nat} {Q : Act → World → Prop} {j : Nat} {o : Oper} {r : List (Nat × Bool × Oper)} {a : Act} {w : World}
    (h : ∀ K : Act → World → Prop, (∀ a w', Grow w w' → wpLins P ops k Q r a w' → K a w') → mvRun P ops o K a w) : wpLins P ops k Q ((j, false, o) :: r) a w :=
  mvRun_mono (fun _ _ h => ⟨.inr h.1, h.2⟩) (h (fun a' w' => Grow w w' ∧ wpLins P ops k Q r a' w') fun _ _ hg hk => ⟨hg, hk⟩)
theorem wpLins_last {k : Nat} {Q : Act → World → Prop} {o : Oper} {r : List (Nat × Bool × Oper)} {a : Act} {w : World}
    (h : ∀ K : Act → World → Prop, (∀ a w', wpLins P ops k Q r a w' → K a w') → mvRun P ops o K a w) : wpLins P ops k Q ((k, false, o) :: r) a w :=
  mvRun_mono (fun _ _ h => ⟨.inl rfl, h⟩) (h (fun a' w' => wpLins P ops k Q r a' w') fun _ _ hk => hk)
end
end Go.Proofs.YthcdkggkoanjpaaGreatDoor
namespace Go.Proofs.YthcdkggkoanjpaaGreatDoor
open Go.RowKit Go.Maps Go.Sort Go.WideMaps
theorem run_append_clone (ty : TypeId) (base : Nat) (z : Addr) (vb : Value) (m : Nat) (k : List UInt8) (w : World) (hown : Bs w base (.slice (some z) 0 0) 0 []) (hm : m = k.length) (hr : Reads w vb (bv k)) (h63 : m ≤ 1000000000) (hbase : base ≤ w.heap.size) :
    ∃ ao c w', (Builtin.append_ #[24, 24] ty #[.slice (some z) 0 0, vb]).run Tryz.prog w = .ok (.slice ao m c) w' ∧ Bs w' base (.slice ao m c) m k ∧ Grow w w' := by
  obtain ⟨i0, hi, hz0, hz1, hz2⟩ := info_parts info_byte
  obtain ⟨ab, cb, rfl, h0, h1, h2⟩ := hr
  rw [bv_length] at *
  subst hm
  rcases Nat.eq_zero_or_pos k.length with e | hpos
  · have hk : k = [] := List.eq_nil_of_length_eq_zero e
    subst hk
    refine ⟨some z, 0, w, ?_, hown, Grow.refl w⟩
    have hfc : (Builtin.firstCells 1 0 (.slice ab 0 cb)).run Tryz.prog w = .ok #[] w := by
      cases ab with
      | none => exact run_firstCells_none w 1 0 0 cb
      | some a => exact run_firstCells_some w 1 0 a 0 cb [] rfl (fun j v hj => by cases hj)
    cases ab <;> simp [hfc, Builtin.append_, run_underlying Tryz.underlying24, sizeOf, typeInfo, hi, hz1, storeCells, Builtin.lenOf, loadCells]
  · cases ab with
    | none =>
      have := (h1 rfl).1
      have h3 : (bv k).length = 0 := by rw [this]; rfl
      rw [bv_length] at h3; omega
    | some a =>
      obtain ⟨v', w', hrun, hown', hg⟩ := run_append_arg_grows (P := Tryz.prog) w 24 ty 5 i0 (.int .u8 0) 1 1 Tryz.underlying24 hi hz0 hz1 hz2 rfl (by decide) z 0 0 [] rfl (fun j u hj => by cases hj) a k.length cb (bv k) (by rw [bv_length]; omega) (h2 a rfl) (by omega) (by unfold maxLen; omega) (by omega)
      obtain ⟨ao, c, rfl⟩ := owns_shape hown'
      simp only [Nat.zero_add, List.nil_append] at hrun hown'
      exact ⟨ao, c, w', hrun, ⟨rfl, owns_base hown' hbase⟩, below_none hg (Nat.le_refl _)⟩
theorem mvRun_clone {ops : Array Oper} {o : Oper} {a : Act} {w : World} {K : Act → World → Prop} (hgd : o.guard = none) (s x : Operand)
    (ho : o.op = .call { callee := .builtin .append, args := #[s, x], argTypes := #[24, 24] })
    (base : Nat) (z : Addr) (hs : a.eval s = .slice (some z) 0 0) (hown : Bs w base (.slice (some z) 0 0) 0 []) (vb : Value) (m : Nat) (k : List UInt8) (hm : m = k.length) (hx : a.eval x = vb) (hr : Reads w vb (bv k)) (h63 : Hid (m ≤ 1000000000)) (hbase : base ≤ w.heap.size)
    (h : ∀ ao c w', Bs w' base (.slice ao m c) m k → Grow w w' → K (a.put o.dst (.slice ao m c)) w') : mvRun Tryz.prog ops o K a w := by
  obtain ⟨ao, c, w', hr', h2, h3⟩ := run_append_clone o.type base z vb m k w hown hm hr h63.out hbase
  have hw : Region.wanted o (yielded ops a.tmps) = true := by simp [Region.wanted, hgd]
  unfold mvRun
  rw [if_pos hw]
  unfold execOp
  simp only [ho, resolve, invoke, builtin, Sem.run_bind, Sem.run_pure, Result.andThen_ok, List.map_toArray, List.map_cons, List.map_nil, hs, hx, hr', mvUpon]
  exact h ao c w' h2 h3
set_option maxRecDepth 100000 in
set_option maxHeartbeats 4000000 in
theorem ref_cut (r : Nat) (M : MD) (F G : List Nat) (name : ByteArray) (n : Int) (w : World) (h : RD w r M F G) (hl : Lim M) :
    Calls Tryz.prog 77 #[theRef r, .string name, .int .i64 n] w (Left (RActed w r M F G (opCut name.data.toList n))) := by
  have hll := hl.fs.len
  have hlt := hl.fs.tot
  have hri := h.1.rising
  obtain ⟨ok, er, M1, HM, HGt⟩ := gated r M F G w h hl
  clear h
  unfold theRef
  cases ok with
  | false =>
    go_enter Tryz.func77, Tryz.ntmps77
    go_wp2_with fail
    refine HGt.out.mono ?_
    rintro e w1 ⟨rfl, hD1, t1⟩
    have HD := Lib.hid (acted_no (op := opCut name.data.toList n) HM.out hD1 t1)
    clear hD1 t1 HGt
    go_wp2_with fail
    go_ret
    exact ⟨er, rfl, HD.out⟩
  | true =>
    cases hf : M.fs.find? (isName name.data.toList) with
    | none =>
      have HPL : Hid (placeE name.data.toList M1.fs = -1) := Lib.hid (by rw [HM.out.fs]; exact place_none hf)
      have HF := Lib.hid hf
      clear hf
      go_enter Tryz.func77, Tryz.ntmps77
      go_wp2_with fail
      refine HGt.out.mono ?_
      rintro e w1 ⟨rfl, hD1, t1⟩
      have HD := Lib.hid (acted_same (op := opCut name.data.toList n) (k := 3) HM.out (by unfold opCut; rw [HF.out]) hD1 t1)
      have hT := ref_told r M1 F G 3 w1 hD1
      have hA := ref_at r M1 F G name w1 hD1 (by rw [HM.out.fs]; exact hll)
      rw [HPL.out] at hA
      unfold theRef at hT hA
      clear hD1 t1 HGt
      go_wp2_with fail
      refine hA.mono ?_
      rintro e w2 ⟨rfl, rfl⟩
      clear hA
      go_wp2_with fail
      refine hT.mono ?_
      rintro e w2 ⟨rfl, rfl⟩
      clear hT
      go_wp2_with fail
      go_ret
      exact ⟨_, rfl, HD.out⟩
    | some x =>
      obtain ⟨i, hi, hx, hset, her⟩ := place_some hri hf
      have HPL : Hid (placeE name.data.toList M1.fs = i) := Lib.hid (by rw [HM.out.fs]; exact hi)
      have hi0 : ¬ ((i : Nat) : Int) < 0 := by omega
      have hil := (List.getElem?_eq_some_iff.1 hx).1
      have hxt := tot_mem (List.mem_of_getElem? hx)
      have HF := Lib.hid (And.intro hf (And.intro (hset (fun x => (x.1, x.2.1.take n.toNat, min x.2.2 n.toNat))) hx))
      have i1 : ((i : Nat) : Int) < (M1.fs.length : Int) := by rw [HM.out.fs]; omega
      clear hf hi hx hset her hil
      go_enter Tryz.func77, Tryz.ntmps77
      go_wp2_with fail
      refine HGt.out.mono ?_
      rintro e w1 ⟨rfl, hD1, t1⟩
      have HD1 := Lib.hid (And.intro hD1 t1)
      have hA := ref_at r M1 F G name w1 hD1 (by rw [HM.out.fs]; exact hll)
      rw [HPL.out] at hA
      unfold theRef at hA
      have hT := ref_told r M1 F G 1 w1 hD1
      unfold theRef at hT
      obtain ⟨hfit, s, ao, c, xs, hR, hP, hv, hown, hTe, hFF, hnn, hGd⟩ := hD1
      have hxi : M1.fs[i]? = some x := by rw [HM.out.fs]; exact HF.out.2.2
      obtain ⟨ab, cb, q1, q2, q3, hrb, hgb⟩ := hTe.2 i x hxi
      obtain ⟨g, rfl, k2, f2⟩ := row_cell hown (by rw [hTe.1]) q2
      obtain ⟨_, e, k3, f3⟩ := row_cell hown (by rw [hTe.1]) q3
      cases e
      have c5 := hR.c5
      rw [hv] at c5
      have hgw := (hown.lt g rfl).2
      have hgr : g ≠ r := by rintro rfl; exact hnn rfl
      have hgG : g ∉ G := fun hm => (hGd g hm).1 (by rw [hFF]; simp [own_block])
      have HX := Lib.hid (And.intro hfit (And.intro hR (And.intro hP (And.intro hv (And.intro hown (And.intro hTe (And.intro hFF (And.intro hnn (And.intro hGd (And.intro hxi (And.intro hgw (And.intro hgr (And.intro hgG (And.intro q2 (And.intro q3 (And.intro hrb hgb))))))))))))))))
      clear hfit hR hP hv hown hTe hFF hnn hGd t1 HGt q1 q2 q3 hrb hgb hxi hgw hgr hgG
      go_wp2_with fail
      refine hA.mono ?_
      rintro e w2 ⟨rfl, rfl⟩
      clear hA
      by_cases hneg : n < 0
      · have hd1 : decide (n < 0) = true := by simpa using hneg
        have HD := Lib.hid (acted_same (op := opCut name.data.toList n) (k := 1) HM.out (by unfold opCut; rw [HF.out.1]; simp only; rw [if_pos (.inl hneg)]) HD1.out.1 HD1.out.2)
        clear hneg
        go_wp2_with fail
        refine hT.mono ?_
        rintro e w2 ⟨rfl, rfl⟩
        clear hT
        go_wp2_with fail
        go_ret
        exact ⟨_, rfl, HD.out⟩
      · have hd1 : decide (n < 0) = false := by simpa using hneg
        by_cases hbig : (x.2.1.length : Int) < n
        · have HD := Lib.hid (acted_same (op := opCut name.data.toList n) (k := 1) HM.out (by unfold opCut; rw [HF.out.1]; simp only; rw [if_pos (.inr hbig)]) HD1.out.1 HD1.out.2)
          clear hneg
          go_wp2_with fail
          refine hT.mono ?_
          rintro e w2 ⟨rfl, rfl⟩
          clear hT
          go_wp2_with fail
          go_ret
          exact ⟨_, rfl, HD.out⟩
        · clear hT
          go_wp2_with fail
          obtain ⟨q, rfl⟩ : ∃ q : Nat, n = q := ⟨n.toNat, (Int.toNat_of_nonneg (by omega)).symm⟩
          obtain ⟨hfit, hR, hP, hv, hown, hTe, hFF, hnn, hGd, hxi, hgw, hgr, hgG, q2, q3, hrb, hgb⟩ := HX.out
          have hql : q ≤ x.2.1.length := by omega
          have hcb : x.2.1.length ≤ cb := by
            obtain ⟨_, _, e, h0, _⟩ := hrb
            simp only [Value.slice.injEq, bv_length] at e h0
            omega
          have L5 : ∀ w', Grow w1.drew w' → w'.cell? ⟨r, 5, none⟩ = some (.slice (some ⟨g, 0, none⟩) M1.fs.length c) := fun w' hG => (World.cell?_of_block (hG.block _ (World.block_lt_of_cell? w1 _ c5))).trans c5
          have L2 : ∀ w', Grow w1.drew w' → w'.cell? ⟨g, i * 3 + 1, none⟩ = some (.slice ab x.2.1.length cb) := fun w' hG => (World.cell?_of_block (hG.block _ (World.block_lt_of_cell? w1 _ k2))).trans k2
          have z0 : (0 : Int) ≤ (q : Int) := by omega
          have z1 : (q : Int) ≤ (cb : Int) := by omega
          have z2 : q ≤ cb := by omega
          have z3 : ¬ ((i : Nat) : Int) < 0 := by omega
          have z4 : i < M1.fs.length := by omega
          have hs2 : Reads w1 (.slice ab q cb) (bv (x.2.1.take q)) := by have := Reads.taken hrb q hql; rwa [show (bv x.2.1).take q = bv (x.2.1.take q) by simp [bv, List.map_take]] at this
          have HS2 := Lib.hid hs2
          have hgw2 := hgw
          clear hd1 hneg hbig hfit hR hP hv hown hTe hFF hnn hGd hxi q2 q3 hrb hgb hs2
          refine wp_region_mvs 19 [(0, 5, true), (6, 10, true), (5, 1, false), (16, 1, false), (17, 1, false), (18, 1, false), (19, 1, false)] (by kernel_rfl) (by kernel_rfl) ?_
          simp only [mvAll, mvSeg, List.drop_succ_cons, List.drop_zero, List.cons_append, List.nil_append, Nat.reduceAdd]
          iterate 15
            refine wpLins_still ?_ (fun w' hG K hK => ?_) (fun K hK => ?_)
            rotate_left
            · unfold mvVal
              go_simp
              try exact hK
            go_simp
            refine hK _ ?_
            clear hK K
          refine wpLins_call (fun K hK => ?_)
          unfold mvRun
          go_simp
          simp only [mvUpon]
          refine hK _ _ ((Below.refl _ w1.drew).alloc (Nat.le_refl _) _) ?_
          clear hK K
          have F1 : Hid (q ≤ 1000000000) := Lib.hid (by omega)
          have HQL : Hid (q = (x.2.1.take q).length) := Lib.hid (by rw [List.length_take]; omega)
          refine wpLins_call (fun K hK => ?_)
          refine mvRun_clone rfl (.tmp 47) (.tmp 57) rfl w1.heap.size ⟨w1.heap.size, 0, none⟩ (by simp [Act.eval]; rfl) (Bs.empty w1.drew w1.heap.size (Nat.le_refl _)) _ q (x.2.1.take q) HQL.out (by simp [Act.eval]; rfl) (HS2.out.alloc _) F1 (by simp) ?_
          intro ao5 c5' w5 hown5 hg5
          refine hK _ _ hg5 ?_
          clear hK K
          have hb15 : Grow w1.drew w5 := Grow.trans ((Below.refl _ w1.drew).alloc (Nat.le_refl _) _) hg5
          have k25 : w5.cell? ⟨g, i * 3 + 1, none⟩ = some (.slice ab x.2.1.length cb) := L2 w5 hb15
          have f25 : w5.frozen? ⟨g, i * 3 + 1, none⟩ = false := by
            exact (World.frozen?_of_block (hb15.block g hgw2)).trans f2
          iterate 2
            refine wpLins_call (fun K hK => ?_)
            unfold mvRun
            go_simp
            simp only [mvUpon]
            refine hK _ _ (Grow.refl _) ?_
            clear hK K
          refine wpLins_last (fun K hK => ?_)
          unfold mvRun
          go_simp
          simp only [mvUpon]
          refine hK _ _ ?_
          clear hK K
          refine wpLins_nil ?_
          obtain ⟨hfit, hR, hP, hv, hown, hTe, hFF, hnn, hGd, hxi, hgw, hgr, hgG, q2, q3, hrb, hgb⟩ := HX.out
          have hlow : Below w1.heap.size w1 w5 := ⟨hb15.os, hb15.tape, hb15.output, hb15.size, hb15.block⟩
          have t15 := turn_below hlow
          have hR5 := hR.turn t15 (by simp)
          have hown15 := owns_turn hown t15 (by simp)
          have hxl : xs.length = M1.fs.length * 3 := hTe.1
          have hil2 : i * 3 + 1 < xs.length := by omega
          have tS : Turn [g] w5 (w5.setCell ⟨g, i * 3 + 1, none⟩ (.slice ao5 q c5')) := (Turn.refl [g] w5).set (.inl (by simp)) _ _
          have hR6 := hR5.turn tS (by simpa using fun e => hgr e.symm)
          have hown6 := own_setD hown15 (i * 3 + 1) (.slice ao5 q c5') hil2
          have q36 : (xs.set (i * 3 + 1) (.slice ao5 q c5'))[i * 3 + 2]? = some (.int .i64 (x.2.2 : Nat)) := by rw [List.getElem?_set_ne (by omega)]; exact q3
          obtain ⟨_, e, d3, g3⟩ := row_cell hown6 (by rw [List.length_set]; exact hxl) q36
          cases e
          have d5 := hR6.c5
          rw [hv] at d5
          have hr6 : Reads (w5.setCell ⟨g, i * 3 + 1, none⟩ (.slice ao5 q c5')) (.slice ao5 (x.2.1.take q).length c5') (bv (x.2.1.take q)) := by
            rw [← HQL.out]
            refine hown5.reads.turn tS fun hne a n c e => ?_
            simp only [Value.slice.injEq] at e
            have hob : (Value.slice ao5 q c5').ownBlock = some a.block := by
              rcases hown5.2.2 with ⟨e2, _⟩ | ⟨g5, _, _, e2, _⟩
              · simp only [Value.slice.injEq] at e2; rw [e2.1] at e; cases e.1
              · simp only [Value.slice.injEq] at e2; rw [e2.1] at e ⊢; cases e.1; rfl
            have := (hown5.2.lt a.block hob).1
            simp only [List.mem_singleton]
            omega
          obtain ⟨H, hH1, hH2⟩ : ∃ H : List Nat, (∀ a, ao5 = some a → a.block ∈ H) ∧ ∀ b ∈ H, w1.heap.size ≤ b ∧ b < w5.heap.size := by
            cases hao : ao5 with
            | none => exact ⟨[], fun a e => (by cases e), by simp⟩
            | some a =>
              refine ⟨[a.block], fun a' e => (by cases e; simp), fun b hb => ?_⟩
              simp only [List.mem_singleton] at hb
              subst hb
              have hob : (Value.slice ao5 q c5').ownBlock = some a.block := by
                rcases hown5.2.2 with ⟨e2, _⟩ | ⟨g5, _, _, e2, _⟩
                · simp only [Value.slice.injEq] at e2; rw [hao] at e2; cases e2.1
                · simp only [Value.slice.injEq] at e2; rw [e2.1] at hao ⊢; cases hao; rfl
              exact hown5.2.lt a.block hob
          have hgH : g ∉ G ++ H := fun hm => by
            rcases List.mem_append.1 hm with hm | hm
            · exact hgG hm
            · have := (hH2 g hm).1; omega
          have hT5 := (hTe.turn t15 (by simp)).more (G' := G ++ H) fun k hk => List.mem_append_left _ hk
          have hT6 := hT5.bytes tS hgH hxi (x.2.1.take q) ao5 c5' hr6 (fun _ a e => List.mem_append_right _ (hH1 a e))
          rw [← HQL.out] at hT6
          have HY := Lib.hid (And.intro hT6 (And.intro hown6 (And.intro (t15.mono (G := [g]) (by simp)) (And.intro tS (And.intro hH2 hgH)))))
          clear hfit hR hP hv hown hTe hFF hnn hGd hxi hgw hgr hgG q2 q3 hrb hgb hlow t15 hR5 hown15 hR6 hown6 q36 hr6 hH1 hH2 hgH hT5 hT6 hxl hil2
          go_wp2_with fail
          generalize w5.setCell ⟨g, i * 3 + 1, none⟩ (.slice ao5 q c5') = w6 at *
          go_still_tail 17, (by kernel_rfl)
          change wpList _ _ _ _ _ w6.drew
          go_wp2_with fail
          obtain ⟨hfit, hR, hP, hv, hown, hTe, hFF, hnn, hGd, hxi, hgw, hgr, hgG, q2, q3, hrb, hgb⟩ := HX.out
          obtain ⟨hT6, hown6, t15, tS, hH2, hgH⟩ := HY.out
          have em : min ((x.2.2 : Nat) : Int) (q : Int) = ((min x.2.2 q : Nat) : Int) := by omega
          rw [em]
          have tD : Turn [g] w6 ((w6.setCell ⟨g, i * 3 + 2, none⟩ (.int .i64 ((min x.2.2 q : Nat) : Int))).drew) := ((Turn.refl [g] w6).set (.inl (by simp)) _ _).drew
          have hxs : (M1.fs.set i (x.1, x.2.1.take q, x.2.2))[i]? = some (x.1, x.2.1.take q, x.2.2) := List.getElem?_set_self (List.getElem?_eq_some_iff.1 hxi).1
          have hT7 := hT6.synced tD hgH hxs (min x.2.2 q)
          simp only [List.set_set] at hT7
          have hown7 := own_setD hown6 (i * 3 + 2) (.int .i64 ((min x.2.2 q : Nat) : Int)) (by rw [List.length_set, hTe.1]; omega)
          have tAll := (t15.trans tS).trans tD
          have e5s := tS.size
          have e6s := tD.size
          have hset := HF.out.2.1
          simp only [Int.toNat_natCast] at hset
          have hN := RD.filed (k := i) (y := (x.1, x.2.1.take q, min x.2.2 q)) (G' := G ++ H) hR hP hv rfl (by rw [hFF]; rfl) hgr hgw hGd (by
            rw [HM.out.fs, hset, ← HM.out.fs]
            exact hfit.upd _ (fun _ => rfl) fun y hy _ => by have := hfit.sy y hy; simp only [List.length_take]; omega) tAll hown7 hT7 (fun k hk => List.mem_append_left _ hk) (fun k hk => (List.mem_append.1 hk).imp id fun h => (hH2 k h).1) (fun k hk => (List.mem_append.1 hk).elim (fun h => Nat.lt_of_lt_of_le (hGd k h).2 tAll.size) fun h => by have := (hH2 k h).2; omega)
          obtain ⟨F2, G2, hD2, h2F, h2G, t2⟩ := hN
          rw [HM.out.fs, hset] at hD2
          have hT := ref_told r _ F2 G2 0 _ hD2
          unfold theRef at hT
          refine hT.mono ?_
          rintro e w7 ⟨rfl, hw7⟩
          have HQ := Lib.hid (acted_yes (op := opCut name.data.toList (q : Int)) (k := 0) (fs' := updE name.data.toList (fun x => (x.1, x.2.1.take q, min x.2.2 q)) M.fs) HM.out (by unfold opCut; rw [HF.out.1]; simp only; rw [if_neg (by rintro (h | h) <;> omega)]) (by unfold opCut; rw [HF.out.1]; simp only; rw [if_neg (by rintro (h | h) <;> omega)]; simp only [Int.toNat_natCast]) (RNext.after HD1.out.2 ⟨F2, G2, hD2, h2F, h2G, t2⟩))
          rw [hw7] at HQ
          clear hT hw7 hD2 h2F h2G t2 tAll hown7 hT7 hxs tD hfit hR hP hv hown hTe hFF hnn hGd hxi hgw hgr hgG q2 q3 hrb hgb hT6 hown6 t15 tS hH2 hgH hset em
          go_wp2_with fail
          go_ret
          exact ⟨_, rfl, HQ.out⟩
end Go.Proofs.YthcdkggkoanjpaaGreatDoor
