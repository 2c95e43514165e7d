/- The faults of a module. Numbers and types by name. -/
import Derived.Test.YtlgfijjkbomejaaGreatDoorMvg
import Derived.Test.YtlgfijjkbomejaaGreatDoorFfg
/- Regions that draw their order, in which two operations may come first: a tree of walks, whatever is kept of a world. Numbers and types by name. -/
namespace Go.Proofs.YtlgfijjkbomejaaGreatDoor
open Go.RowKit Go.Lib
section
variable {P : Program} {ops : Array Oper} {md : Region.Mode}

/-- Which operation comes next: one that may be taken first (still), the only one (one), either of two (two). -/
inductive Pt
  | done
  | still (k : Nat) (r : Pt)
  | one (k : Nat) (r : Pt)
  | two (k1 : Nat) (r1 : Pt) (k2 : Nat) (r2 : Pt)
def Pt.depth : Pt → Nat
  | .done => 0
  | .still _ r => r.depth + 1
  | .one _ r => r.depth + 1
  | .two _ r _ _ => r.depth + 1
def mvBT (md : Region.Mode) (ops : Array Oper) : Pt → Array Bool → Bool
  | .done, listed => (Region.ready md ops listed).isEmpty
  | .still k r, listed => decide (k < ops.size) && (Region.ready md ops listed).contains k && Region.free md ops listed k && mvBT md ops r (listed.setIfInBounds k true)
  | .one k r, listed => decide (k < ops.size) && decide (Region.ready md ops listed = [k]) && mvBT md ops r (listed.setIfInBounds k true)
  | .two k1 r1 k2 r2, listed => decide (k1 < ops.size) && decide (k2 < ops.size) && decide (Region.ready md ops listed = [k1, k2]) && decide (r1.depth = r2.depth) && mvBT md ops r1 (listed.setIfInBounds k1 true) && mvBT md ops r2 (listed.setIfInBounds k2 true)
/-- The walks. -/
def wpTr (G : World → World → Prop) (P : Program) (ops : Array Oper) (Q : Act → World → Prop) : Pt → Act → World → Prop
  | .done, a, w => Q a w
  | .still k r, a, w => ∀ o, ops[k]? = some o → ∃ v, Upg G P ops w o v a ∧ wpTr G P ops Q r (a.put o.dst v) w
  | .one k r, a, w => ∀ o, ops[k]? = some o → mvRun P ops o (fun a' w' => G w w' ∧ wpTr G P ops Q r a' w') a w
  | .two k1 r1 k2 r2, a, w => (∀ o, ops[k1]? = some o → mvRun P ops o (fun a' w' => G w w' ∧ wpTr G P ops Q r1 a' w') a w) ∧ ∀ o, ops[k2]? = some o → mvRun P ops o (fun a' w' => G w w' ∧ wpTr G P ops Q r2 a' w') a w

theorem wpMvg_of_tr {G : World → World → Prop} (g0 : ∀ w, G w w) (g1 : ∀ {a b c}, G a b → G b c → G a c) {Q : Act → World → Prop} (hs : Region.noSelect ops = true) : ∀ (t : Pt) (listed : Array Bool) (a : Act) (w : World),
    mvBT md ops t listed = true → wpTr G P ops Q t a w → wpMvg G P md ops Q t.depth listed a w
  | .done, _, _, _, hB, h => ⟨by simpa [mvBT] using hB, h⟩
  | .still k r, listed, a, w, hB, h => by
    simp only [mvBT, Bool.and_eq_true, decide_eq_true_eq] at hB
    have h0 : ops[k]? = some ops[k] := Array.getElem?_eq_getElem hB.1.1.1
    obtain ⟨v, hy, hK⟩ := h _ h0
    exact wpMvg_first (G := G) g0 g1 h0 (Region.noSelect_spec hs) r.depth listed a w (Region.free_spec h0 hB.1.2) (by simpa using hB.1.1.2) hy
      (wpMvg_of_tr (G := G) g0 g1 hs r _ _ w hB.2 hK)
  | .one k r, listed, a, w, hB, h => by
    simp only [mvBT, Bool.and_eq_true, decide_eq_true_eq] at hB
    refine ⟨fun h1 => (by rw [hB.1.2] at h1; cases h1), fun i hi => ?_⟩
    rw [hB.1.2] at hi
    obtain rfl : i = k := by simpa using hi
    have h0 : ops[i]? = some ops[i] := Array.getElem?_eq_getElem hB.1.1
    have hm : mvOp P ops i (fun a' w' => G w w' ∧ wpTr G P ops Q r a' w') a w := by unfold mvOp; simp only [h0]; exact h _ h0
    exact mvOp_mono (fun a' w' h' => ⟨h'.1, wpMvg_of_tr (G := G) g0 g1 hs r _ a' w' hB.2 h'.2⟩) hm
  | .two k1 r1 k2 r2, listed, a, w, hB, h => by
    simp only [mvBT, Bool.and_eq_true, decide_eq_true_eq] at hB
    obtain ⟨⟨⟨⟨⟨b1, b2⟩, b3⟩, b4⟩, b5⟩, b6⟩ := hB
    refine ⟨fun h1 => (by rw [b3] at h1; cases h1), fun i hi => ?_⟩
    rw [b3] at hi
    simp only [List.mem_cons, List.not_mem_nil, or_false] at hi
    rcases hi with rfl | rfl
    · have h0 : ops[i]? = some ops[i] := Array.getElem?_eq_getElem b1
      have hm : mvOp P ops i (fun a' w' => G w w' ∧ wpTr G P ops Q r1 a' w') a w := by unfold mvOp; simp only [h0]; exact h.1 _ h0
      exact mvOp_mono (fun a' w' h' => ⟨h'.1, wpMvg_of_tr (G := G) g0 g1 hs r1 _ a' w' b5 h'.2⟩) hm
    · have h0 : ops[i]? = some ops[i] := Array.getElem?_eq_getElem b2
      have hm : mvOp P ops i (fun a' w' => G w w' ∧ wpTr G P ops Q r2 a' w') a w := by unfold mvOp; simp only [h0]; exact h.2 _ h0
      rw [b4]
      exact mvOp_mono (fun a' w' h' => ⟨h'.1, wpMvg_of_tr (G := G) g0 g1 hs r2 _ a' w' b6 h'.2⟩) hm

def mvOkT (ops : Array Oper) (t : Pt) : Bool := Region.noSelect ops && t.depth == ops.size && mvBT .any ops t (Array.replicate ops.size false)
theorem wp_region_mvt (G : World → World → Prop) (g0 : ∀ w, G w w) (g1 : ∀ {a b c}, G a b → G b c → G a c) {id : Nat} {Q : Exit → Act → World → Prop} {a : Act} {w : World} {l : List Oper} (t : Pt) (hm : P.follows .mixedOrders = true) (hB : mvOkT l.toArray t = true)
    (h : wpTr G P l.toArray (fun a' w' => Q .normal a' w') t a w.drew) : (Code.region id l.toArray true).wp P Q a w := by
  simp only [mvOkT, Bool.and_eq_true, beq_iff_eq] at hB
  refine wp_region_any hm (wpAny_of_mvg (G := G) (Q := fun a' w' => Q .normal a' w') (fun _ _ h => h) _ _ _ _ ?_)
  have := wpMvg_of_tr (G := G) g0 g1 (md := .any) hB.1.1 t (Array.replicate l.toArray.size false) a w.drew hB.2 h
  rw [hB.1.2] at this
  exact this

theorem wpTr_done {G : World → World → Prop} {Q : Act → World → Prop} {a : Act} {w : World} (h : Q a w) : wpTr G P ops Q .done a w := h
theorem wpTr_still {G : World → World → Prop} {Q : Act → World → Prop} {k : Nat} {o : Oper} {r : Pt} {a : Act} {w : World} (ho : ops[k]? = some o) (v : Value) (hv : ∀ w', G w w' → ∀ K : Value → Prop, K v → mvVal P ops o a w' K)
    (h : ∀ K : Act → Prop, (∀ a, wpTr G P ops Q r a w → K a) → K (a.put o.dst v)) : wpTr G P ops Q (.still k r) a w := by
  intro o' ho'
  obtain rfl := Option.some.inj (ho.symm.trans ho')
  refine ⟨v, fun w' hg => ?_, h _ fun _ h => h⟩
  have := hv w' hg (fun u => u = v) rfl
  unfold mvVal at this
  unfold YieldsAt
  by_cases hw : Region.wanted o (yielded ops a.tmps) = true
  · left
    rw [if_pos hw] at this
    refine ⟨hw, ?_⟩
    split at this
    · next heq => obtain ⟨rfl, rfl⟩ := this; exact .inl heq
    · next heq => obtain ⟨rfl, rfl⟩ := this; exact .inr (.inl ⟨heq, rfl⟩)
    · next heq => obtain ⟨rfl, u, hc, rfl⟩ := this; exact .inr (.inr ⟨_, _, heq, hc⟩)
    · exact this.elim
  · right
    rw [if_neg hw] at this
    exact ⟨by simpa using hw, this.symm⟩
theorem wpTr_one {G : World → World → Prop} {Q : Act → World → Prop} {k : Nat} {o : Oper} {r : Pt} {a : Act} {w : World} (ho : ops[k]? = some o)
    (h : ∀ K : Act → World → Prop, (∀ a w', G w w' → wpTr G P ops Q r a w' → K a w') → mvRun P ops o K a w) : wpTr G P ops Q (.one k r) a w := by
  intro o' ho'
  obtain rfl := Option.some.inj (ho.symm.trans ho')
  exact h _ fun _ _ hg hk => ⟨hg, hk⟩
theorem wpTr_two {G : World → World → Prop} {Q : Act → World → Prop} {k1 k2 : Nat} {o1 o2 : Oper} {r1 r2 : Pt} {a : Act} {w : World} (ho1 : ops[k1]? = some o1) (ho2 : ops[k2]? = some o2)
    (h1 : ∀ K : Act → World → Prop, (∀ a w', G w w' → wpTr G P ops Q r1 a w' → K a w') → mvRun P ops o1 K a w)
    (h2 : ∀ K : Act → World → Prop, (∀ a w', G w w' → wpTr G P ops Q r2 a w' → K a w') → mvRun P ops o2 K a w) : wpTr G P ops Q (.two k1 r1 k2 r2) a w := by
  refine ⟨fun o' ho' => ?_, fun o' ho' => ?_⟩
  · obtain rfl := Option.some.inj (ho1.symm.trans ho')
    exact h1 _ fun _ _ hg hk => ⟨hg, hk⟩
  · obtain rfl := Option.some.inj (ho2.symm.trans ho')
    exact h2 _ fun _ _ hg hk => ⟨hg, hk⟩
end

end Go.Proofs.YtlgfijjkbomejaaGreatDoor

namespace Go.Proofs.YtlgfijjkbomejaaGreatDoor
open Go.RowKit Go.Lib Go.Sort Go.Maps Go.WideMaps
set_option maxRecDepth 100000

def fauD (L : List B8) (m : Mdl) : List Dg := impD m ++ (namD m ++ (parD m ++ knoD L m))
/-- What is read of a module, but for its bodies; its names are no longer than they may be. -/
structure ModF (w : World) (m : Mdl) (vI vV vP : Value) : Prop where
  imps : TRows w 2 (fun i c => c = impV i) vI m.imports
  vars : TRows w 4 (fun i c => c = varV i) vV m.vars
  procs : TRows w 8 (PrcF w) vP m.procs
theorem PrcF.later {w w' : World} (hg : Grow w w') : ∀ (p : Prc) (cs : List Value), PrcF w p cs → PrcF w' p cs :=
  fun _ _ ⟨vP, vU, aB, nB, cB, e, h1, h2⟩ => ⟨vP, vU, aB, nB, cB, e, h1.imp hg (fun _ _ h => h), h2.imp hg (fun _ _ h => h)⟩
theorem ModF.later {w w' : World} {m : Mdl} {vI vV vP : Value} (h : ModF w m vI vV vP) (hg : Grow w w') : ModF w' m vI vV vP :=
  ⟨h.imps.imp hg (fun _ _ h => h), h.vars.imp hg (fun _ _ h => h), h.procs.imp hg (PrcF.later hg)⟩
/-- How many there may be, and how long names may be. -/
structure Few (m : Mdl) : Prop where
  name : m.name.length ≤ maxLen
  imps : m.imports.length ≤ 100000 ∧ ∀ i ∈ m.imports, i.name.length ≤ maxLen
  vars : m.vars.length ≤ 100000 ∧ ∀ i ∈ m.vars, i.name.length ≤ maxLen
  procs : m.procs.length ≤ 100000 ∧ ∀ i ∈ m.procs, i.name.length ≤ maxLen
  pars : ∀ p ∈ m.procs, p.params.length ≤ 100000 ∧ ∀ q ∈ p.params, q.name.length ≤ maxLen
theorem impD_len (m : Mdl) : (impD m).length ≤ m.imports.length := by
  have := twD_len (impN m) [m.name]
  unfold impD
  unfold impN at this ⊢
  rw [List.length_map] at this
  exact this
theorem namD_len (m : Mdl) : (namD m).length ≤ m.vars.length + m.procs.length := by
  have := twD_len (varN m ++ prcN m) []
  unfold namD
  unfold varN prcN at this ⊢
  rw [List.length_append, List.length_map, List.length_map] at this
  exact this
theorem parD_len (m : Mdl) (h : Few m) : (parD m).length ≤ m.procs.length * 100000 :=
  flat_len (fun p => twD (parN p) []) 100000 m.procs (fun p hp => by
    have h3 := twD_len (parN p) []
    have h4 := (h.pars p hp).1
    unfold parN at h3 ⊢
    rw [List.length_map] at h3
    omega)

theorem growA1 {w W : World} (o : Obj) (h : Grow w W) : Grow w (W.alloc o) := Grow.trans h ((Below.refl _ _).alloc (Nat.le_refl _) _)
theorem growD1 {w W : World} (h : Grow w W) : Grow w W.drew := below_drewN h 1
theorem mk_ck {W : World} {b B : Nat} {md : B8} {al : Option Addr} {nl cl : Nat} {L : List B8} {v0 v1 v2 : Value} (hz : W.heap[b]? = some (.cells #[v0, v1, v2] 127)) (ho : OwnS W B (.slice al nl cl) nl L) (hne : ∀ k, (Value.slice al nl cl).ownBlock = some k → k ≠ b) :
    CkAt (((W.setCell ⟨b, 0, none⟩ (.string (tx md))).setCell ⟨b, 1, none⟩ (.slice al nl cl)).setCell ⟨b, 2, none⟩ (.slice none 0 0)) (((W.setCell ⟨b, 0, none⟩ (.string (tx md))).setCell ⟨b, 1, none⟩ (.slice al nl cl)).setCell ⟨b, 2, none⟩ (.slice none 0 0)).heap.size b md (.slice al nl cl) nl L (.slice none 0 0) 0 [] := by
  have hc : Chg [b] W (((W.setCell ⟨b, 0, none⟩ (.string (tx md))).setCell ⟨b, 1, none⟩ (.slice al nl cl)).setCell ⟨b, 2, none⟩ (.slice none 0 0)) := (((Chg.refl [b] W).set (.inl (by simp)) 0 _).set (.inl (by simp)) 1 _).set (.inl (by simp)) 2 _
  have hl := (Array.getElem?_eq_some_iff.1 hz).1
  have hs := hc.size
  refine ⟨heap_setCell_same _ _ _ _ _ _ (heap_setCell_same _ _ _ _ _ _ (heap_setCell_same _ _ _ _ _ _ hz)), (ho.base (Nat.zero_le _)).chg hc (fun k hk hm => hne k hk (by simpa using hm)), ⟨by omega, fun k hk => ⟨?_, hne k hk⟩⟩, Nat.le_refl _, rfl, World.ownsRow_nil _ _ _ _⟩
  have := (own_ge ho.2 hk).2
  omega
def FauTold (w : World) (md : B8) (D : List Dg) (e : Ending) (w' : World) : Prop := ∃ ad n c, e = .returned (.slice ad n c) ∧ OwnG w' w.heap.size md (.slice ad n c) n D ∧ Grow w w'
set_option maxHeartbeats 16000000 in
theorem faults_walk (m : Mdl) (vI vV vP : Value) (aN : Option Addr) (nN cN : Nat) (LN : List B8) (y1 y2 y3 y4 y5 : Value) (w : World) (hm : ModF w m vI vV vP) (hf : Few m) (hN : StrV w (.slice aN nN cN) nN LN) (hn : nN ≤ 100000) :
    Calls Tryz.prog 29 #[.agg (mdlV m vI vV vP).toArray, .agg #[.slice aN nN cN, y1, y2, y3, y4, y5]] w (FauTold w m.name (fauD (setF LN) m)) := by
  obtain ⟨aI, cI, rfl⟩ := hm.imps.shape
  obtain ⟨aV, cV, rfl⟩ := hm.vars.shape
  obtain ⟨aP, cP, rfl⟩ := hm.procs.shape
  obtain ⟨w1, hw1⟩ : ∃ w1, (w.alloc (.cells #[.string (tx m.name), .int .i64 (m.pos : Int), .slice aI m.imports.length cI, .slice aV m.vars.length cV, .slice aP m.procs.length cP] 26)).alloc (.cells #[.slice aN nN cN, y1, y2, y3, y4, y5] 40) = w1 := ⟨_, rfl⟩
  have hg1 : Grow w w1 := by rw [← hw1]; exact ((Below.refl _ w).alloc (Nat.le_refl _) _).alloc (by simp) _
  have hb0 : w1.heap[w.heap.size]? = some (.cells #[.string (tx m.name), .int .i64 (m.pos : Int), .slice aI m.imports.length cI, .slice aV m.vars.length cV, .slice aP m.procs.length cP] 26) := by
    rw [← hw1]
    exact (((Below.refl _ (w.alloc _)).alloc (Nat.le_refl _) _ : Grow (w.alloc _) _).block _ (by simp)).trans (heap_alloc_new _ _)
  have hb1 : w1.heap[w.heap.size + 1]? = some (.cells #[.slice aN nN cN, y1, y2, y3, y4, y5] 40) := by
    rw [← hw1]
    have := heap_alloc_new (w.alloc (.cells #[.string (tx m.name), .int .i64 (m.pos : Int), .slice aI m.imports.length cI, .slice aV m.vars.length cV, .slice aP m.procs.length cP] 26)) (.cells #[.slice aN nN cN, y1, y2, y3, y4, y5] 40)
    rwa [show (w.alloc (.cells #[.string (tx m.name), .int .i64 (m.pos : Int), .slice aI m.imports.length cI, .slice aV m.vars.length cV, .slice aP m.procs.length cP] 26)).heap.size = w.heap.size + 1 by simp] at this
  have P := Lib.hid (fun (W : World) (hg : Grow w1 W) => set_str _ nN LN W (hN.later (Grow.trans hg1 hg)))
  have KC : Hid (∀ W, Grow w1 W → W.cell? ⟨w.heap.size, 0, none⟩ = some (.string (tx m.name)) ∧ W.cell? ⟨w.heap.size + 1, 0, none⟩ = some (.slice aN nN cN)) := Lib.hid fun W hg => ⟨(hg.cell (Array.getElem?_eq_some_iff.1 hb0).1).trans (cellsN hb0 0 _ rfl), (hg.cell (Array.getElem?_eq_some_iff.1 hb1).1).trans (cellsN hb1 0 _ rfl)⟩
  obtain ⟨k0, k1⟩ := KC.out w1 (Grow.refl _)
  have j0 : ∀ o, (w1.alloc o).cell? ⟨w.heap.size, 0, none⟩ = some (.string (tx m.name)) := fun o => (KC.out _ ((Below.refl _ w1).alloc (Nat.le_refl _) o)).1
  have j1 : ∀ o, (w1.alloc o).cell? ⟨w.heap.size + 1, 0, none⟩ = some (.slice aN nN cN) := fun o => (KC.out _ ((Below.refl _ w1).alloc (Nat.le_refl _) o)).2
  have H := Lib.hid (And.intro hm (And.intro hf (And.intro hg1 (And.intro hb0 hb1))))
  have HNl := Lib.hid hN.1
  clear hm hf hg1 hb0 hb1 hN
  simp only [mdlV]
  go_enter Tryz.func29, Tryz.ntmps29
  go_upto_region 1 with fail
  clear hw1
  go_cut [5] from 6 to 12 (fun s5 wx => ∃ (b : Nat) (al : Option Addr) (nl cl : Nat), s5 = .pointer (some ⟨b, 0, none⟩) ∧ Hid (CkAt wx wx.heap.size b m.name (.slice al nl cl) nl (setF LN) (.slice none 0 0) 0 [] ∧ Grow w1 wx ∧ w1.heap.size ≤ b))
  case first =>
    refine wp_region_mvt (fun W W' => Below w1.heap.size W W') (fun W => Below.refl _ _) (fun h k => Below.trans h k) (.still 0 (.still 1 (.still 2 (.still 3 (.two 4 (.still 5 (.one 6 (.one 7 .done))) 6 (.one 4 (.still 5 (.one 7 .done)))))))) (by kernel_rfl) (by kernel_rfl) ?_
    iterate 4
      refine wpTr_still rfl ?_ (fun w' hG K hK => ?_) (fun K hK => ?_)
      rotate_left
      · obtain ⟨l0, l1⟩ := KC.out w' (Below.trans (below_drewN (Below.refl _ w1) 1) hG)
        unfold mvVal
        go_simp
        exact hK
      go_simp
      refine hK _ ?_
      clear hK K
    refine wpTr_two rfl rfl (fun K hK => ?_) (fun K hK => ?_)
    · unfold mvRun
      go_simp
      simp only [mvUpon]
      refine (P.out w1.drew (below_drewN (Below.refl _ w1) 1)).mono ?_
      rintro e w2 ⟨u, nl, rfl, ho, hg⟩
      obtain ⟨al, cl, rfl⟩ := ho.shape
      have HS : Hid (OwnS w2 w1.heap.size (.slice al nl cl) nl (setF LN) ∧ Grow w1 w2) := Lib.hid ⟨ho, Grow.trans (below_drewN (Below.refl _ w1) 1) hg⟩
      refine ⟨_, rfl, ?_⟩
      go_simp
      refine hK _ _ (hg : Grow w1.drew w2) ?_
      clear hK K ho hg
      iterate 1
        refine wpTr_still rfl ?_ (fun w' hG K hK => ?_) (fun K hK => ?_)
        rotate_left
        · unfold mvVal
          go_simp
          exact hK
        go_simp
        refine hK _ ?_
        clear hK K
      refine wpTr_one rfl (fun K hK => ?_)
      unfold mvRun
      go_simp
      simp only [mvUpon]
      obtain ⟨W, hW⟩ : ∃ W, w2.alloc (.cells #[.string ⟨#[]⟩, .slice none 0 0, .slice none 0 0] 127) = W := ⟨_, rfl⟩
      rw [hW]
      have hgW : Grow w2 W := by rw [← hW]; exact (Below.refl _ w2).alloc (Nat.le_refl _) _
      have hz : W.heap[w2.heap.size]? = some (.cells #[.string ⟨#[]⟩, .slice none 0 0, .slice none 0 0] 127) := by rw [← hW]; exact heap_alloc_new _ _
      refine hK _ _ (hgW.mono HS.out.2.size) ?_
      clear hK K hW
      have z0 : W.cell? ⟨w2.heap.size, 0, none⟩ = some (.string ⟨#[]⟩) := cellsN hz 0 _ rfl
      have z1 : W.cell? ⟨w2.heap.size, 1, none⟩ = some (.slice none 0 0) := cellsN hz 1 _ rfl
      have z2 : W.cell? ⟨w2.heap.size, 2, none⟩ = some (.slice none 0 0) := cellsN hz 2 _ rfl
      have fz0 := frozen_of_row W w2.heap.size 0 _ _ hz
      have fz1 := frozen_of_row W w2.heap.size 1 _ _ hz
      have fz2 := frozen_of_row W w2.heap.size 2 _ _ hz
      refine wpTr_one rfl (fun K hK => ?_)
      unfold mvRun
      go_simp
      try simp only [mvUpon]
      refine hK _ _ ?_ ?_
      · exact ((below_set (below_set (below_set (Below.refl _ _) HS.out.2.size 0 _) HS.out.2.size 1 _) HS.out.2.size 2 _))
      clear hK K z0 z1 z2 fz0 fz1 fz2
      refine wpTr_done ?_
      go_wp2_with fail
      go_meet
      refine ⟨w2.heap.size, al, nl, cl, rfl, Lib.hid ⟨mk_ck (B := w1.heap.size) hz ?_ ?_, ?_, HS.out.2.size⟩⟩
      · exact (HS.out.1.later hgW)
      · intro k hk
        have := (own_ge HS.out.1.2 hk).2
        omega
      · exact Below.trans HS.out.2 (Below.trans (hgW.mono HS.out.2.size) (below_set (below_set (below_set (Below.refl _ _) HS.out.2.size 0 _) HS.out.2.size 1 _) HS.out.2.size 2 _))
    · unfold mvRun
      go_simp
      simp only [mvUpon]
      obtain ⟨W0, hW⟩ : ∃ W0, (w1.alloc (.cells #[.string ⟨#[]⟩, .slice none 0 0, .slice none 0 0] 127)).drew = W0 := ⟨_, rfl⟩
      rw [hW]
      have hg0 : Grow w1 W0 := by rw [← hW]; exact below_drewN ((Below.refl _ w1).alloc (Nat.le_refl _) _) 1
      have hz0 : W0.heap[w1.heap.size]? = some (.cells #[.string ⟨#[]⟩, .slice none 0 0, .slice none 0 0] 127) := by rw [← hW]; exact heap_alloc_new w1 _
      refine hK _ _ (show Below w1.heap.size w1.drew W0 from by rw [← hW]; exact below_drewN ((Below.refl _ w1.drew).alloc (Nat.le_refl _) _) 0) ?_
      clear hK K hW
      refine wpTr_one rfl (fun K hK => ?_)
      unfold mvRun
      go_simp
      simp only [mvUpon]
      refine (P.out W0 hg0).mono ?_
      rintro e W ⟨u, nl, rfl, ho, hg⟩
      obtain ⟨al, cl, rfl⟩ := ho.shape
      have HS : Hid (OwnS W W0.heap.size (.slice al nl cl) nl (setF LN) ∧ Grow W0 W ∧ w1.heap.size < W0.heap.size) := Lib.hid ⟨ho, hg, (Array.getElem?_eq_some_iff.1 hz0).1⟩
      refine ⟨_, rfl, ?_⟩
      go_simp
      refine hK _ _ (hg.mono hg0.size) ?_
      clear hK K
      have hz := (hg.block _ (Array.getElem?_eq_some_iff.1 hz0).1).trans hz0
      clear ho hg hz0
      refine wpTr_still rfl ?_ (fun w' hG K hK => ?_) (fun K hK => ?_)
      rotate_left
      · unfold mvVal
        go_simp
        exact hK
      go_simp
      refine hK _ ?_
      clear hK K
      have z0 : W.cell? ⟨w1.heap.size, 0, none⟩ = some (.string ⟨#[]⟩) := cellsN hz 0 _ rfl
      have z1 : W.cell? ⟨w1.heap.size, 1, none⟩ = some (.slice none 0 0) := cellsN hz 1 _ rfl
      have z2 : W.cell? ⟨w1.heap.size, 2, none⟩ = some (.slice none 0 0) := cellsN hz 2 _ rfl
      have fz0 := frozen_of_row W w1.heap.size 0 _ _ hz
      have fz1 := frozen_of_row W w1.heap.size 1 _ _ hz
      have fz2 := frozen_of_row W w1.heap.size 2 _ _ hz
      refine wpTr_one rfl (fun K hK => ?_)
      unfold mvRun
      go_simp
      try simp only [mvUpon]
      refine hK _ _ ?_ ?_
      · exact ((below_set (below_set (below_set (Below.refl _ _) (Nat.le_refl _) 0 _) (Nat.le_refl _) 1 _) (Nat.le_refl _) 2 _))
      clear hK K z0 z1 z2 fz0 fz1 fz2
      refine wpTr_done ?_
      go_wp2_with fail
      go_meet
      refine ⟨w1.heap.size, al, nl, cl, rfl, Lib.hid ⟨mk_ck (B := W0.heap.size) hz ?_ ?_, ?_, (Nat.le_refl _)⟩⟩
      · exact HS.out.1
      · intro k hk
        have := (own_ge HS.out.1.2 hk).1
        have := HS.out.2.2
        omega
      · exact Below.trans hg0 (Below.trans (HS.out.2.1.mono hg0.size) (below_set (below_set (below_set (Below.refl _ _) (Nat.le_refl _) 0 _) (Nat.le_refl _) 1 _) (Nat.le_refl _) 2 _))
  case rest =>
    obtain ⟨b, al, nl, cl, rfl, hs⟩ := hcut
    have hH : w.heap.size + 1 < w1.heap.size ∧ w.heap.size < w1.heap.size := ⟨(Array.getElem?_eq_some_iff.1 H.out.2.2.2.2).1, (Array.getElem?_eq_some_iff.1 H.out.2.2.2.1).1⟩
    have HB : Hid (b ≠ w.heap.size ∧ w.heap.size ≤ b) := Lib.hid ⟨by have := hs.out.2.2; omega, by have := hs.out.2.2; omega⟩
    have hgc : Grow w wc := Grow.trans H.out.2.2.1 hs.out.2.1
    have HGC := Lib.hid hgc
    have hbc : wc.heap[w.heap.size]? = some (.cells #[.string (tx m.name), .int .i64 (m.pos : Int), .slice aI m.imports.length cI, .slice aV m.vars.length cV, .slice aP m.procs.length cP] 26) := (hs.out.2.1.block _ hH.2).trans H.out.2.2.2.1
    have KB : Hid (∀ D ad n c (w' : World), Ck1 wc wc.heap.size b m.name (.slice al nl cl) nl (setF LN) (.slice none 0 0) D ad n c w' → w'.heap[w.heap.size]? = some (.cells #[.string (tx m.name), .int .i64 (m.pos : Int), .slice aI m.imports.length cI, .slice aV m.vars.length cV, .slice aP m.procs.length cP] 26) ∧ Grow w w') := Lib.hid fun D ad n c w' hh => ⟨hh.keep hbc (fun e => HB.out.1 e.symm) (fun j hj => by cases hj), hh.low hgc HB.out.2 (fun k hk => by cases hk)⟩
    have HL : Hid (nl ≤ 100000 ∧ RiseT (setF LN)) := Lib.hid ⟨by have := hs.out.1.lab.1; have := setF_len LN; have := HNl.out; omega, setF_rise LN⟩
    have H0 : Hid (Ck1 wc wc.heap.size b m.name (.slice al nl cl) nl (setF LN) (.slice none 0 0) [] none 0 0 wc) := Lib.hid ⟨hs.out.1, Chg.refl _ _, .inl rfl⟩
    have F := H.out.2.1
    have HF := Lib.hid F
    have hkb := (KB.out _ _ _ _ _ H0.out).1
    have q0 : wc.cell? ⟨w.heap.size, 0, none⟩ = some (.string (tx m.name)) := cellsN hkb 0 _ rfl
    have q1 : wc.cell? ⟨w.heap.size, 1, none⟩ = some (.int .i64 (m.pos : Int)) := cellsN hkb 1 _ rfl
    have q2 : wc.cell? ⟨w.heap.size, 2, none⟩ = some (.slice aI m.imports.length cI) := cellsN hkb 2 _ rfl
    have q3 : wc.cell? ⟨w.heap.size, 3, none⟩ = some (.slice aV m.vars.length cV) := cellsN hkb 3 _ rfl
    have q4 : wc.cell? ⟨w.heap.size, 4, none⟩ = some (.slice aP m.procs.length cP) := cellsN hkb 4 _ rfl
    have P1 := imports_walk wc.heap.size b m.name (.slice al nl cl) nl (setF LN) (.slice none 0 0) 0 [] m (.slice aI m.imports.length cI) (.slice aV m.vars.length cV) (.slice aP m.procs.length cP) w wc H0.out.ck hgc HB.out.2 H.out.1.imps F.imps.1 F.name F.imps.2 (Lib.hid (by have := F.imps.1; omega))
    rw [List.nil_append] at P1
    have S1 : Hid (∀ e w', CkTold wc wc.heap.size b m.name (.slice al nl cl) nl (setF LN) (.slice none 0 0) (impD m) e w' → e = .returned (.tuple #[]) ∧ ∃ ad n c, Ck1 wc wc.heap.size b m.name (.slice al nl cl) nl (setF LN) (.slice none 0 0) (impD m) ad n c w') := Lib.hid fun e w' ht => H0.out.next (Grow.refl _) ht
    simp only [mdlV] at P1
    clear hs hH hgc hbc hkb F k0 k1 j0 j1
    go_upto_region 3 with (go_at_call 72; refine P1.mono ?_; rintro e w2 ht; obtain ⟨rfl, ad1, n1, c1, h1⟩ := S1.out e w2 ht; have H1 := Lib.hid h1; clear ht h1)
    clear q0 q1 q2 q3 q4 P1 S1
    have hkb := (KB.out _ _ _ _ _ H1.out).1
    have q0 : w2.cell? ⟨w.heap.size, 0, none⟩ = some (.string (tx m.name)) := cellsN hkb 0 _ rfl
    have q1 : w2.cell? ⟨w.heap.size, 1, none⟩ = some (.int .i64 (m.pos : Int)) := cellsN hkb 1 _ rfl
    have q2 : w2.cell? ⟨w.heap.size, 2, none⟩ = some (.slice aI m.imports.length cI) := cellsN hkb 2 _ rfl
    have q3 : w2.cell? ⟨w.heap.size, 3, none⟩ = some (.slice aV m.vars.length cV) := cellsN hkb 3 _ rfl
    have q4 : w2.cell? ⟨w.heap.size, 4, none⟩ = some (.slice aP m.procs.length cP) := cellsN hkb 4 _ rfl
    have hn1 : n1 ≤ 100000 := by have := H1.out.ck.own.1; have := impD_len m; have := HF.out.imps.1; omega
    have P2 := names_walk wc.heap.size b m.name (.slice al nl cl) nl (setF LN) _ n1 _ m (.slice aI m.imports.length cI) (.slice aV m.vars.length cV) (.slice aP m.procs.length cP) w w2 H1.out.ck (KB.out _ _ _ _ _ H1.out).2 HB.out.2 H.out.1.vars H.out.1.procs HF.out.vars.1 HF.out.procs.1 HF.out.vars.2 HF.out.procs.2 (Lib.hid (by have := HF.out.vars.1; have := HF.out.procs.1; omega))
    have S2 : Hid (∀ e w', CkTold w2 wc.heap.size b m.name (.slice al nl cl) nl (setF LN) (.slice ad1 n1 c1) (impD m ++ namD m) e w' → e = .returned (.tuple #[]) ∧ ∃ ad n c, Ck1 wc wc.heap.size b m.name (.slice al nl cl) nl (setF LN) (.slice none 0 0) (impD m ++ namD m) ad n c w') := Lib.hid fun e w' ht => H1.out.next (Grow.refl _) ht
    simp only [mdlV] at P2
    clear hkb
    go_upto_region 4 with (go_at_call 73; refine P2.mono ?_; rintro e w3 ht; obtain ⟨rfl, ad2, n2, c2, h1⟩ := S2.out e w3 ht; have H2 := Lib.hid h1; clear ht h1)
    clear q0 q1 q2 q3 q4 P2 S2
    have hkb := (KB.out _ _ _ _ _ H2.out).1
    have q0 : w3.cell? ⟨w.heap.size, 0, none⟩ = some (.string (tx m.name)) := cellsN hkb 0 _ rfl
    have q1 : w3.cell? ⟨w.heap.size, 1, none⟩ = some (.int .i64 (m.pos : Int)) := cellsN hkb 1 _ rfl
    have q2 : w3.cell? ⟨w.heap.size, 2, none⟩ = some (.slice aI m.imports.length cI) := cellsN hkb 2 _ rfl
    have q3 : w3.cell? ⟨w.heap.size, 3, none⟩ = some (.slice aV m.vars.length cV) := cellsN hkb 3 _ rfl
    have q4 : w3.cell? ⟨w.heap.size, 4, none⟩ = some (.slice aP m.procs.length cP) := cellsN hkb 4 _ rfl
    have hn2 : n2 ≤ 300000 := by have := H2.out.ck.own.1; rw [List.length_append] at this; have := impD_len m; have := namD_len m; have := HF.out.imps.1; have := HF.out.vars.1; have := HF.out.procs.1; omega
    have P3 := params_walk wc.heap.size b m.name (.slice al nl cl) nl (setF LN) _ n2 _ m (.slice aI m.imports.length cI) (.slice aV m.vars.length cV) (.slice aP m.procs.length cP) w w3 H2.out.ck (KB.out _ _ _ _ _ H2.out).2 HB.out.2 H.out.1.procs HF.out.procs.1 HF.out.pars (Lib.hid (by omega))
    have S3 : Hid (∀ e w', CkTold w3 wc.heap.size b m.name (.slice al nl cl) nl (setF LN) (.slice ad2 n2 c2) ((impD m ++ namD m) ++ parD m) e w' → e = .returned (.tuple #[]) ∧ ∃ ad n c, Ck1 wc wc.heap.size b m.name (.slice al nl cl) nl (setF LN) (.slice none 0 0) ((impD m ++ namD m) ++ parD m) ad n c w') := Lib.hid fun e w' ht => H2.out.next (Grow.refl _) ht
    simp only [mdlV] at P3
    clear hkb
    go_upto_region 5 with (go_at_call 74; refine P3.mono ?_; rintro e w4 ht; obtain ⟨rfl, ad3, n3, c3, h1⟩ := S3.out e w4 ht; have H3 := Lib.hid h1; clear ht h1)
    clear q0 q1 q2 q3 q4 P3 S3
    have hkb := (KB.out _ _ _ _ _ H3.out).1
    have q0 : w4.cell? ⟨w.heap.size, 0, none⟩ = some (.string (tx m.name)) := cellsN hkb 0 _ rfl
    have q1 : w4.cell? ⟨w.heap.size, 1, none⟩ = some (.int .i64 (m.pos : Int)) := cellsN hkb 1 _ rfl
    have q2 : w4.cell? ⟨w.heap.size, 2, none⟩ = some (.slice aI m.imports.length cI) := cellsN hkb 2 _ rfl
    have q3 : w4.cell? ⟨w.heap.size, 3, none⟩ = some (.slice aV m.vars.length cV) := cellsN hkb 3 _ rfl
    have q4 : w4.cell? ⟨w.heap.size, 4, none⟩ = some (.slice aP m.procs.length cP) := cellsN hkb 4 _ rfl
    have hn3 : n3 ≤ 20000000000 := by
      have h1 := H3.out.ck.own.1
      rw [List.length_append, List.length_append] at h1
      have := impD_len m
      have := namD_len m
      have h2 := parD_len m HF.out
      have := HF.out.imps.1
      have := HF.out.vars.1
      have := HF.out.procs.1
      have := Nat.mul_le_mul_right 100000 HF.out.procs.1
      omega
    have P4 := known_walk wc.heap.size b m.name (.slice al nl cl) nl (setF LN) _ n3 _ m (.slice aI m.imports.length cI) (.slice aV m.vars.length cV) (.slice aP m.procs.length cP) w w4 H3.out.ck (KB.out _ _ _ _ _ H3.out).2 HB.out.2 H.out.1.vars H.out.1.procs HF.out.vars.1 HF.out.procs.1 (fun p hp => (HF.out.pars p hp).1) (Lib.hid hn3) HL.out.1 HL.out.2
    have S4 : Hid (∀ e w', CkTold w4 wc.heap.size b m.name (.slice al nl cl) nl (setF LN) (.slice ad3 n3 c3) (((impD m ++ namD m) ++ parD m) ++ knoD (setF LN) m) e w' → e = .returned (.tuple #[]) ∧ ∃ ad n c, Ck1 wc wc.heap.size b m.name (.slice al nl cl) nl (setF LN) (.slice none 0 0) (((impD m ++ namD m) ++ parD m) ++ knoD (setF LN) m) ad n c w') := Lib.hid fun e w' ht => H3.out.next (Grow.refl _) ht
    simp only [mdlV] at P4
    clear hkb
    go_upto_region 6 with (go_at_call 75; refine P4.mono ?_; rintro e w5 ht; obtain ⟨rfl, ad4, n4, c4, h1⟩ := S4.out e w5 ht; have H4 := Lib.hid h1; clear ht h1)
    clear q0 q1 q2 q3 q4 P4 S4
    have q2 : w5.cell? ⟨b, 2, none⟩ = some (.slice ad4 n4 c4) := cellsN H4.out.ck.blk 2 _ rfl
    go_wp2_with fail
    go_ret
    refine ⟨_, _, _, rfl, ?_, (KB.out _ _ _ _ _ H4.out).2⟩
    have := H4.out.ck.own
    unfold fauD
    rw [List.append_assoc, List.append_assoc] at this
    exact ⟨this.1, owns_base this.2 (by have := HGC.out.size; omega)⟩

end Go.Proofs.YtlgfijjkbomejaaGreatDoor
