/- Are both disks one? Numbers and types by name. -/
import Derived.Test.YthacjeeafnblmaaGreatDoorWaw
namespace Go.Proofs.YthacjeeafnblmaaGreatDoor
open Go.RowKit Go.Maps Go.Sort Go.WideMaps

theorem FlR.later {w w' : World} {v : Value} {fs : List Ent} (h : FlR w v fs) (t : Turn [] w w') : FlR w' v fs := by
  obtain ⟨ao, c, xs, hv, hl, h1, h2, h3⟩ := h
  refine ⟨ao, c, xs, hv, hl, fun a ha j u hj => ?_, h2, fun j x hj => ?_⟩
  · have h0 := h1 a ha j u hj
    exact (World.cell?_of_block (t.block _ (World.block_lt_of_cell? w _ h0) (by simp))).trans h0
  · obtain ⟨ab, cb, e1, e2, e3, e4⟩ := h3 j x hj
    exact ⟨ab, cb, e1, e2, e3, e4.turn t (by simp)⟩

/-- What is seen of the reference's disk. -/
theorem RD.sees {w : World} {r : Nat} {M : MD} {F G : List Nat} (h : RD w r M F G) : ∃ ao c, w.cell? ⟨r, 5, none⟩ = some (.slice ao M.fs.length c) ∧ w.cell? ⟨r, 6, none⟩ = some (.int .i64 M.n) ∧ w.cell? ⟨r, 7, none⟩ = some (.bool M.dw) ∧ FlR w (.slice ao M.fs.length c) M.fs := by
  obtain ⟨_, s, ao, c, xs, hR, hP, hv, hown, hT, _⟩ := h
  refine ⟨ao, c, ?_, ?_, ?_, FlR.ref hown hT⟩
  · rw [hR.c5, hv]
  · rw [hR.c6, hP.n]
  · rw [hR.c7, hP.dw]

theorem cell_up {w : World} {a : Addr} {v : Value} (h : w.cell? a = some v) : ∀ w', Grow w w' → w'.cell? a = some v := fun _ hg =>
  (World.cell?_of_block (hg.block _ (World.block_lt_of_cell? w _ h))).trans h

set_option maxRecDepth 100000 in
set_option maxHeartbeats 4000000 in
theorem same_any {X : Nat → Prop} (base b r : Nat) (M : MD) (w : World) (h : Both X w base b r M M) (hl : Lim M) :
    Calls Tryz.prog 23 #[theDisk b, theRef r] w fun e w' => e = .returned (.bool true) ∧ Turn [] w w' := by
  have h0 := h.new ((Turn.refl [] w).drewN 1)
  obtain ⟨_, Fd, Fr, G, h1, h2, _, _⟩ := h0
  obtain ⟨aF, cF, k5, k6, k7, hF⟩ := h2.sees
  obtain ⟨n, hn⟩ : ∃ n, n = M.fs.length := ⟨_, rfl⟩
  rw [← hn] at k5 hF
  have HC := Lib.hid (And.intro h1 (And.intro hF (And.intro hl hn)))
  obtain ⟨cn, hcn⟩ : ∃ cn, cn = M.n := ⟨_, rfl⟩
  obtain ⟨dw, hdw⟩ : ∃ dw, dw = M.dw := ⟨_, rfl⟩
  rw [← hcn] at k6
  rw [← hdw] at k7
  have HN := Lib.hid (And.intro hcn hdw)
  have u5 := cell_up k5
  have u6 := cell_up k6
  have u7 := cell_up k7
  clear h h1 h2 hF hl hn k5 k6 k7 hcn hdw
  change ∀ w', Grow w.drew w' → _ at u5
  change ∀ w', Grow w.drew w' → _ at u6
  change ∀ w', Grow w.drew w' → _ at u7
  unfold theDisk theRef
  go_enter Tryz.func23, Tryz.ntmps23
  go_wp2_with fail
  refine wp_region_mv [(0, 1, true), (2, 4, true), (1, 1, false), (6, 1, false), (7, 2, true), (10, 4, true), (9, 1, false), (14, 4, true), (19, 4, true), (18, 1, false), (23, 3, true)] (by kernel_rfl) (by kernel_rfl) ?_
  simp only [mvAll, mvSeg, List.drop_succ_cons, List.drop_zero, List.cons_append, List.nil_append, Nat.reduceAdd]
  iterate 5
    refine wpLin_still ?_ (fun w' hG K hK => ?_) (fun K hK => ?_)
    rotate_left
    · have d5 := u5 w' hG
      clear hG
      unfold mvVal
      go_simp
      try exact hK
    go_simp
    refine hK _ ?_
    clear hK K
  refine wpLin_call (fun K hK => ?_)
  unfold mvRun
  go_simp
  simp only [mvUpon]
  refine (files_cd base b M Fd w.drew HC.out.1 HC.out.2.2.1.fs).mono ?_
  rintro e w1 ⟨ao, c, xs, rfl, hown, hT, t1⟩
  have hf1 : FlR w1 (.slice ao M.fs.length c) M.fs := FlR.told hown hT
  have hf2 := HC.out.2.1.later t1
  rw [← HC.out.2.2.2] at hf1
  refine ⟨_, rfl, ?_⟩
  rw [← HC.out.2.2.2]
  go_simp
  refine hK _ _ (turn_grow t1) ?_
  clear hK K
  have HD1 := Lib.hid (HC.out.1.new t1)
  have HF := Lib.hid (And.intro hf1 (And.intro hf2 t1))
  clear hf1 hf2 hown hT t1
  refine wpLin_call (fun K hK => ?_)
  unfold mvRun
  go_simp
  simp only [mvUpon]
  refine (ref_files _ _ M.fs w1 HF.out.1 HF.out.2.1 HC.out.2.2.1.fs.len).mono ?_
  rintro e w2 ⟨rfl, t2⟩
  refine ⟨_, rfl, ?_⟩
  go_simp
  refine hK _ _ (turn_grow t2) ?_
  clear hK K
  have HD2 := Lib.hid (HD1.out.new t2)
  have HT2 := Lib.hid (HF.out.2.2.trans t2)
  have v6 : ∀ w', Grow w2 w' → w'.cell? ⟨r, 6, none⟩ = some (.int .i64 cn) := fun w' hg => u6 w' (Grow.trans (turn_grow HT2.out) hg)
  have v7 : ∀ w', Grow w2 w' → w'.cell? ⟨r, 7, none⟩ = some (.bool dw) := fun w' hg => u7 w' (Grow.trans (turn_grow HT2.out) hg)
  have HCC := calls_cd base b M Fd w2 HD2.out
  have HDW := down_cd base b M Fd w2 HD2.out
  unfold theDisk at HCC HDW
  rw [← HN.out.1] at HCC
  rw [← HN.out.2] at HDW
  clear t2 HD1 HF u5 u6 u7
  iterate 6
    refine wpLin_still ?_ (fun w' hG K hK => ?_) (fun K hK => ?_)
    rotate_left
    · have d6 := v6 w' hG
      clear hG
      unfold mvVal
      go_simp
      try exact hK
    go_simp
    refine hK _ ?_
    clear hK K
  refine wpLin_call (fun K hK => ?_)
  unfold mvRun
  go_simp
  simp only [mvUpon]
  refine HCC.mono ?_
  rintro e w3 ⟨rfl, rfl⟩
  refine ⟨_, rfl, ?_⟩
  go_simp
  refine hK _ _ (Grow.refl _) ?_
  clear hK K HCC
  iterate 8
    refine wpLin_still ?_ (fun w' hG K hK => ?_) (fun K hK => ?_)
    rotate_left
    · have d7 := v7 w' hG
      clear hG
      unfold mvVal
      go_simp
      try exact hK
    go_simp
    refine hK _ ?_
    clear hK K
  refine wpLin_call (fun K hK => ?_)
  unfold mvRun
  go_simp
  simp only [mvUpon]
  refine HDW.mono ?_
  rintro e w4 ⟨rfl, rfl⟩
  refine ⟨_, rfl, ?_⟩
  go_simp
  refine hK _ _ (Grow.refl _) ?_
  clear hK K HDW
  iterate 3
    refine wpLin_still ?_ (fun w' hG K hK => ?_) (fun K hK => ?_)
    rotate_left
    · unfold mvVal
      go_simp
      try exact hK
    go_simp
    refine hK _ ?_
    clear hK K
  refine wpLin_nil ?_
  go_wp2_with fail
  go_ret
  exact ⟨rfl, ((Turn.refl [] w).drewN 1).trans HT2.out⟩

end Go.Proofs.YthacjeeafnblmaaGreatDoor
