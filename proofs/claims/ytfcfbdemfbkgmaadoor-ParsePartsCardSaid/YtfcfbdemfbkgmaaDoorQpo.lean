/- The code's variable. Numbers and types by name. -/
import Derived.Test.YtfcfbdemfbkgmaaDoorQpn
import Derived.Test.YtfcfbdemfbkgmaaDoorMpk
namespace Go.Proofs.YtfcfbdemfbkgmaaDoor
open Go.RowKit Go.Lib
set_option maxRecDepth 100000

theorem var_is (L : List Tk) (s : PS) : varT L s = (let s3 := wantT L (paramT L s).2 [61]; let s4 := takeT L s3 [45];
    if s4.e ≠ 0 ∨ (curT L s4).kind ≠ 2 then (⟨(paramT L s).1.name, (paramT L s).1.label, 0, (paramT L s).1.pos⟩, failT L s4 11)
    else (⟨(paramT L s).1.name, (paramT L s).1.label, if isT L s3 [45] = true then - (numV (curT L s4).text : Int) else numV (curT L s4).text, (paramT L s).1.pos⟩, wantT L s4.go [59])) := rfl
theorem wrap_pos {n : Nat} (h : n < 1000000000) : IntKind.i64.wrap (n : Int) = (n : Int) := by
  rw [IntKind.wrap_i64]
  omega
theorem wrap_neg {n : Nat} (h : n < 1000000000) : IntKind.i64.wrap (-(n : Int)) = -(n : Int) := by
  rw [IntKind.wrap_i64]
  omega

set_option maxHeartbeats 4000000 in
theorem psr_variable (w0 w : World) (b : Nat) (L : List Tk) (s : PS) (h : Psr w0 w b L s) :
    Calls Tryd.prog 25 #[.pointer (some ⟨b, 0, none⟩)] w (Ends w0 w b L (varT L s).2 (fun _ e => e = .returned (.agg #[.string (tx (varT L s).1.name), .string (tx (varT L s).1.label), .int .i64 (varT L s).1.init, .int .i64 ((varT L s).1.pos : Int)]))) := by
  have HA := Lib.hid ((StC.of h).alloc (.cells #[.string ⟨#[]⟩, .string ⟨#[]⟩, .int .i64 0, .int .i64 0] 41))
  obtain ⟨U, hU⟩ : ∃ U, w.heap.size = U := ⟨_, rfl⟩
  have HU := OwB.mk' (StC.of h) #[.string ⟨#[]⟩, .string ⟨#[]⟩, .int .i64 0, .int .i64 0] 41
  rw [hU] at HU
  replace HU := Lib.hid HU
  have P := psr_param w0 _ b L s HA.out.r
  have hL := h.ok
  obtain ⟨⟨⟨rn, rl, ri, rp⟩, R⟩, hR⟩ : ∃ q, varT L s = q := ⟨_, rfl⟩
  rw [hR]
  rw [var_is] at hR
  simp only at hR
  obtain ⟨⟨⟨nm, lb, pp⟩, s1⟩, hq⟩ : ∃ q, paramT L s = q := ⟨_, rfl⟩
  rw [hq] at P hR
  simp only at hR
  change Calls _ _ _ _ (Ends _ _ _ _ _ (Ret (.agg #[.string (tx nm), .string (tx lb), .int .i64 (pp : Int)]))) at P
  have HR := Lib.hid hR
  have hvg : ∀ s4, s4.e ≠ 0 → takeT L s4 [45] = s4 := fun s4 h => by rw [takeT, isT_err h, if_neg (by simp)]
  have HK := Lib.hid (And.intro hL hvg)
  clear h hq hR hL hvg
  go_enter Tryd.func25, Tryd.ntmps25
  go_wp2_with fail
  refine P.mono ?_
  rintro e1 w1 hr
  rcases HA.out.out hr with ⟨h1, hv, X⟩ | ⟨h1, rfl, X⟩
  case inr =>
    have hR := HR.out
    rw [want_err h1, HK.out.2 s1 h1, if_pos (.inl h1), fail_err h1] at hR
    have hf := Lib.hid (congrArg Prod.snd hR).symm
    clear hr P hR
    go_wp2_with fail
    rw [hf.out]
    exact ⟨rfl, X.out, .inr ⟨h1, rfl⟩⟩
  obtain rfl : e1 = _ := hv
  clear hr P
  have HU1 := Lib.hid ((HU.out.keep X.out.2).alloc (.cells #[.string (tx nm), .string (tx lb), .int .i64 (pp : Int)] 46))
  have X1 := Lib.hid (X.out.1.alloc (.cells #[.string (tx nm), .string (tx lb), .int .i64 (pp : Int)] 46))
  obtain ⟨Q, hQ⟩ : ∃ T, w1.heap.size = T := ⟨_, rfl⟩
  have HQ1 := OwB.mk' X.out.1 #[.string (tx nm), .string (tx lb), .int .i64 (pp : Int)] 46
  rw [hQ] at HQ1
  replace HQ1 := Lib.hid HQ1
  clear HA HU X
  go_wp2_with fail
  refine (psr_expect w0 _ b L s1 [61] X1.out.r (by decide)).mono ?_
  obtain ⟨s3, hs3⟩ : ∃ x, wantT L s1 [61] = x := ⟨_, rfl⟩
  have hR := HR.out
  rw [hs3] at hR ⊢
  have HR3 := Lib.hid hR
  clear hR HR hs3
  rintro e2 w2 hr
  rcases X1.out.out hr with ⟨h2, hv, X⟩ | ⟨h2, rfl, X⟩
  case inr =>
    have hR := HR3.out
    rw [HK.out.2 s3 h2, if_pos (.inl h2), fail_err h2] at hR
    have hf := Lib.hid (congrArg Prod.snd hR).symm
    clear hr hR
    go_wp2_with fail
    rw [hf.out]
    exact ⟨rfl, X.out, .inr ⟨h2, rfl⟩⟩
  obtain rfl : e2 = _ := hv
  have HU2 := Lib.hid (HU1.out.keep X.out.2)
  have HQ2 := Lib.hid (HQ1.out.keep X.out.2)
  have X2 := Lib.hid X.out.1
  clear hr X X1 HU1 HQ1
  go_wp2_with fail
  refine (psr_accept w0 _ b L s3 [45] X2.out.r (by decide)).mono ?_
  rintro e3 w3 hr
  obtain ⟨rfl, X3'⟩ := hr.out1
  have HU3 := Lib.hid (HU2.out.keep X3'.out.2)
  have HQ3 := Lib.hid (HQ2.out.keep X3'.out.2)
  have X3 := Lib.hid (X2.out.keep X3'.out.1 X3'.out.2)
  clear hr X3' X2 HU2 HQ2
  obtain ⟨s4, hs4⟩ : ∃ x, takeT L s3 [45] = x := ⟨_, rfl⟩
  rw [hs4] at X3
  have hR := HR3.out
  rw [hs4] at hR
  replace hR := Lib.hid hR
  clear HR3 hs4
  have NB := psr_number w0
  cases hB : isT L s3 [45] with
  | true =>
    have hR2 := hR.out
    rw [hB] at hR2
    replace hR2 := Lib.hid hR2
    clear hR hB
    have HQZ := HQ3.out.z
    have d0 : ∀ w' : World, w'.heap[Q]? = w3.heap[Q]? → w'.cell? ⟨Q, 0, none⟩ = some (.string (tx nm)) := fun w' h => cellsN (h.trans HQZ) 0 _ rfl
    have d1 : ∀ w' : World, w'.heap[Q]? = w3.heap[Q]? → w'.cell? ⟨Q, 1, none⟩ = some (.string (tx lb)) := fun w' h => cellsN (h.trans HQZ) 1 _ rfl
    have d2 : ∀ w' : World, w'.heap[Q]? = w3.heap[Q]? → w'.cell? ⟨Q, 2, none⟩ = some (.int .i64 (pp : Int)) := fun w' h => cellsN (h.trans HQZ) 2 _ rfl
    have XD := Lib.hid X3.out.drew
    have XDA := Lib.hid (XD.out.alloc (.cells #[.string ⟨#[]⟩, .string ⟨#[]⟩, .int .i64 0, .int .i64 0] 41))
    have HUA := Lib.hid ((HU3.out.drew).alloc (.cells #[.string ⟨#[]⟩, .string ⟨#[]⟩, .int .i64 0, .int .i64 0] 41))
    have HQA := Lib.hid ((HQ3.out.drew).alloc (.cells #[.string ⟨#[]⟩, .string ⟨#[]⟩, .int .i64 0, .int .i64 0] 41))
    have hva : OwB w (w3.drew.alloc (.cells #[.string ⟨#[]⟩, .string ⟨#[]⟩, .int .i64 0, .int .i64 0] 41)) b w3.heap.size #[.string ⟨#[]⟩, .string ⟨#[]⟩, .int .i64 0, .int .i64 0] 41 := OwB.mk' XD.out _ _
    have HVA := Lib.hid hva
    have hvu := HU3.out.lt
    have hvq := HQ3.out.lt
    have HVU : Hid (w3.heap.size ≠ U ∧ w3.heap.size ≠ Q) := Lib.hid ⟨by omega, by omega⟩
    clear hva HQZ hvu hvq
    have HND := Lib.hid (fun (hk : (curT L s4).kind = 2) => (XD.out.r.ok.num _ (cur_memT XD.out.r.lt) hk))
    go_upto_region 6 with fail
    by_cases hk : (curT L s4).kind = 2
    · have hnum : numQ L s4 = s4.go := if_pos hk
      have NB2 := Lib.hid (fun w1 h1 => NB w1 b L s4 h1)
      rw [hnum] at NB2
      have hbd := numV_few _ (HND.out hk).1 (HND.out hk).2
      have hR3 := hR2.out
      rw [if_neg (by rw [X3.out.r.e, hk]; simp)] at hR3
      replace hR3 := Lib.hid hR3
      clear NB HND hR2 hk hnum
      obtain ⟨q, hq⟩ : ∃ q, numV (curT L s4).text = q := ⟨_, rfl⟩
      rw [hq] at NB2 hR3 hbd
      clear hq
      have hwr := wrap_neg hbd
      clear hbd
      refine wp_region_mp 99 (fun w1 w2 => w2.heap[Q]? = w1.heap[Q]?) (fun w => rfl) (fun h k => k.trans h) (fun c w' => False) (fun c w' hc => hc.elim) (.still 0 (.still 1 (.still 2 (.still 3 (.still 4 (.still 5 (.still 8 (.still 9 (.two 6 (.still 7 (.still 10 (.one 11 (.one 12 .done)))) 11 (.one 6 (.still 7 (.still 10 (.one 12 .done))))))))))))) (by kernel_rfl) (by kernel_rfl) ?_
      iterate 8
        refine wpWk_still rfl ?_ (fun w' hG K hK => ?_) (fun K hK => ?_)
        rotate_left
        · try
            have e0 := d0 w' hG
            have e1 := d1 w' hG
            have e2 := d2 w' hG
          unfold mvVal
          go_simp
          try exact hK
        go_simp
        refine hK _ ?_
        clear hK K
      refine wpWk_two rfl rfl (fun K hK => ?_) (fun K hK => ?_)
      · unfold mpRun
        go_simp
        simp only [mpUpon]
        refine (NB2.out _ XD.out.r).mono ?_
        rintro e5 w5 hr
        rcases XD.out.out hr with ⟨h5, hv, X5⟩ | ⟨h5, rfl, X5⟩
        case inr => exact absurd XD.out.r.e h5
        obtain rfl : e5 = _ := hv
        clear hr
        have HU5 := Lib.hid ((HU3.out.drew).keep X5.out.2)
        have HQ5 := Lib.hid ((HQ3.out.drew).keep X5.out.2)
        have hg5 : w5.heap[Q]? = w3.drew.heap[Q]? := X5.out.2.block Q (HQ3.out.drew).lt (by have := HQ5.out.nb; rw [List.mem_singleton]; omega)
        refine .inl ⟨_, rfl, ?_⟩
        go_simp
        refine hK _ _ (.inr hg5) ?_
        clear hK K
        iterate 2
          refine wpWk_still rfl ?_ (fun w' hG K hK => ?_) (fun K hK => ?_)
          rotate_left
          · try
              have e0 := d0 w' hG
              have e1 := d1 w' hG
              have e2 := d2 w' hG
            unfold mvVal
            go_simp
            try exact hK
          go_simp
          refine hK _ ?_
          clear hK K
        refine wpWk_one rfl (fun K hK => ?_)
        unfold mpRun
        go_simp
        simp only [mpUpon]
        refine hK _ _ (.inr (heap_alloc_old _ _ HQ5.out.lt)) ?_
        clear hK K
        have hvv : Hid (Q ≠ w5.heap.size) := Lib.hid (by have := HQ5.out.lt; omega)
        refine wpWk_one rfl (fun K hK => ?_)
        unfold mpRun
        go_simp
        simp only [mpUpon]
        refine hK _ _ (.inr ((heap_alloc_old _ _ HQ5.out.lt).trans (heap_alloc_old _ _ HQ5.out.lt).symm)) ?_
        clear hK K hvv
        unfold wpWk
        have HU6 := Lib.hid (HU5.out.alloc (.cells #[.string (tx nm), .string (tx lb), .int .i64 (-(q : Int)), .int .i64 (pp : Int)] 41))
        have X6 := Lib.hid (X5.out.1.alloc (.cells #[.string (tx nm), .string (tx lb), .int .i64 (-(q : Int)), .int .i64 (pp : Int)] 41))
        have HV6 := Lib.hid (OwB.mk' X5.out.1 #[.string (tx nm), .string (tx lb), .int .i64 (-(q : Int)), .int .i64 (pp : Int)] 41)
        clear hwr HU5 HQ5 X5 d0 d1 d2 hg5
        generalize w5.heap.size = V at *
        go_wp2_with fail
        refine (psr_expect w0 _ b L s4.go [59] X6.out.r (by decide)).mono ?_
        rintro e7 w7 hr
        rcases X6.out.out hr with ⟨h7, hv, X7⟩ | ⟨h7, rfl, X7⟩
        case inr =>
          have hf := Lib.hid (congrArg Prod.snd hR3.out).symm
          clear hr
          go_wp2_with fail
          rw [hf.out]
          exact ⟨rfl, X7.out, .inr ⟨h7, rfl⟩⟩
        obtain rfl : e7 = _ := hv
        have HU7 := Lib.hid (HU6.out.keep X7.out.2)
        have HV7 := Lib.hid (HV6.out.keep X7.out.2)
        clear hr HU6 HV6 X6
        go_wp2_with (first | (refine wpList_load_row rfl 41 (.tmp 5) rfl V rfl _ _ _ _ HV7.out.z Tryd.underlying41 rfl (var_info ⟨nm, lb, -(q : Int), pp⟩) ?_) | (refine wpList_store_row rfl 41 (.tmp 2) (.tmp 25) rfl U _ rfl rfl _ _ HU7.out.z (var_info ⟨nm, lb, -(q : Int), pp⟩) rfl (var_ones ⟨nm, lb, -(q : Int), pp⟩) ?_))
        try simp only [Exit.inBlock, Exit.then]
        refine bodyPost_ret (results_cell_row rfl _ _ U _ _ _ _ rfl (setRow_heap _ U _ _ _ _ HU7.out.z) Tryd.underlying41 rfl (var_info ⟨nm, lb, -(q : Int), pp⟩)) rfl ?_
        have hR4 := hR3.out
        simp only [Bool.false_eq_true, if_false, if_true, Prod.mk.injEq, Vrb.mk.injEq] at hR4
        obtain ⟨⟨rfl, rfl, rfl, rfl⟩, rfl⟩ := hR4
        have XE := X7.out.1.setRow HU7.out.nb HU7.out.new #[.string (tx nm), .string (tx lb), .int .i64 (-(q : Int)), .int .i64 (pp : Int)]
        exact ⟨XE.c, .inl ⟨h7, XE.r, rfl⟩⟩
      · unfold mpRun
        go_simp
        simp only [mpUpon]
        refine hK _ _ (.inr (heap_alloc_old _ _ HQ3.out.lt)) ?_
        clear hK K
        have hg3 : ((w3.drew.alloc (.cells #[.string ⟨#[]⟩, .string ⟨#[]⟩, .int .i64 0, .int .i64 0] 41))).heap[Q]? = w3.heap[Q]? := heap_alloc_old _ _ HQ3.out.lt
        refine wpWk_one rfl (fun K hK => ?_)
        unfold mpRun
        go_simp
        simp only [mpUpon]
        refine (NB2.out _ XDA.out.r).mono ?_
        rintro e5 w5 hr
        rcases XDA.out.out hr with ⟨h5, hv, X5⟩ | ⟨h5, rfl, X5⟩
        case inr => exact absurd XD.out.r.e h5
        obtain rfl : e5 = _ := hv
        clear hr
        have HU5 := Lib.hid (HUA.out.keep X5.out.2)
        have HQ5 := Lib.hid (HQA.out.keep X5.out.2)
        have hg5 : w5.heap[Q]? = (w3.drew.alloc (.cells #[.string ⟨#[]⟩, .string ⟨#[]⟩, .int .i64 0, .int .i64 0] 41)).heap[Q]? := X5.out.2.block Q HQA.out.lt (by have := HQ5.out.nb; rw [List.mem_singleton]; omega)
        refine .inl ⟨_, rfl, ?_⟩
        go_simp
        refine hK _ _ (.inr hg5) ?_
        clear hK K
        have hg6 := hg5.trans hg3
        iterate 2
          refine wpWk_still rfl ?_ (fun w' hG K hK => ?_) (fun K hK => ?_)
          rotate_left
          · try
              have e0 := d0 w' hG
              have e1 := d1 w' hG
              have e2 := d2 w' hG
            unfold mvVal
            go_simp
            try exact hK
          go_simp
          refine hK _ ?_
          clear hK K
        have HV5 := Lib.hid (HVA.out.keep X5.out.2)
        have k0 := HV5.out.cell 0 _ rfl
        have k1 := HV5.out.cell 1 _ rfl
        have k2 := HV5.out.cell 2 _ rfl
        have k3 := HV5.out.cell 3 _ rfl
        have f0 := HV5.out.free 0
        have f1 := HV5.out.free 1
        have f2 := HV5.out.free 2
        have f3 := HV5.out.free 3
        refine wpWk_one rfl (fun K hK => ?_)
        unfold mpRun
        go_simp
        simp only [mpUpon]
        refine hK _ _ (.inr ?_) ?_
        · rw [heap_setCell_other _ _ _ _ HVU.out.2.symm, heap_setCell_other _ _ _ _ HVU.out.2.symm, heap_setCell_other _ _ _ _ HVU.out.2.symm, heap_setCell_other _ _ _ _ HVU.out.2.symm]
        clear hK K
        unfold wpWk
        have HU6 := Lib.hid (((((HU5.out.other HVU.out.1.symm 0 (.string (tx nm))).other HVU.out.1.symm 1 (.string (tx lb))).other HVU.out.1.symm 2 (.int .i64 (-(q : Int)))).other HVU.out.1.symm 3 (.int .i64 (pp : Int))))
        have X6 := Lib.hid ((((X5.out.1.set HV5.out.nb HV5.out.new 0 (.string (tx nm))).set HV5.out.nb HV5.out.new 1 (.string (tx lb))).set HV5.out.nb HV5.out.new 2 (.int .i64 (-(q : Int)))).set HV5.out.nb HV5.out.new 3 (.int .i64 (pp : Int)))
        have hv6 : OwB w _ b w3.heap.size #[.string (tx nm), .string (tx lb), .int .i64 (-(q : Int)), .int .i64 (pp : Int)] 41 := (((HV5.out.set 0 (.string (tx nm))).set 1 (.string (tx lb))).set 2 (.int .i64 (-(q : Int)))).set 3 (.int .i64 (pp : Int))
        have HV6 := Lib.hid hv6
        clear hwr hv6 HU5 HQ5 HV5 X5 d0 d1 d2 k0 k1 k2 k3 f0 f1 f2 f3 hg5 hg6 hg3
        generalize w3.heap.size = V at *
        go_wp2_with fail
        refine (psr_expect w0 _ b L s4.go [59] X6.out.r (by decide)).mono ?_
        rintro e7 w7 hr
        rcases X6.out.out hr with ⟨h7, hv, X7⟩ | ⟨h7, rfl, X7⟩
        case inr =>
          have hf := Lib.hid (congrArg Prod.snd hR3.out).symm
          clear hr
          go_wp2_with fail
          rw [hf.out]
          exact ⟨rfl, X7.out, .inr ⟨h7, rfl⟩⟩
        obtain rfl : e7 = _ := hv
        have HU7 := Lib.hid (HU6.out.keep X7.out.2)
        have HV7 := Lib.hid (HV6.out.keep X7.out.2)
        clear hr HU6 HV6 X6
        go_wp2_with (first | (refine wpList_load_row rfl 41 (.tmp 5) rfl V rfl _ _ _ _ HV7.out.z Tryd.underlying41 rfl (var_info ⟨nm, lb, -(q : Int), pp⟩) ?_) | (refine wpList_store_row rfl 41 (.tmp 2) (.tmp 25) rfl U _ rfl rfl _ _ HU7.out.z (var_info ⟨nm, lb, -(q : Int), pp⟩) rfl (var_ones ⟨nm, lb, -(q : Int), pp⟩) ?_))
        try simp only [Exit.inBlock, Exit.then]
        refine bodyPost_ret (results_cell_row rfl _ _ U _ _ _ _ rfl (setRow_heap _ U _ _ _ _ HU7.out.z) Tryd.underlying41 rfl (var_info ⟨nm, lb, -(q : Int), pp⟩)) rfl ?_
        have hR4 := hR3.out
        simp only [Bool.false_eq_true, if_false, if_true, Prod.mk.injEq, Vrb.mk.injEq] at hR4
        obtain ⟨⟨rfl, rfl, rfl, rfl⟩, rfl⟩ := hR4
        have XE := X7.out.1.setRow HU7.out.nb HU7.out.new #[.string (tx nm), .string (tx lb), .int .i64 (-(q : Int)), .int .i64 (pp : Int)]
        exact ⟨XE.c, .inl ⟨h7, XE.r, rfl⟩⟩
    · have hnum : numQ L s4 = { s4 with e := 11, pos := (curT L s4).pos } := if_neg hk
      have NB2 := Lib.hid (fun w1 h1 => NB w1 b L s4 h1)
      rw [hnum] at NB2
      have hR3 := hR2.out
      rw [if_pos (.inr hk), failT, if_pos X3.out.r.e] at hR3
      have hf : Hid (R = { s4 with e := 11, pos := (curT L s4).pos }) := Lib.hid (congrArg Prod.snd hR3).symm
      clear NB HND hR2 hk hnum hR3
      refine wp_region_mp 99 (fun w1 w2 => w2.heap[Q]? = w1.heap[Q]?) (fun w => rfl) (fun h k => k.trans h) (fun c w' => Ends w0 w b L R (fun _ e => e = .returned (.agg #[.string (tx rn), .string (tx rl), .int .i64 ri, .int .i64 (rp : Int)])) (.panicked c) w') (fun c w' hc a' ha => ⟨ha, hc⟩) (.still 0 (.still 1 (.still 2 (.still 3 (.still 4 (.still 5 (.still 8 (.still 9 (.two 6 (.still 7 (.still 10 (.one 11 (.one 12 .done)))) 11 (.one 6 (.still 7 (.still 10 (.one 12 .done))))))))))))) (by kernel_rfl) (by kernel_rfl) ?_
      iterate 8
        refine wpWk_still rfl ?_ (fun w' hG K hK => ?_) (fun K hK => ?_)
        rotate_left
        · try
            have e0 := d0 w' hG
            have e1 := d1 w' hG
            have e2 := d2 w' hG
          unfold mvVal
          go_simp
          try exact hK
        go_simp
        refine hK _ ?_
        clear hK K
      refine wpWk_two rfl rfl (fun K hK => ?_) (fun K hK => ?_)
      · unfold mpRun
        go_simp
        simp only [mpUpon]
        refine (NB2.out _ XD.out.r).mono ?_
        rintro e5 w5 hr
        rcases XD.out.out hr with ⟨h5, hv, X5⟩ | ⟨h5, rfl, X5⟩
        · exact absurd h5 (show ¬ (11 : Int) = 0 by decide)
        exact .inr ⟨_, rfl, X5.out, .inr ⟨by rw [hf.out]; exact h5, by rw [hf.out]⟩⟩
      · unfold mpRun
        go_simp
        simp only [mpUpon]
        refine hK _ _ (.inr (heap_alloc_old _ _ HQ3.out.lt)) ?_
        clear hK K
        refine wpWk_one rfl (fun K hK => ?_)
        unfold mpRun
        go_simp
        simp only [mpUpon]
        refine (NB2.out _ XDA.out.r).mono ?_
        rintro e5 w5 hr
        rcases XDA.out.out hr with ⟨h5, hv, X5⟩ | ⟨h5, rfl, X5⟩
        · exact absurd h5 (show ¬ (11 : Int) = 0 by decide)
        exact .inr ⟨_, rfl, X5.out, .inr ⟨by rw [hf.out]; exact h5, by rw [hf.out]⟩⟩
  | false =>
    have hR2 := hR.out
    rw [hB] at hR2
    replace hR2 := Lib.hid hR2
    clear hR hB
    have HQZ := HQ3.out.z
    have d0 : ∀ w' : World, w'.heap[Q]? = w3.heap[Q]? → w'.cell? ⟨Q, 0, none⟩ = some (.string (tx nm)) := fun w' h => cellsN (h.trans HQZ) 0 _ rfl
    have d1 : ∀ w' : World, w'.heap[Q]? = w3.heap[Q]? → w'.cell? ⟨Q, 1, none⟩ = some (.string (tx lb)) := fun w' h => cellsN (h.trans HQZ) 1 _ rfl
    have d2 : ∀ w' : World, w'.heap[Q]? = w3.heap[Q]? → w'.cell? ⟨Q, 2, none⟩ = some (.int .i64 (pp : Int)) := fun w' h => cellsN (h.trans HQZ) 2 _ rfl
    have XD := Lib.hid X3.out.drew
    have XDA := Lib.hid (XD.out.alloc (.cells #[.string ⟨#[]⟩, .string ⟨#[]⟩, .int .i64 0, .int .i64 0] 41))
    have HUA := Lib.hid ((HU3.out.drew).alloc (.cells #[.string ⟨#[]⟩, .string ⟨#[]⟩, .int .i64 0, .int .i64 0] 41))
    have HQA := Lib.hid ((HQ3.out.drew).alloc (.cells #[.string ⟨#[]⟩, .string ⟨#[]⟩, .int .i64 0, .int .i64 0] 41))
    have hva : OwB w (w3.drew.alloc (.cells #[.string ⟨#[]⟩, .string ⟨#[]⟩, .int .i64 0, .int .i64 0] 41)) b w3.heap.size #[.string ⟨#[]⟩, .string ⟨#[]⟩, .int .i64 0, .int .i64 0] 41 := OwB.mk' XD.out _ _
    have HVA := Lib.hid hva
    have hvu := HU3.out.lt
    have hvq := HQ3.out.lt
    have HVU : Hid (w3.heap.size ≠ U ∧ w3.heap.size ≠ Q) := Lib.hid ⟨by omega, by omega⟩
    clear hva HQZ hvu hvq
    have HND := Lib.hid (fun (hk : (curT L s4).kind = 2) => (XD.out.r.ok.num _ (cur_memT XD.out.r.lt) hk))
    go_upto_region 6 with fail
    by_cases hk : (curT L s4).kind = 2
    · have hnum : numQ L s4 = s4.go := if_pos hk
      have NB2 := Lib.hid (fun w1 h1 => NB w1 b L s4 h1)
      rw [hnum] at NB2
      have hbd := numV_few _ (HND.out hk).1 (HND.out hk).2
      have hR3 := hR2.out
      rw [if_neg (by rw [X3.out.r.e, hk]; simp)] at hR3
      replace hR3 := Lib.hid hR3
      clear NB HND hR2 hk hnum
      obtain ⟨q, hq⟩ : ∃ q, numV (curT L s4).text = q := ⟨_, rfl⟩
      rw [hq] at NB2 hR3 hbd
      clear hq
      have hwr := wrap_pos hbd
      clear hbd
      refine wp_region_mp 99 (fun w1 w2 => w2.heap[Q]? = w1.heap[Q]?) (fun w => rfl) (fun h k => k.trans h) (fun c w' => False) (fun c w' hc => hc.elim) (.still 0 (.still 1 (.still 2 (.still 3 (.still 4 (.still 5 (.still 8 (.still 9 (.two 6 (.still 7 (.still 10 (.one 11 (.one 12 .done)))) 11 (.one 6 (.still 7 (.still 10 (.one 12 .done))))))))))))) (by kernel_rfl) (by kernel_rfl) ?_
      iterate 8
        refine wpWk_still rfl ?_ (fun w' hG K hK => ?_) (fun K hK => ?_)
        rotate_left
        · try
            have e0 := d0 w' hG
            have e1 := d1 w' hG
            have e2 := d2 w' hG
          unfold mvVal
          go_simp
          try exact hK
        go_simp
        refine hK _ ?_
        clear hK K
      refine wpWk_two rfl rfl (fun K hK => ?_) (fun K hK => ?_)
      · unfold mpRun
        go_simp
        simp only [mpUpon]
        refine (NB2.out _ XD.out.r).mono ?_
        rintro e5 w5 hr
        rcases XD.out.out hr with ⟨h5, hv, X5⟩ | ⟨h5, rfl, X5⟩
        case inr => exact absurd XD.out.r.e h5
        obtain rfl : e5 = _ := hv
        clear hr
        have HU5 := Lib.hid ((HU3.out.drew).keep X5.out.2)
        have HQ5 := Lib.hid ((HQ3.out.drew).keep X5.out.2)
        have hg5 : w5.heap[Q]? = w3.drew.heap[Q]? := X5.out.2.block Q (HQ3.out.drew).lt (by have := HQ5.out.nb; rw [List.mem_singleton]; omega)
        refine .inl ⟨_, rfl, ?_⟩
        go_simp
        refine hK _ _ (.inr hg5) ?_
        clear hK K
        iterate 2
          refine wpWk_still rfl ?_ (fun w' hG K hK => ?_) (fun K hK => ?_)
          rotate_left
          · try
              have e0 := d0 w' hG
              have e1 := d1 w' hG
              have e2 := d2 w' hG
            unfold mvVal
            go_simp
            try exact hK
          go_simp
          refine hK _ ?_
          clear hK K
        refine wpWk_one rfl (fun K hK => ?_)
        unfold mpRun
        go_simp
        simp only [mpUpon]
        refine hK _ _ (.inr (heap_alloc_old _ _ HQ5.out.lt)) ?_
        clear hK K
        have hvv : Hid (Q ≠ w5.heap.size) := Lib.hid (by have := HQ5.out.lt; omega)
        refine wpWk_one rfl (fun K hK => ?_)
        unfold mpRun
        go_simp
        simp only [mpUpon]
        refine hK _ _ (.inr ((heap_alloc_old _ _ HQ5.out.lt).trans (heap_alloc_old _ _ HQ5.out.lt).symm)) ?_
        clear hK K hvv
        unfold wpWk
        have HU6 := Lib.hid (HU5.out.alloc (.cells #[.string (tx nm), .string (tx lb), .int .i64 ((q : Int)), .int .i64 (pp : Int)] 41))
        have X6 := Lib.hid (X5.out.1.alloc (.cells #[.string (tx nm), .string (tx lb), .int .i64 ((q : Int)), .int .i64 (pp : Int)] 41))
        have HV6 := Lib.hid (OwB.mk' X5.out.1 #[.string (tx nm), .string (tx lb), .int .i64 ((q : Int)), .int .i64 (pp : Int)] 41)
        clear hwr HU5 HQ5 X5 d0 d1 d2 hg5
        generalize w5.heap.size = V at *
        go_wp2_with fail
        refine (psr_expect w0 _ b L s4.go [59] X6.out.r (by decide)).mono ?_
        rintro e7 w7 hr
        rcases X6.out.out hr with ⟨h7, hv, X7⟩ | ⟨h7, rfl, X7⟩
        case inr =>
          have hf := Lib.hid (congrArg Prod.snd hR3.out).symm
          clear hr
          go_wp2_with fail
          rw [hf.out]
          exact ⟨rfl, X7.out, .inr ⟨h7, rfl⟩⟩
        obtain rfl : e7 = _ := hv
        have HU7 := Lib.hid (HU6.out.keep X7.out.2)
        have HV7 := Lib.hid (HV6.out.keep X7.out.2)
        clear hr HU6 HV6 X6
        go_wp2_with (first | (refine wpList_load_row rfl 41 (.tmp 5) rfl V rfl _ _ _ _ HV7.out.z Tryd.underlying41 rfl (var_info ⟨nm, lb, (q : Int), pp⟩) ?_) | (refine wpList_store_row rfl 41 (.tmp 2) (.tmp 25) rfl U _ rfl rfl _ _ HU7.out.z (var_info ⟨nm, lb, (q : Int), pp⟩) rfl (var_ones ⟨nm, lb, (q : Int), pp⟩) ?_))
        try simp only [Exit.inBlock, Exit.then]
        refine bodyPost_ret (results_cell_row rfl _ _ U _ _ _ _ rfl (setRow_heap _ U _ _ _ _ HU7.out.z) Tryd.underlying41 rfl (var_info ⟨nm, lb, (q : Int), pp⟩)) rfl ?_
        have hR4 := hR3.out
        simp only [Bool.false_eq_true, if_false, if_true, Prod.mk.injEq, Vrb.mk.injEq] at hR4
        obtain ⟨⟨rfl, rfl, rfl, rfl⟩, rfl⟩ := hR4
        have XE := X7.out.1.setRow HU7.out.nb HU7.out.new #[.string (tx nm), .string (tx lb), .int .i64 ((q : Int)), .int .i64 (pp : Int)]
        exact ⟨XE.c, .inl ⟨h7, XE.r, rfl⟩⟩
      · unfold mpRun
        go_simp
        simp only [mpUpon]
        refine hK _ _ (.inr (heap_alloc_old _ _ HQ3.out.lt)) ?_
        clear hK K
        have hg3 : ((w3.drew.alloc (.cells #[.string ⟨#[]⟩, .string ⟨#[]⟩, .int .i64 0, .int .i64 0] 41))).heap[Q]? = w3.heap[Q]? := heap_alloc_old _ _ HQ3.out.lt
        refine wpWk_one rfl (fun K hK => ?_)
        unfold mpRun
        go_simp
        simp only [mpUpon]
        refine (NB2.out _ XDA.out.r).mono ?_
        rintro e5 w5 hr
        rcases XDA.out.out hr with ⟨h5, hv, X5⟩ | ⟨h5, rfl, X5⟩
        case inr => exact absurd XD.out.r.e h5
        obtain rfl : e5 = _ := hv
        clear hr
        have HU5 := Lib.hid (HUA.out.keep X5.out.2)
        have HQ5 := Lib.hid (HQA.out.keep X5.out.2)
        have hg5 : w5.heap[Q]? = (w3.drew.alloc (.cells #[.string ⟨#[]⟩, .string ⟨#[]⟩, .int .i64 0, .int .i64 0] 41)).heap[Q]? := X5.out.2.block Q HQA.out.lt (by have := HQ5.out.nb; rw [List.mem_singleton]; omega)
        refine .inl ⟨_, rfl, ?_⟩
        go_simp
        refine hK _ _ (.inr hg5) ?_
        clear hK K
        have hg6 := hg5.trans hg3
        iterate 2
          refine wpWk_still rfl ?_ (fun w' hG K hK => ?_) (fun K hK => ?_)
          rotate_left
          · try
              have e0 := d0 w' hG
              have e1 := d1 w' hG
              have e2 := d2 w' hG
            unfold mvVal
            go_simp
            try exact hK
          go_simp
          refine hK _ ?_
          clear hK K
        have HV5 := Lib.hid (HVA.out.keep X5.out.2)
        have k0 := HV5.out.cell 0 _ rfl
        have k1 := HV5.out.cell 1 _ rfl
        have k2 := HV5.out.cell 2 _ rfl
        have k3 := HV5.out.cell 3 _ rfl
        have f0 := HV5.out.free 0
        have f1 := HV5.out.free 1
        have f2 := HV5.out.free 2
        have f3 := HV5.out.free 3
        refine wpWk_one rfl (fun K hK => ?_)
        unfold mpRun
        go_simp
        simp only [mpUpon]
        refine hK _ _ (.inr ?_) ?_
        · rw [heap_setCell_other _ _ _ _ HVU.out.2.symm, heap_setCell_other _ _ _ _ HVU.out.2.symm, heap_setCell_other _ _ _ _ HVU.out.2.symm, heap_setCell_other _ _ _ _ HVU.out.2.symm]
        clear hK K
        unfold wpWk
        have HU6 := Lib.hid (((((HU5.out.other HVU.out.1.symm 0 (.string (tx nm))).other HVU.out.1.symm 1 (.string (tx lb))).other HVU.out.1.symm 2 (.int .i64 ((q : Int)))).other HVU.out.1.symm 3 (.int .i64 (pp : Int))))
        have X6 := Lib.hid ((((X5.out.1.set HV5.out.nb HV5.out.new 0 (.string (tx nm))).set HV5.out.nb HV5.out.new 1 (.string (tx lb))).set HV5.out.nb HV5.out.new 2 (.int .i64 ((q : Int)))).set HV5.out.nb HV5.out.new 3 (.int .i64 (pp : Int)))
        have hv6 : OwB w _ b w3.heap.size #[.string (tx nm), .string (tx lb), .int .i64 ((q : Int)), .int .i64 (pp : Int)] 41 := (((HV5.out.set 0 (.string (tx nm))).set 1 (.string (tx lb))).set 2 (.int .i64 ((q : Int)))).set 3 (.int .i64 (pp : Int))
        have HV6 := Lib.hid hv6
        clear hwr hv6 HU5 HQ5 HV5 X5 d0 d1 d2 k0 k1 k2 k3 f0 f1 f2 f3 hg5 hg6 hg3
        generalize w3.heap.size = V at *
        go_wp2_with fail
        refine (psr_expect w0 _ b L s4.go [59] X6.out.r (by decide)).mono ?_
        rintro e7 w7 hr
        rcases X6.out.out hr with ⟨h7, hv, X7⟩ | ⟨h7, rfl, X7⟩
        case inr =>
          have hf := Lib.hid (congrArg Prod.snd hR3.out).symm
          clear hr
          go_wp2_with fail
          rw [hf.out]
          exact ⟨rfl, X7.out, .inr ⟨h7, rfl⟩⟩
        obtain rfl : e7 = _ := hv
        have HU7 := Lib.hid (HU6.out.keep X7.out.2)
        have HV7 := Lib.hid (HV6.out.keep X7.out.2)
        clear hr HU6 HV6 X6
        go_wp2_with (first | (refine wpList_load_row rfl 41 (.tmp 5) rfl V rfl _ _ _ _ HV7.out.z Tryd.underlying41 rfl (var_info ⟨nm, lb, (q : Int), pp⟩) ?_) | (refine wpList_store_row rfl 41 (.tmp 2) (.tmp 25) rfl U _ rfl rfl _ _ HU7.out.z (var_info ⟨nm, lb, (q : Int), pp⟩) rfl (var_ones ⟨nm, lb, (q : Int), pp⟩) ?_))
        try simp only [Exit.inBlock, Exit.then]
        refine bodyPost_ret (results_cell_row rfl _ _ U _ _ _ _ rfl (setRow_heap _ U _ _ _ _ HU7.out.z) Tryd.underlying41 rfl (var_info ⟨nm, lb, (q : Int), pp⟩)) rfl ?_
        have hR4 := hR3.out
        simp only [Bool.false_eq_true, if_false, if_true, Prod.mk.injEq, Vrb.mk.injEq] at hR4
        obtain ⟨⟨rfl, rfl, rfl, rfl⟩, rfl⟩ := hR4
        have XE := X7.out.1.setRow HU7.out.nb HU7.out.new #[.string (tx nm), .string (tx lb), .int .i64 ((q : Int)), .int .i64 (pp : Int)]
        exact ⟨XE.c, .inl ⟨h7, XE.r, rfl⟩⟩
    · have hnum : numQ L s4 = { s4 with e := 11, pos := (curT L s4).pos } := if_neg hk
      have NB2 := Lib.hid (fun w1 h1 => NB w1 b L s4 h1)
      rw [hnum] at NB2
      have hR3 := hR2.out
      rw [if_pos (.inr hk), failT, if_pos X3.out.r.e] at hR3
      have hf : Hid (R = { s4 with e := 11, pos := (curT L s4).pos }) := Lib.hid (congrArg Prod.snd hR3).symm
      clear NB HND hR2 hk hnum hR3
      refine wp_region_mp 99 (fun w1 w2 => w2.heap[Q]? = w1.heap[Q]?) (fun w => rfl) (fun h k => k.trans h) (fun c w' => Ends w0 w b L R (fun _ e => e = .returned (.agg #[.string (tx rn), .string (tx rl), .int .i64 ri, .int .i64 (rp : Int)])) (.panicked c) w') (fun c w' hc a' ha => ⟨ha, hc⟩) (.still 0 (.still 1 (.still 2 (.still 3 (.still 4 (.still 5 (.still 8 (.still 9 (.two 6 (.still 7 (.still 10 (.one 11 (.one 12 .done)))) 11 (.one 6 (.still 7 (.still 10 (.one 12 .done))))))))))))) (by kernel_rfl) (by kernel_rfl) ?_
      iterate 8
        refine wpWk_still rfl ?_ (fun w' hG K hK => ?_) (fun K hK => ?_)
        rotate_left
        · try
            have e0 := d0 w' hG
            have e1 := d1 w' hG
            have e2 := d2 w' hG
          unfold mvVal
          go_simp
          try exact hK
        go_simp
        refine hK _ ?_
        clear hK K
      refine wpWk_two rfl rfl (fun K hK => ?_) (fun K hK => ?_)
      · unfold mpRun
        go_simp
        simp only [mpUpon]
        refine (NB2.out _ XD.out.r).mono ?_
        rintro e5 w5 hr
        rcases XD.out.out hr with ⟨h5, hv, X5⟩ | ⟨h5, rfl, X5⟩
        · exact absurd h5 (show ¬ (11 : Int) = 0 by decide)
        exact .inr ⟨_, rfl, X5.out, .inr ⟨by rw [hf.out]; exact h5, by rw [hf.out]⟩⟩
      · unfold mpRun
        go_simp
        simp only [mpUpon]
        refine hK _ _ (.inr (heap_alloc_old _ _ HQ3.out.lt)) ?_
        clear hK K
        refine wpWk_one rfl (fun K hK => ?_)
        unfold mpRun
        go_simp
        simp only [mpUpon]
        refine (NB2.out _ XDA.out.r).mono ?_
        rintro e5 w5 hr
        rcases XDA.out.out hr with ⟨h5, hv, X5⟩ | ⟨h5, rfl, X5⟩
        · exact absurd h5 (show ¬ (11 : Int) = 0 by decide)
        exact .inr ⟨_, rfl, X5.out, .inr ⟨by rw [hf.out]; exact h5, by rw [hf.out]⟩⟩

end Go.Proofs.YtfcfbdemfbkgmaaDoor
