/- Restart of either disk beside the other. Numbers and types by name. -/
import Derived.Test.YthcdkggkoanjpaaGreatDoorSxf
import Derived.Test.YthcdkggkoanjpaaGreatDoorStf
import Derived.Test.YthcdkggkoanjpaaGreatDoorSti
import Derived.Test.YthcdkggkoanjpaaGreatDoorRu
import Derived.Test.YthcdkggkoanjpaaGreatDoorSpl
import Derived.Test.YthcdkggkoanjpaaGreatDoorRd
namespace Go.Proofs.YthcdkggkoanjpaaGreatDoor
open Go.RowKit Go.Lib
set_option maxRecDepth 100000
def opA : Opm := ⟨false, ⟨#[97]⟩, ⟨#[49]⟩⟩
theorem opA_mild : mild [opA] := ⟨by decide, by decide⟩
theorem opA_ok : okOps [opA] = true := by decide
theorem opA_find : findP (applyP [] [opA]) ⟨#[97]⟩ = (⟨#[49]⟩, true) := by decide +kernel
theorem commitS_zero {most : Int} {M : MD} {n : Nat} {s : Bool} {L : List Prm} {X : List Opm} (h : (commitP M n s X).e = 0) : (commitS most M n s L X).e = 0 := by
  unfold commitS
  rw [if_neg (by simp [h])]
  split <;> rfl
theorem still_restart (M : MD) (cap : Int) : Still8 (M.restart cap 0 false [] []) := ⟨rfl, Int.le_refl _, rfl⟩
theorem tot_open0 (cap : Int) (hc : cap ≤ 9223372036854775807) : tot (openS (MD.new cap 0 false [] [])).M.fs = 0 := by
  have h0 : Well 0 (MD.new cap 0 false [] []) 0 := well_new 0 cap 0 false [] [] hc (by simp) (by simp)
  have h1 := (well_openS h0).held.tot
  omega
theorem awake_st (M0 M3 : MD) (R1 R4 : SOpen) (R2 : SWrote) (e0 : M0 = MD.new 1000 0 false [] []) (e1 : R1 = openS M0) (e2 : R2 = commitS (max 100 0) R1.M R1.n false R1.L [opA]) (e3 : M3 = R2.M.restart 1000 0 false [] []) (e4 : R4 = openS M3) :
    OFit 440000 2000 10 M0 ∧ R1.e = 0 ∧ SFit 440000 2000 19 R1.M R1.n R1.L [opA] ∧ R2.e = 0 ∧ Lim R2.M ∧ OFit 440000 2000 37 M3 ∧ R4.e = 0 ∧ Slim R4.L ∧ findP R4.L ⟨#[97]⟩ = (⟨#[49]⟩, true) := by
  have p0 := pd_new 1000 0 false [] [] (by decide) (by simp) (by simp)
  rw [← e0] at p0
  have s0 : Still8 M0 := by rw [e0]; exact still_new _
  obtain ⟨c1, c2, c3⟩ := calm_open p0.dk s0
  obtain ⟨_, g1⟩ := pd_open p0 Meas.nil (fun h => absurd rfl h)
  obtain ⟨_, m, hm, k1⟩ := g1 c1
  have hmn : m = [] := by
    rcases hm with h | ⟨h, _⟩
    · exact h
    · exact absurd rfl h
  subst hmn
  rw [← e1] at c1 c2 c3 k1
  have hL1 : R1.L = [] := k1.sk.L
  have ht0 : tot R1.M.fs = 0 := by rw [e1, e0]; exact tot_open0 1000 (by decide)
  obtain ⟨d1, d2, d3, d4, d5⟩ := calm_commit k1.sk c2 [opA]
  have hsz := recs_size (L := [opA]) (by decide)
  have hsz2 : bulkO [opA] = 3 := by decide
  have hcm : (commitP R1.M R1.n false [opA]).e = 0 := by
    rcases d5 opA_ok with h | h
    · exact h.1
    · have := h.2
      rw [c3, e0, ht0] at this
      rw [hsz2] at hsz
      simp only [List.length_singleton] at hsz
      have hcap : (MD.new 1000 0 false [] []).cap = 1000 := rfl
      rw [hcap] at this
      omega
  have hR2 : R2.e = 0 := by rw [e2]; exact commitS_zero hcm
  obtain ⟨q1, _⟩ := ps_commit k1 (by decide) opA_mild (max 100 0)
  rw [← e2] at q1
  obtain ⟨S', B', k2, hL2⟩ := q1 hR2
  obtain ⟨t', p3, ht'⟩ := pd_restart k2.pd 1000 0 false [] [] (by decide) (by simp) (by simp)
  obtain rfl := ht' rfl
  rw [← e3] at p3
  have s3 : Still8 M3 := by rw [e3]; exact still_restart _ _
  obtain ⟨f1, _, _⟩ := calm_open p3.dk s3
  have hml : Meas 3 (applyAll S' B') := by rw [← k2.sk.L]; exact k2.ml.more (by decide)
  obtain ⟨_, g4⟩ := pd_open p3 hml (fun h => absurd rfl h)
  obtain ⟨_, m4, hm4, k4⟩ := g4 f1
  have hmn4 : m4 = B' := by
    rcases hm4 with h | ⟨h, _⟩
    · exact h
    · exact absurd rfl h
  subst hmn4
  rw [← e4] at f1 k4
  have hL4 : R4.L = applyP [] [opA] := by rw [k4.sk.L, ← k2.sk.L, hL1]
  refine ⟨p0.ofit (by decide) (by decide), c1, k1.sfit (by decide) opA_mild, hR2, well_limW room10 k2.well (by decide), p3.ofit (by decide) ?_, f1, k4.ml.slim (by decide), by rw [hL4]; exact opA_find⟩
  have := p3.ms.bulk
  omega
set_option maxHeartbeats 4000000 in
theorem awake_store {C : SP} {I : SI} (K : StK C I) (w : World) (ht : Tab w) : Calls Tryz.prog 12 #[] w fun e w' => e = .returned (.bool true) ∧ Below w.heap.size w w' := by
  obtain ⟨M0, e0⟩ : ∃ M, M = MD.new 1000 0 false [] [] := ⟨_, rfl⟩
  obtain ⟨R1, e1⟩ : ∃ R, R = openS M0 := ⟨_, rfl⟩
  obtain ⟨R2, e2⟩ : ∃ R, R = commitS (max 100 0) R1.M R1.n false R1.L [opA] := ⟨_, rfl⟩
  obtain ⟨M3, e3⟩ : ∃ M, M = R2.M.restart 1000 0 false [] [] := ⟨_, rfl⟩
  obtain ⟨R4, e4⟩ : ∃ R, R = openS M3 := ⟨_, rfl⟩
  have HP := Lib.hid (awake_st M0 M3 R1 R4 R2 e0 e1 e2 e3 e4)
  have HE := Lib.hid (And.intro e1 (And.intro e2 (And.intro e3 e4)))
  have HK := Lib.hid K
  have HT := Lib.hid ht
  have N0 := new_cd 1000 0 false (.slice none 0 0) (.slice none 0 0) [] [] w (Reads.nil w) (Reads.nil w) (by simp) (by simp)
  rw [← e0] at N0
  clear e0 e1 e2 e3 e4 K ht
  go_enter Tryz.func12, Tryz.ntmps12
  go_wp2_with fail
  refine N0.mono ?_
  rintro e w1 ⟨b, F1, rfl, hc1, t1⟩
  have H1 := Lib.hid (show SesD w w1 w.heap.size b M0 F1 from ⟨hc1, tg9 t1, Nat.le_refl _⟩)
  have O1 := sess_open HK.out 100 H1.out HT.out HP.out.1 (by rw [← HE.out.1]; exact HP.out.2.1)
  rw [← HE.out.1] at O1
  unfold theDisk at O1 ⊢
  unfold theSt at O1
  clear hc1 t1 N0
  go_wp2_with fail
  refine O1.mono ?_
  rintro e w2 ⟨x, rfl, F2, hs2, _⟩
  have H2 := Lib.hid hs2
  have C2 := sess_commit_one HK.out H2.out HT.out HP.out.2.2.1 (o := opA) ⟨by decide, by decide⟩
  rw [← HE.out.2.1] at C2
  unfold theSt at C2
  clear hs2 O1
  go_wp2_with (first | (go_at_call 17; refine (num_at _ _).mono ?_; rintro e w' ⟨rfl, rfl⟩) | (go_at_call 23; refine C2.mono ?_; rintro e w3 ⟨k3, rfl, hk3, F3, hs3, _⟩; replace hk3 : k3 = 0 := hk3.trans HP.out.2.2.2.1; subst hk3; have H3 := Lib.hid hs3; clear hs3))
  have D3 := sess_restart HK.out H3.out HP.out.2.2.2.2.1 1000 0 false
  rw [← HE.out.2.2.1] at D3
  unfold theDisk at D3
  clear C2
  refine D3.mono ?_
  rintro e w4 ⟨rfl, _, _, _, F4, hs4, _⟩
  have O4 := sess_open HK.out 100 hs4 HT.out HP.out.2.2.2.2.2.1 (by rw [← HE.out.2.2.2]; exact HP.out.2.2.2.2.2.2.1)
  rw [← HE.out.2.2.2] at O4
  unfold theDisk theSt at O4
  clear hs4 D3
  go_wp2_with fail
  refine O4.mono ?_
  rintro e w5 ⟨y, rfl, F5, hs5, _⟩
  have G5 := HK.out.get hs5.1 HP.out.2.2.2.2.2.2.2.1 ⟨#[97]⟩ (by decide)
  rw [HP.out.2.2.2.2.2.2.2.2] at G5
  unfold theSt at G5
  have H5 := Lib.hid hs5.2.1
  clear hs5 O4
  go_wp2_with (first | (go_at_call 17; refine (num_at _ _).mono ?_; rintro e w' ⟨rfl, rfl⟩) | (go_at_call 31; refine G5.mono ?_; rintro e w6 ⟨rfl, t6⟩; have H6 := Lib.hid t6; clear t6))
  go_ret
  exact ⟨rfl, H5.out.trans (tg9 H6.out)⟩
end Go.Proofs.YthcdkggkoanjpaaGreatDoor
namespace Go.Proofs.YthcdkggkoanjpaaGreatDoor
open Go.RowKit Go.Maps Go.Sort Go.WideMaps
set_option maxRecDepth 100000 in
set_option maxHeartbeats 4000000 in
theorem ref_restart (r : Nat) (M : MD) (F G : List Nat) (cap cr : Int) (dn : Bool) (fl kp : Value) (zs ks : List Int) (w : World) (h : RD w r M F G) (hl : Lim M) (hrf : Reads w fl (iv zs)) (hrk : Reads w kp (iv ks)) (P : List Nat)
    (hfP : zs ≠ [] → ∀ a n c, fl = .slice (some a) n c → a.block ∈ P) (hkP : ks ≠ [] → ∀ a n c, kp = .slice (some a) n c → a.block ∈ P) (hPd : ∀ q ∈ P, q ∉ F ∧ q < w.heap.size) :
    Calls Tryz.prog 19 #[theRef r, .agg #[.int .i64 cap, fl, .int .i64 cr, .bool dn, kp]] w fun e w' => e = .returned (.tuple #[]) ∧ RNext w w' r (M.restart cap cr dn zs ks) F G P := by
  obtain ⟨afl, cfl, rfl⟩ : ∃ ao c, fl = .slice ao zs.length c := by obtain ⟨ao, c, rfl, _⟩ := hrf; exact ⟨ao, c, by rw [iv_length]⟩
  obtain ⟨akp, ckp, rfl⟩ : ∃ ao c, kp = .slice ao ks.length c := by obtain ⟨ao, c, rfl, _⟩ := hrk; exact ⟨ao, c, by rw [iv_length]⟩
  have hlt := hl.fs.tot
  have hll := hl.fs.len
  have hfitM := h.1
  have hFlt := h.lt.1
  have tb : Turn [] w (w.alloc (.cells #[.int .i64 cap, (.slice afl zs.length cfl), .int .i64 cr, .bool dn, (.slice akp ks.length ckp)] 31)) := (Turn.refl [] w).alloc _
  have hbox := heap_alloc_new w (.cells #[.int .i64 cap, (.slice afl zs.length cfl), .int .i64 cr, .bool dn, (.slice akp ks.length ckp)] 31)
  have h1 := h.new tb
  have hbx : w.heap.size ∉ F := fun hm => by have := hFlt _ hm; omega
  obtain ⟨n, hn⟩ : ∃ n, n = M.fs.length := ⟨_, rfl⟩
  unfold theRef
  go_enter Tryz.func19, Tryz.ntmps19
  go_wp2_with fail
  have e1 : (w.alloc (.cells #[.int .i64 cap, (.slice afl zs.length cfl), .int .i64 cr, .bool dn, (.slice akp ks.length ckp)] 31)).heap.size = w.heap.size + 1 := by simp
  generalize w.alloc (.cells #[.int .i64 cap, (.slice afl zs.length cfl), .int .i64 cr, .bool dn, (.slice akp ks.length ckp)] 31) = w1 at *
  have HS := Lib.hid (And.intro h1 (And.intro tb (And.intro hbox (And.intro hbx (And.intro e1 (And.intro hfitM hn))))))
  have HA := Lib.hid (And.intro hrf (And.intro hrk (And.intro hfP (And.intro hkP (And.intro hPd h)))))
  have hln : n < 900000 := by omega
  clear h h1 tb hbox hbx e1 hfitM hrf hrk hfP hkP hPd hFlt hn
  go_loopw [4] (fun iv wr => ∃ j : Nat, j ≤ n ∧ iv = .int .i64 j ∧ Hid (∃ Gj, RD wr r { M with fs := resE M.keep M.fs j } F Gj ∧ (∀ q ∈ Gj, q ∈ G ∨ w.heap.size ≤ q) ∧ Turn F w1 wr))
    (fun iv _ => n - (intOf iv).toNat)
  case atStart => exact ⟨0, Nat.zero_le _, rfl, Lib.hid ⟨G, by rw [resE_zero]; exact HS.out.1, fun q hq => .inl hq, Turn.refl _ _⟩⟩
  case round =>
    obtain ⟨j, hj, rfl, hrel⟩ := hrel
    obtain ⟨Gj, hDj, hGj, tj⟩ := hrel.out
    clear hrel
    have HDj := Lib.hid (And.intro hDj (And.intro hGj tj))
    obtain ⟨hfit, s, ao, c, xs, hR, hP, hv, hown, hTe, hFF, hnn, hGd⟩ := hDj
    simp only [resE_length] at hv hown hTe hFF hnn
    have hnM := HS.out.2.2.2.2.2.2
    rw [← hnM] at hv hown hFF hnn
    have c5 := hR.c5
    rw [hv] at c5
    by_cases hlt2 : j < n
    · have h3 : (j : Int) < (n : Int) := by omega
      obtain ⟨x, hx⟩ : ∃ x, M.fs[j]? = some x := ⟨_, List.getElem?_eq_getElem (by omega)⟩
      have hxr := resE_at (keep := M.keep) hx
      obtain ⟨ab, cb, q1, q2, q3, hrb, hgb⟩ := hTe.2 j x hxr
      have hxl : xs.length = n * 3 := by rw [hTe.1, resE_length, ← hnM]
      obtain ⟨g, rfl, k2, f2⟩ := row_cell hown hxl q2
      obtain ⟨_, e, k3, f3⟩ := row_cell hown hxl q3
      cases e
      have c4 := hR.c4
      obtain ⟨ak, ck, hkv⟩ : ∃ ak ck, s.kp = .slice ak M.keep.length ck := by obtain ⟨a', c', e, _⟩ := hP.keep; exact ⟨a', c', by rw [e, iv_length]⟩
      rw [hkv] at c4
      have hkr : Reads wr (.slice ak M.keep.length ck) (iv M.keep) := by rw [← hkv]; exact hP.keep
      obtain ⟨kl, hkl⟩ : ∃ kl, kl = M.keep.length := ⟨_, rfl⟩
      rw [← hkl] at c4 hkr
      have hsy := HS.out.2.2.2.2.2.1.sy x (List.mem_of_getElem? hx)
      have hxt := tot_mem (List.mem_of_getElem? hx)
      obtain ⟨kq, hkq⟩ : ∃ kq, kq = M.keep.getD j 0 := ⟨_, rfl⟩
      obtain ⟨nv, hnv⟩ : ∃ nv : Nat, nv = min kq.toNat (x.2.1.length - x.2.2) := ⟨_, rfl⟩
      have hnle : nv ≤ x.2.1.length - x.2.2 := by omega
      have hgw := (hown.lt g rfl).2
      have hgr : g ≠ r := by rintro rfl; exact hnn rfl
      have HX := Lib.hid (And.intro hfit (And.intro hR (And.intro hP (And.intro hv (And.intro hown (And.intro hTe (And.intro hFF (And.intro hnn (And.intro hGd (And.intro hxr (And.intro hgw (And.intro hgr (And.intro hrb (And.intro hx (And.intro hkq hnv)))))))))))))))
      have u1 : IntKind.i64.wrap ((x.2.1.length : Int) - (x.2.2 : Int)) = ((x.2.1.length - x.2.2 : Nat) : Int) := by rw [IntKind.wrap_i64]; omega
      have u2 : max (0 : Int) (min kq ((x.2.1.length - x.2.2 : Nat) : Int)) = ((nv : Nat) : Int) := by omega
      obtain ⟨q, hq⟩ : ∃ q, q = x.2.2 + nv := ⟨_, rfl⟩
      have u3 : IntKind.i64.wrap ((x.2.2 : Int) + (nv : Int)) = (q : Int) := by rw [IntKind.wrap_i64]; omega
      have hqx : q ≤ x.2.1.length := by omega
      have hcb : x.2.1.length ≤ cb := by
        obtain ⟨_, _, e, h0, _⟩ := hrb
        simp only [Value.slice.injEq, bv_length] at e h0
        omega
      have HQ := Lib.hid hq
      have hrq : Reads wr (.slice ab q cb) (bv (x.2.1.take q)) := by have := Reads.taken hrb q hqx; rwa [show (bv x.2.1).take q = bv (x.2.1.take q) by simp [bv, List.map_take]] at this
      have HRQ := Lib.hid hrq
      have u0 : ¬ j < kl → nv = 0 := fun hjk => by
        rw [hnv, hkq, List.getD_eq_getElem?_getD, List.getElem?_eq_none (by omega)]
        simp
      have hL : ∀ W, Turn [] wr W → (∀ w', Grow W.drew w' → w'.cell? ⟨r, 5, none⟩ = some (.slice (some ⟨g, 0, none⟩) n c)) ∧ (∀ w', Grow W.drew w' → w'.cell? ⟨g, j * 3 + 1, none⟩ = some (.slice ab x.2.1.length cb)) ∧ (∀ w', Grow W.drew w' → w'.cell? ⟨g, j * 3 + 2, none⟩ = some (.int .i64 (x.2.2 : Nat))) ∧ (∀ w', Grow W.drew w' → w'.frozen? ⟨g, j * 3 + 1, none⟩ = false) := fun W tW => by
        have up : ∀ {a : Addr} {v : Value}, wr.cell? a = some v → ∀ w', Grow W.drew w' → w'.cell? a = some v := fun {a v} h w' hG => by
          have hlt := World.block_lt_of_cell? wr _ h
          exact (World.cell?_of_block (hG.block _ (Nat.lt_of_lt_of_le hlt tW.size))).trans ((World.cell?_of_block (tW.block _ hlt (by simp))).trans h)
        refine ⟨up c5, up k2, up k3, fun w' hG => ?_⟩
        exact (World.frozen?_of_block (hG.block _ (Nat.lt_of_lt_of_le hgw tW.size))).trans ((World.frozen?_of_block (tW.block _ hgw (by simp))).trans f2)
      clear hfit hR hP hv hown hTe hFF hnn hGd q1 q2 q3 hrb hgb hxr hgr hx hkv hnM hrq hq
      have z0 : (0 : Int) ≤ (q : Int) := by omega
      have z1 : (q : Int) ≤ (cb : Int) := by omega
      have z2 : q ≤ cb := by omega
      by_cases hjk : j < kl
      case' pos =>
        have hjk2 : (j : Int) < (kl : Int) := by omega
        obtain ⟨a, rfl, hkc⟩ := ints_at hkr (k := j) (by omega)
        rw [← hkq] at hkc
        clear hkr hkq hnv u0
        go_wp2_with fail
        go_quiet (fail)
        go_wp2_with fail
        clear hkc hjk2 u1 u2
        generalize hWe : wr.drewN nq = W
        have tW : Turn [] wr W := by rw [← hWe]; exact (Turn.refl [] wr).drewN nq
      case' neg =>
        have hjk2 : ¬ (j : Int) < (kl : Int) := by omega
        have u0' := u0 hjk
        have u3z : IntKind.i64.wrap (x.2.2 : Int) = (q : Int) := by rw [← u3, u0']; simp
        have u3y : IntKind.i64.wrap ((x.2.2 : Int) + 0) = (q : Int) := by rw [← u3, u0']; simp
        clear hkr hkq hnv u0 u0' u1 u2 u3
        go_wp2_with fail
        clear hjk2
        generalize hWe : wr = W
        have tW : Turn [] wr W := by rw [← hWe]; exact Turn.refl [] wr
      all_goals
        clear hWe
        obtain ⟨L5, L2, L3, LF⟩ := hL W tW
        refine wp_region_mvs 28 [(0, 5, true), (6, 19, true), (5, 1, false), (25, 1, false), (26, 1, false), (27, 1, false), (28, 1, false)] (by kernel_rfl) (by kernel_rfl) ?_
        simp only [mvAll, mvSeg, List.drop_succ_cons, List.drop_zero, List.cons_append, List.nil_append, Nat.reduceAdd]
        iterate 24
          refine wpLins_still ?_ (fun w' hG K hK => ?_) (fun K hK => ?_)
          rotate_left
          · unfold mvVal
            go_simp
            try exact hK
          go_simp
          refine hK _ ?_
          clear hK K
        refine wpLins_call (fun K hK => ?_)
        unfold mvRun
        go_simp
        simp only [mvUpon]
        refine hK _ _ ((Below.refl _ W.drew).alloc (Nat.le_refl _) _) ?_
        clear hK K
        have hrW : Reads W.drew (.slice ab q cb) (bv (x.2.1.take q)) := HRQ.out.turn (F := []) tW.drew (by simp)
        have F1 : Hid (q ≤ 1000000000) := Lib.hid (by omega)
        have HQL : Hid (q = (x.2.1.take q).length) := Lib.hid (by rw [List.length_take]; omega)
        refine wpLins_call (fun K hK => ?_)
        refine mvRun_clone rfl (.tmp 56) (.tmp 75) rfl wr.heap.size ⟨W.heap.size, 0, none⟩ (by simp [Act.eval]; rfl) (Bs.empty W.drew wr.heap.size tW.size) _ q (x.2.1.take q) HQL.out (by simp [Act.eval]; rfl) (hrW.alloc _) F1 (Nat.le_trans tW.size (by simp)) ?_
        intro ao5 cc5 w5 hown5 hg5
        refine hK _ _ hg5 ?_
        clear hK K
        have hb15 : Grow W.drew w5 := Grow.trans ((Below.refl _ W.drew).alloc (Nat.le_refl _) _) hg5
        have k25 := L2 w5 hb15
        have f25 := LF w5 hb15
        iterate 2
          refine wpLins_call (fun K hK => ?_)
          unfold mvRun
          go_simp
          simp only [mvUpon]
          refine hK _ _ (Grow.refl _) ?_
          clear hK K
        refine wpLins_last (fun K hK => ?_)
        unfold mvRun
        go_simp
        simp only [mvUpon]
        refine hK _ _ ?_
        clear hK K
        refine wpLins_nil ?_
        have hb5r : Below wr.heap.size wr w5 := ⟨hb15.os.trans tW.os, hb15.tape.trans tW.tape, hb15.output.trans tW.output, Nat.le_trans tW.size hb15.size, fun k hk => (hb15.block k (Nat.lt_of_lt_of_le hk tW.size)).trans (tW.block k hk (by simp))⟩
        obtain ⟨hfit, hR, hP, hv, hown, hTe, hFF, hnn, hGd, hxr, hgw, hgr, hrb, hx, hkq, hnv⟩ := HX.out
        have hsv : survE (M.keep.getD j 0) x = (x.1, x.2.1.take q, q) := by unfold survE; rw [← hkq, ← hnv, ← HQ.out]
        have hset := resE_set (keep := M.keep) hx
        rw [hsv] at hset
        have hRO := RD.rounded (M := { M with fs := resE M.keep M.fs j }) (j := j) (q := q) (c5 := cc5) (ao5 := ao5) (x := x) hR hP hv (by show n = (resE M.keep M.fs j).length; rw [resE_length]; exact HS.out.2.2.2.2.2.2) (by rw [hFF]; rfl) hgr hGd hown hTe hxr (by rw [hset]; exact HS.out.2.2.2.2.2.1.res M.keep (j + 1)) hqx hb5r hown5
        obtain ⟨hR6, d2, d3, g3, G2, hD2, hG2, t2⟩ := hRO
        simp only [hset] at hD2
        have d5 := hR6.c5
        rw [hv] at d5
        have HRO := Lib.hid (And.intro hD2 (And.intro hG2 t2))
        clear hfit hR hP hv hown hTe hFF hnn hGd hxr hgw hgr hrb hx hkq hnv hb5r hR6 hD2 hG2 t2 hsv hset hown5 hg5 hb15 k25 f25 L5 L2 L3 LF tW hrW
        go_wp2_with fail
        generalize w5.setCell ⟨g, j * 3 + 1, none⟩ (.slice ao5 q cc5) = w6 at *
        go_still_tail 16, (by kernel_rfl)
        change wpList _ _ _ _ _ w6.drew
        go_wp2_with fail
        obtain ⟨hD2, hG2, t2⟩ := HRO.out
        obtain ⟨_, hGj, tj⟩ := HDj.out
        refine ⟨⟨j + 1, by omega, by simp, Lib.hid ⟨G2, hD2, fun k hk => ?_, tj.trans (t2.mono fun k hk => ?_)⟩⟩, by simp [intOf]; omega⟩
        · rcases hG2 k hk with h | h
          · exact hGj k h
          · have := tj.size
            have := HS.out.2.2.2.2.1
            exact .inr (by omega)
        · simp only [List.mem_singleton] at hk
          subst hk
          have hFF := HX.out.2.2.2.2.2.2.1
          rw [hFF]
          simp [own_block]
    · have h3 : ¬ (j : Int) < (n : Int) := by omega
      obtain rfl : j = n := by omega
      have hbr := (HDj.out.2.2).heap HS.out.2.2.1 HS.out.2.2.2.1
      have b0 := cells_of hbr 0 (.int .i64 cap) rfl
      have b1 := cells_of hbr 1 (.slice afl zs.length cfl) rfl
      have b2 := cells_of hbr 2 (.int .i64 cr) rfl
      have b3 := cells_of hbr 3 (.bool dn) rfl
      have b4 := cells_of hbr 4 (.slice akp ks.length ckp) rfl
      have c0 := hR.c0
      have c1 := hR.c1
      have c2 := hR.c2
      have c3 := hR.c3
      have c4 := hR.c4
      have c6 := hR.c6
      have c7 := hR.c7
      have e0 := hR.free 0
      have e1 := hR.free 1
      have e2 := hR.free 2
      have e3 := hR.free 3
      have e4 := hR.free 4
      have e6 := hR.free 6
      have e7 := hR.free 7
      have HX := Lib.hid (And.intro hfit (And.intro hR (And.intro hP (And.intro hv (And.intro hown (And.intro hTe (And.intro hFF (And.intro hnn hGd))))))))
      clear hfit hR hP hv hown hTe hFF hnn hGd hbr hGj tj hnM
      go_wp2_with fail
      go_end0
      obtain ⟨hfit, hR, hP, hv, hown, hTe, hFF, hnn, hGd⟩ := HX.out
      obtain ⟨_, hGj, tj⟩ := HDj.out
      obtain ⟨hrf, hrk, hfP, hkP, hPd, hD0⟩ := HA.out
      have hR9 : RefC (((((((wr.setCell ⟨r, 0, none⟩ (.int .i64 cap)).setCell ⟨r, 1, none⟩ (.slice afl zs.length cfl)).setCell ⟨r, 2, none⟩ (.int .i64 cr)).setCell ⟨r, 3, none⟩ (.bool dn)).setCell ⟨r, 4, none⟩ (.slice akp ks.length ckp)).setCell ⟨r, 6, none⟩ (.int .i64 0)).setCell ⟨r, 7, none⟩ (.bool false)) r { cap := cap, fl := .slice afl zs.length cfl, cr := cr, dn := dn, kp := .slice akp ks.length ckp, fv := s.fv, n := 0, dw := false } := by
        have := heap_set (heap_set (heap_set (heap_set (heap_set (heap_set (heap_set hR 0 (.int .i64 cap)) 1 (.slice afl zs.length cfl)) 2 (.int .i64 cr)) 3 (.bool dn)) 4 (.slice akp ks.length ckp)) 6 (.int .i64 0)) 7 (.bool false)
        simpa [RefC, RS.cells] using this
      have t9 : Turn [r] wr (((((((wr.setCell ⟨r, 0, none⟩ (.int .i64 cap)).setCell ⟨r, 1, none⟩ (.slice afl zs.length cfl)).setCell ⟨r, 2, none⟩ (.int .i64 cr)).setCell ⟨r, 3, none⟩ (.bool dn)).setCell ⟨r, 4, none⟩ (.slice akp ks.length ckp)).setCell ⟨r, 6, none⟩ (.int .i64 0)).setCell ⟨r, 7, none⟩ (.bool false)) :=
        (((((((Turn.refl [r] wr).set (.inl (by simp)) _ _).set (.inl (by simp)) _ _).set (.inl (by simp)) _ _).set (.inl (by simp)) _ _).set (.inl (by simp)) _ _).set (.inl (by simp)) _ _).set (.inl (by simp)) _ _
      have hrF : r ∈ F := by rw [hFF]; simp
      have t01 := HS.out.2.1
      have hnM := HS.out.2.2.2.2.2.2
      have hsz1 := t01.size
      have hszj := tj.size
      have tw : Turn F w wr := (t01.mono (by simp)).trans tj
      have tw9 := tw.trans (t9.mono fun k hk => by simp only [List.mem_singleton] at hk; rw [hk]; exact hrF)
      have hPr : ∀ q ∈ P, q ∉ [r] := fun q hq hm => (hPd q hq).1 (by simp only [List.mem_singleton] at hm; rw [hm]; exact hrF)
      have hGr : ∀ q ∈ Gj, q ∉ [r] := fun q hq hm => (hGd q hq).1 (by simp only [List.mem_singleton] at hm; rw [hm]; exact hrF)
      have hml : (M.restart cap cr dn zs ks).fs.length = j := by simp only [MD.restart, resE_length]; omega
      have hmf : (M.restart cap cr dn zs ks).fs = resE M.keep M.fs j := by simp only [MD.restart]; rw [← hnM]
      refine ⟨rfl, F, Gj ++ P, ⟨by rw [hmf]; exact hfit, _, ao, c, xs, hR9, ⟨rfl, rfl, rfl, rfl, rfl, ?_, ?_, fun hne a n c e => List.mem_append_right _ (hfP hne a n c e), fun hne a n c e => List.mem_append_right _ (hkP hne a n c e), by show (0 : Int) ≤ 0; omega⟩, ?_, ?_, ?_, ?_, ?_, fun q hq => ?_⟩, fun q hq => .inl hq, fun q hq => ?_, tw9⟩
      · exact (hrf.turn tw fun hne a n c e => (hPd _ (hfP (by intro e2; rw [e2] at hne; exact hne rfl) a n c e)).1).turn t9 fun hne a n c e => hPr _ (hfP (by intro e2; rw [e2] at hne; exact hne rfl) a n c e)
      · exact (hrk.turn tw fun hne a n c e => (hPd _ (hkP (by intro e2; rw [e2] at hne; exact hne rfl) a n c e)).1).turn t9 fun hne a n c e => hPr _ (hkP (by intro e2; rw [e2] at hne; exact hne rfl) a n c e)
      · rw [hml]; exact hv
      · rw [hml]
        exact owns_turn hown t9 (fun g hg => by simp only [List.mem_singleton]; rintro rfl; exact hnn hg)
      · rw [hmf]
        exact (hTe.turn t9 hGr).more fun k hk => List.mem_append_left _ hk
      · rw [hml]; exact hFF
      · rw [hml]; exact hnn
      · rcases List.mem_append.1 hq with hq | hq
        · exact ⟨(hGd q hq).1, Nat.lt_of_lt_of_le (hGd q hq).2 t9.size⟩
        · exact ⟨(hPd q hq).1, Nat.lt_of_lt_of_le (hPd q hq).2 tw9.size⟩
      · rcases List.mem_append.1 hq with hq | hq
        · exact (hGj q hq).imp id .inr
        · exact .inr (.inl hq)
end Go.Proofs.YthcdkggkoanjpaaGreatDoor
namespace Go.Proofs.YthcdkggkoanjpaaGreatDoor
open Go.RowKit Go.Maps Go.Sort Go.WideMaps
theorem code_restart {X : Nat → Prop} {w : World} {base b r : Nat} {M M2 : MD} (h : Both X w base b r M M2) (hl : Lim M) (cap cr : Int) (dn : Bool) (fl kp : Value) (zs ks : List Int) (hf : Reads w fl (iv zs)) (hk : Reads w kp (iv ks))
    (hfX : zs ≠ [] → ∀ a n c, fl = .slice (some a) n c → X a.block) (hkX : ks ≠ [] → ∀ a n c, kp = .slice (some a) n c → X a.block) (hz : zs.length ≤ 200) (hz2 : ks.length ≤ 200) :
    Calls Tryz.prog 18 #[theDisk b, .agg #[.int .i64 cap, fl, .int .i64 cr, .bool dn, kp]] w fun e w' => e = .returned (.tuple #[]) ∧ Both X w' base b r (M.restart cap cr dn zs ks) M2 ∧ Stays X w w' := by
  obtain ⟨h0, Fd, Fr, G, h1, h2, h3, h4⟩ := h
  refine (restart_cd base b M Fd cap cr dn fl kp zs ks w h1 hl hf hk (fun hz a n c e hm => (h3 _ hm).2.2 (hfX hz a n c e)) (fun hz a n c e hm => (h3 _ hm).2.2 (hkX hz a n c e)) (by omega) (by omega)).mono ?_
  rintro e w' ⟨rfl, hn⟩
  exact ⟨rfl, Both.code h0 h2 h3 h4 hn⟩
theorem blocks_of (X : Nat → Prop) (v : Value) (zs : List Int) (hX : zs ≠ [] → ∀ a n c, v = .slice (some a) n c → X a.block) : ∃ P : List Nat, (zs ≠ [] → ∀ a n c, v = .slice (some a) n c → a.block ∈ P) ∧ ∀ q ∈ P, X q := by
  by_cases hz : zs = []
  · exact ⟨[], fun h => absurd hz h, by simp⟩
  · by_cases hv : ∃ a n c, v = .slice (some a) n c
    · obtain ⟨a, n, c, rfl⟩ := hv
      exact ⟨[a.block], fun _ a' n' c' e => by cases e; simp, fun q hq => by simp only [List.mem_singleton] at hq; subst hq; exact hX hz a n c rfl⟩
    · exact ⟨[], fun _ a n c e => absurd ⟨a, n, c, e⟩ hv, by simp⟩
theorem ref_restart_both {X : Nat → Prop} {w : World} {base b r : Nat} {M M1 : MD} (h : Both X w base b r M1 M) (hl : Lim M) (cap cr : Int) (dn : Bool) (fl kp : Value) (zs ks : List Int) (hf : Reads w fl (iv zs)) (hk : Reads w kp (iv ks))
    (hfX : zs ≠ [] → ∀ a n c, fl = .slice (some a) n c → X a.block) (hkX : ks ≠ [] → ∀ a n c, kp = .slice (some a) n c → X a.block) :
    Calls Tryz.prog 19 #[theRef r, .agg #[.int .i64 cap, fl, .int .i64 cr, .bool dn, kp]] w fun e w' => e = .returned (.tuple #[]) ∧ Both X w' base b r M1 (M.restart cap cr dn zs ks) ∧ Stays X w w' := by
  obtain ⟨h0, Fd, Fr, G, h1, h2, h3, h4⟩ := h
  obtain ⟨P1, p1, q1⟩ := blocks_of X fl zs hfX
  obtain ⟨P2, p2, q2⟩ := blocks_of X kp ks hkX
  have hPX : ∀ q ∈ P1 ++ P2, X q := fun q hq => by
    rcases List.mem_append.1 hq with h | h
    · exact q1 q h
    · exact q2 q h
  refine (ref_restart r M Fr G cap cr dn fl kp zs ks w h2 hl hf hk (P1 ++ P2) (fun hz a n c e => List.mem_append.2 (.inl (p1 hz a n c e))) (fun hz a n c e => List.mem_append.2 (.inr (p2 hz a n c e))) (fun q hq => ⟨fun hm => h4 q hm (hPX q hq), h0 q (hPX q hq)⟩)).mono ?_
  rintro e w' ⟨rfl, hn⟩
  exact ⟨rfl, Both.refd h0 h1 h2 h3 h4 hPX hn⟩
end Go.Proofs.YthcdkggkoanjpaaGreatDoor
