/- The code's store: Open. Numbers and types by name. -/
import Derived.Test.YthcdkggkoanjpaaGreatDoorSnt
import Derived.Test.YthcdkggkoanjpaaGreatDoorSxb
import Derived.Test.YthcdkggkoanjpaaGreatDoorPun
import Derived.Shelf.SlSortCmp.KitK
import Derived.Lib.Bytealg
import Derived.Sort.Grow
import Derived.Lib.AppendZerosOnto
import Derived.Lib.SliceRun
import Derived.Shelf.SlSortCmp.QuietGrown
import Derived.WalkMore
import Derived.Test.YthcdkggkoanjpaaGreatDoorTro
namespace Go.Proofs.YthcdkggkoanjpaaGreatDoor
open Go.RowKit Go.Lib
set_option maxRecDepth 100000
theorem checkS_fell {M : MD} {n : Nat} {L : List Prm} (h : (saveT M L).1 ≠ 0) : checkS M n false L = ⟨(saveT M L).1, (saveT M L).2, n, false, L⟩ := by
  unfold checkS
  rw [if_neg (by simp), if_pos h]
theorem checkS_went {M : MD} {n : Nat} {L : List Prm} (h : (saveT M L).1 = 0) : checkS M n false L = ⟨(resetP (saveT M L).2 n false).e, (resetP (saveT M L).2 n false).M, (resetP (saveT M L).2 n false).n, (resetP (saveT M L).2 n false).s, L⟩ := by
  unfold checkS
  rw [if_neg (by simp), if_neg (by simp [h])]
theorem fit2_check {M : MD} {n : Nat} {L : List Prm} (h : Fit2 M n false) (hr : Rising M.fs) (h0 : (saveT M L).1 = 0) : Fit2 (resetP (saveT M L).2 n false).M (resetP (saveT M L).2 n false).n (resetP (saveT M L).2 n false).s := (fits_reset (fits_save h hr h0)).two
def One1 (x : Nat) (a c : World) : Prop := x < a.heap.size → c.heap[x]? = a.heap[x]? ∧ a.heap.size ≤ c.heap.size
theorem One1.refl (x : Nat) (a : World) : One1 x a a := fun _ => ⟨rfl, Nat.le_refl _⟩
theorem One1.trans {x : Nat} {a b c : World} (h : One1 x a b) (k : One1 x b c) : One1 x a c := fun h1 => by
  have h2 := h h1
  have h3 := k (Nat.lt_of_lt_of_le h1 h2.2)
  exact ⟨h3.1.trans h2.1, Nat.le_trans h2.2 h3.2⟩
set_option maxHeartbeats 4000000 in
theorem CSt_check {w : World} {base b x : Nat} {M : MD} {n : Nat} {s : Bool} {L : List Prm} {most : Int} {F : List Nat} (h : CSt w base b x M n s L most F) (hs : Slim L) {K J j : Nat} (hw : Well K M j) (hj : j + 5 ≤ J) (hR : RoomW K J) (hK : (bytesT L).length ≤ K) :
    Calls Tryz.prog 20 #[theSt x] w (Left fun k w' => k = (checkS M n s L).e ∧ SNext CSt w w' base b x (checkS M n s L).M (checkS M n s L).n (checkS M n s L).s L most F) := by
  have PS := CSt_sick h
  cases s with
  | true =>
    have e : checkS M n true L = ⟨8, M, n, true, L⟩ := by
      unfold checkS
      rw [if_pos rfl]
    rw [e]
    have HN := Lib.hid h
    clear h hs hw hj hR hK e
    unfold theSt at PS ⊢
    go_enter Tryz.func20, Tryz.ntmps20
    go_wp2_with fail
    go_step3
    go_wp2_with fail
    go_step3
    go_wp2_with fail
    refine PS.mono ?_
    rintro e w1 ⟨rfl, t⟩
    have HQ : Hid (SNext CSt w w1 base b x M n true L most F) := Lib.hid (HN.out.next.new t)
    clear PS t
    go_wp2_with fail
    try rw [Exit.noGoto_ret]
    go_ret
    exact ⟨8, rfl, rfl, HQ.out⟩
  | false =>
    obtain ⟨q, i, Fd, Fi, h, rfl⟩ := h
    have HN := Lib.hid h
    have HW := Lib.hid (And.intro hs (And.intro hw (And.intro hj (And.intro hR hK))))
    have HWS := Lib.hid (And.intro (well_saveT hw hK) (And.intro hj hR))
    obtain ⟨e1, he1⟩ : ∃ e1, e1 = (saveT M L).1 := ⟨_, rfl⟩
    obtain ⟨M1, hM1⟩ : ∃ M1, M1 = (saveT M L).2 := ⟨_, rfl⟩
    have HF0 : Hid (e1 ≠ 0 → checkS M n false L = ⟨e1, M1, n, false, L⟩) := Lib.hid fun h0 => by rw [he1, hM1]; exact checkS_fell (by rw [← he1]; exact h0)
    have HF1 : Hid (e1 = 0 → checkS M n false L = ⟨(resetP M1 n false).e, (resetP M1 n false).M, (resetP M1 n false).n, (resetP M1 n false).s, L⟩ ∧ Fits M1 n false ∧ Fit2 (resetP M1 n false).M (resetP M1 n false).n (resetP M1 n false).s) := Lib.hid fun h0 => by
      rw [he1] at h0
      rw [hM1]
      exact ⟨checkS_went h0, fits_save h.fit hw.up h0, fit2_check h.fit hw.up h0⟩
    have HFM : Hid (Fit2 M1 n false) := Lib.hid (by rw [hM1]; exact fit2_save h.fit hw.up L)
    have HS : Hid (∀ (w' : World) (v : Value) (m : Nat), CD w' base b M Fd → Prr w' v m L → Calls Tryz.prog 44 #[theDisk b, v] w' (Left fun k w2 => k = e1 ∧ Next w' w2 base b M1 Fd)) := Lib.hid fun w' v m hc hp => by
      rw [he1, hM1]
      exact save_cdS base b M Fd v m L w' hc hp hs hw hj hR hK
    rw [← hM1] at HWS
    unfold theSt at PS ⊢
    clear h hs hw hj hR hK he1 hM1
    go_enter Tryz.func20, Tryz.ntmps20
    go_wp2_with fail
    go_step3
    go_wp2_with fail
    go_step3
    go_wp2_with fail
    refine PS.mono ?_
    rintro e w0 ⟨rfl, t0⟩
    have hS0 := HN.out.keep t0 (by simp)
    have H0 := Lib.hid (And.intro hS0 t0)
    have hxl : x < w0.heap.size := lt_of hS0.cell
    have u0 : ∀ w', One1 x w0.drew w' → w'.cell? ⟨x, 0, none⟩ = some (theDisk b) := fun w' hg => by
      rw [World.cell?_of_block (w := w0) (w' := w') (hg hxl).1]; exact stob_0 hS0.cell
    have u1 : ∀ w', One1 x w0.drew w' → w'.cell? ⟨x, 2, none⟩ = some (theIx i) := fun w' hg => by
      rw [World.cell?_of_block (w := w0) (w' := w') (hg hxl).1]; exact stob_2 hS0.cell
    have PA := Lib.hid (ix_all2 (w := w0.drew) (ix_kept.keep hS0.ix ((Turn.refl [] w0).drew) (by simp)) (fineW_of hS0.rise (by have := HW.out.1.1; omega)))
    have HXL := Lib.hid hxl
    unfold theDisk at u0
    unfold theIx at u1
    clear PS t0 hS0 hxl
    go_wp2_with fail
    refine wp_region_mvg (One1 x) (One1.refl x) One1.trans [(0, 8, true), (8, 1, false), (9, 1, false), (10, 1, true)] (by kernel_rfl) (by kernel_rfl) ?_
    simp only [mvAll, mvSeg, List.drop_succ_cons, List.drop_zero, List.cons_append, List.nil_append, Nat.reduceAdd]
    iterate 8
      refine wpLing_still ?_ (fun w' hG K hK => ?_) (fun K hK => ?_)
      rotate_left
      · have v0 := u0 w' hG
        have v1 := u1 w' hG
        clear hG
        unfold mvVal
        go_simp
        try exact hK
      go_simp
      refine hK _ ?_
      clear hK K
    clear u0 u1
    refine wpLing_call (fun K hK => ?_)
    unfold mvRun
    go_simp
    simp only [mvUpon]
    have PA := PA.out
    unfold theIx at PA
    refine PA.mono ?_
    rintro e w1 ⟨ao, m, c, rfl, hp, hf, t⟩
    refine ⟨_, rfl, ?_⟩
    go_simp
    have H1 : Hid (SC w1 base b x q i M n false L most Fd Fi ∧ Turn [] w w1 ∧ Prr w1 (.slice ao m c) m L) := Lib.hid ⟨H0.out.1.keep (((Turn.refl [] w0).drew).trans t) (by simp), (H0.out.2.drew).trans t, hp⟩
    refine hK _ _ (fun hx => ⟨t.block x hx (by simp), t.size⟩) ?_
    clear hK K hp hf t PA
    refine wpLing_call (fun K hK => ?_)
    unfold mvRun
    go_simp
    simp only [mvUpon]
    have HSV := HS.out w1 _ _ H1.out.1.log.1 H1.out.2.2
    unfold theDisk at HSV
    refine HSV.mono ?_
    rintro e w2 ⟨k1, rfl, rfl, hn⟩
    refine ⟨_, rfl, ?_⟩
    go_simp
    have H2 : Hid (SNext CSt w w2 base b x M1 n false L most (stF x q Fd Fi)) := Lib.hid (SNext.cat (fun _ hk => .inl hk) H1.out.2.1.nil_any (H1.out.1.disk_next hn HFM.out))
    refine hK _ _ (fun hx => ?_) ?_
    · obtain ⟨_, _, _, t2⟩ := hn
      exact ⟨t2.block x hx H1.out.1.xd, t2.size⟩
    clear hK K hn HSV HS
    refine wpLing_still ?_ (fun w' hG K hK => ?_) (fun K hK => ?_)
    rotate_left
    · unfold mvVal
      go_simp
      try exact hK
    go_simp
    refine hK _ ?_
    clear hK K
    refine wpLing_nil ?_
    by_cases he : k1 = 0
    · subst he
      obtain ⟨hf1, hf2, hf3⟩ := HF1.out rfl
      obtain ⟨F1, ⟨q1, i1, Fd1, Fi1, hS1, rfl⟩, hF1, t1⟩ := H2.out
      have c1 := stob_1 hS1.cell
      have RS1 := wal_reset base b q1 M1 n false Fd1 w2 (hS1.log.w hf2) (well_limW HWS.out.2.2 HWS.out.1 HWS.out.2.1)
      have HX := Lib.hid (And.intro hS1 (And.intro hF1 (And.intro t1 (And.intro hf1 hf3))))
      clear hS1 hF1 t1 hf1 hf2 hf3
      go_wp2_with fail
      refine RS1.mono ?_
      rintro e w3 ⟨k, rfl, rfl, hn⟩
      have HN2 := Lib.hid hn
      clear hn RS1
      go_wp2_with fail
      try rw [Exit.noGoto_ret]
      go_ret
      rw [HX.out.2.2.2.1]
      refine ⟨_, rfl, rfl, SNext.cat HX.out.2.1 HX.out.2.2.1 (HX.out.1.log_next ?_ HX.out.2.2.2.2)⟩
      obtain ⟨F3, k1, k2, k3⟩ := HN2.out
      exact ⟨F3, k1.v, k2, k3⟩
    · have HQ := Lib.hid (HF0.out he)
      go_wp2_with fail
      try rw [Exit.noGoto_ret]
      go_ret
      rw [HQ.out]
      exact ⟨_, rfl, rfl, H2.out⟩
end Go.Proofs.YthcdkggkoanjpaaGreatDoor
namespace Go.Proofs.YthcdkggkoanjpaaGreatDoor
open Go.RowKit Go.Lib
set_option maxRecDepth 100000
set_option maxHeartbeats 4000000 in
theorem CSt_commit {w : World} {base b x : Nat} {M : MD} {n : Nat} {s : Bool} {L : List Prm} {most : Int} {F : List Nat} (h : CSt w base b x M n s L most F) (ht : Tab w) {K J j : Nat} {X : List Opm} (hf : SFit K J j M n L X) (vo : Value) (m : Nat) (ho : ∀ w', Turn F w w' → Opr w' vo m X) (_hm : m ≤ 5000) :
    Calls Tryz.prog 23 #[theSt x, vo] w (Left fun k w' => k = (commitS most M n s L X).e ∧ SNext CSt w w' base b x (commitS most M n s L X).M (commitS most M n s L X).n (commitS most M n s L X).s (commitS most M n s L X).L most F) := by
  have h0 := ho w (Turn.refl _ _)
  obtain ⟨ao, c, rfl⟩ := h0.shape
  obtain ⟨q, i, Fd, Fi, h, rfl⟩ := h
  have c1 := stob_1 h.cell
  have P1 := wal_commit_u base b q M n s Fd _ m X w h.log h.fit ht h0 hf.x hf.well (by have := hf.j; omega) hf.room hf.xK hf.n
  have hap : applyP L X = X.foldl stepP L := by
    unfold applyP
    rw [base_rise h.rise]
  have hwl := well_commit hf.well n s X hf.xK
  have hf2 := fit2_commit h.fit X
  obtain ⟨W, hW⟩ : ∃ W, W = commitP M n s X := ⟨_, rfl⟩
  have HB := Lib.hid (commitS_bad (most := most) (L := L) hW)
  have HC := Lib.hid (commitS_few (most := most) (L := L) hW)
  have HD := Lib.hid (commitS_many (most := most) (L := L) hW)
  rw [← hW] at P1 hwl hf2
  have HN := Lib.hid (And.intro h (And.intro ho (And.intro hwl hf2)))
  have HF := Lib.hid hf
  have HAP := Lib.hid hap
  clear h0 h ho ht hf hwl hf2 hap hW
  unfold theSt
  go_enter Tryz.func23, Tryz.ntmps23
  go_wp2_with fail
  refine P1.mono ?_
  rintro e w1 ⟨k1, rfl, hk1, hn⟩
  have H1 : Hid (SNext CSt w w1 base b x W.M W.n W.s L most (stF x q Fd Fi)) := Lib.hid (HN.out.1.log_next hn HN.out.2.2.2)
  have HK1 := Lib.hid hk1
  clear hn hk1 P1 c1
  by_cases he : k1 = 0
  · subst he
    obtain ⟨F1, hC1, hF1, t1⟩ := H1.out
    have PA := CSt_apply hC1 _ m X (fun w' t => HN.out.2.1 w' (t1.trans' t hF1)) (by
      have := HF.out.x
      have := HF.out.sl.1
      omega)
    rw [← HAP.out] at PA
    have HF1 := Lib.hid (And.intro hF1 t1)
    unfold theSt at PA
    clear hC1 hF1 t1 H1
    go_wp2_with fail
    refine PA.mono ?_
    rintro e w2 ⟨rfl, hn⟩
    have H2 : Hid (SNext CSt w w2 base b x W.M W.n W.s (applyP L X) most (stF x q Fd Fi)) := Lib.hid (SNext.cat HF1.out.1 HF1.out.2 hn)
    clear hn PA HF1
    obtain ⟨F2, ⟨q2, i2, Fd2, Fi2, hS2, rfl⟩, hF2, t2⟩ := H2.out
    have hS3 := hS2.keep ((Turn.refl [] w2).drew) (by simp)
    have hxl : x < w2.heap.size := lt_of hS2.cell
    have u0 : ∀ w', One1 x w2.drew w' → w'.cell? ⟨x, 1, none⟩ = some (.pointer (some ⟨q2, 0, none⟩)) := fun w' hg => by
      rw [World.cell?_of_block (w := w2) (w' := w') (hg hxl).1]; exact stob_1 hS2.cell
    have u1 : ∀ w', One1 x w2.drew w' → w'.cell? ⟨x, 3, none⟩ = some (.int .i64 most) := fun w' hg => by
      rw [World.cell?_of_block (w := w2) (w' := w') (hg hxl).1]; exact stob_3 hS2.cell
    have PZ := Lib.hid (wal_size b q2 W.n W.s w2.drew hS3.log.2.2)
    have HS3 := Lib.hid (And.intro (show CSt w2.drew base b x W.M W.n W.s (applyP L X) most (stF x q2 Fd2 Fi2) from ⟨q2, i2, Fd2, Fi2, hS3, rfl⟩) (And.intro hF2 t2.drew))
    clear hS2 hF2 t2 hS3 hxl H2
    go_wp2_with fail
    refine wp_region_mvg (One1 x) (One1.refl x) One1.trans [(0, 4, true), (5, 4, true), (4, 1, false), (9, 1, true)] (by kernel_rfl) (by kernel_rfl) ?_
    simp only [mvAll, mvSeg, List.drop_succ_cons, List.drop_zero, List.cons_append, List.nil_append, Nat.reduceAdd]
    iterate 8
      refine wpLing_still ?_ (fun w' hG K hK => ?_) (fun K hK => ?_)
      rotate_left
      · have v0 := u0 w' hG
        have v1 := u1 w' hG
        clear hG
        unfold mvVal
        go_simp
        try exact hK
      go_simp
      refine hK _ ?_
      clear hK K
    clear u0 u1
    refine wpLing_call (fun K hK => ?_)
    unfold mvRun
    go_simp
    simp only [mvUpon]
    refine PZ.out.mono ?_
    rintro e w3 ⟨rfl, rfl⟩
    refine ⟨_, rfl, ?_⟩
    go_simp
    refine hK _ _ (One1.refl x _) ?_
    clear hK K PZ
    obtain ⟨n2, hn2⟩ : ∃ n2, n2 = W.n := ⟨_, rfl⟩
    rw [← hn2]
    by_cases hmo : most < (n2 : Int)
    · have HQ := Lib.hid (HD.out HK1.out.symm (by rw [← hn2]; exact hmo))
      have PC := CSt_check HS3.out.1 HF.out.sl2 HN.out.2.2.1 (by have := HF.out.j; omega) HF.out.room HF.out.sK
      unfold theSt at PC
      clear hn2
      refine wpLing_still ?_ (fun w' hG K hK => ?_) (fun K hK => ?_)
      rotate_left
      · unfold mvVal
        go_simp
        try exact hK
      go_simp
      refine hK _ ?_
      clear hK K
      refine wpLing_nil ?_
      go_wp2_with fail
      refine PC.mono ?_
      rintro e w4 ⟨k4, rfl, _, hn⟩
      have H4 := Lib.hid hn
      clear hn PC
      go_wp2_with fail
      go_ret
      rw [HQ.out]
      refine ⟨0, rfl, rfl, ?_⟩
      show SNext CSt w w4 base b x (checkS W.M W.n W.s (applyP L X)).M (checkS W.M W.n W.s (applyP L X)).n (checkS W.M W.n W.s (applyP L X)).s (checkS W.M W.n W.s (applyP L X)).L most (stF x q Fd Fi)
      rw [checkS_L]
      exact SNext.cat HS3.out.2.1 HS3.out.2.2 H4.out
    · have HQ := Lib.hid (HC.out HK1.out.symm (by rw [← hn2]; omega))
      clear hn2
      refine wpLing_still ?_ (fun w' hG K hK => ?_) (fun K hK => ?_)
      rotate_left
      · unfold mvVal
        go_simp
        try exact hK
      go_simp
      refine hK _ ?_
      clear hK K
      refine wpLing_nil ?_
      go_wp2_with fail
      go_ret
      rw [HQ.out]
      exact ⟨0, rfl, rfl, SNext.cat HS3.out.2.1 HS3.out.2.2 HS3.out.1.next⟩
  · have HQ := Lib.hid (HB.out (by rw [← HK1.out]; exact he))
    go_wp2_with fail
    go_ret
    rw [HQ.out]
    exact ⟨k1, rfl, HK1.out, H1.out⟩
end Go.Proofs.YthcdkggkoanjpaaGreatDoor
namespace Go.Proofs.YthcdkggkoanjpaaGreatDoor
open Go.RowKit Go.Lib
theorem num_at (k : Int) (w : World) : Calls Tryz.prog 17 #[.int .i64 k] w fun e w' => e = .returned (.int .i64 k) ∧ w = w' :=
  (num_eq k w).mono fun _ _ h => ⟨h.1, h.2.symm⟩
theorem bulkP_mem {L : List Prm} {o : Prm} (h : o ∈ L) : o.key.size + o.val.size ≤ bulkP L := by
  induction L with
  | nil => cases h
  | cons a l ih =>
    rw [bulkP_cons]
    rcases List.mem_cons.1 h with rfl | h
    · omega
    · have := ih h; omega
end Go.Proofs.YthcdkggkoanjpaaGreatDoor
namespace Go.Proofs.YthcdkggkoanjpaaGreatDoor
open Go.RowKit Go.Lib
theorem bulkP_append (L M : List Prm) : bulkP (L ++ M) = bulkP L + bulkP M := by simp [bulkP]
end Go.Proofs.YthcdkggkoanjpaaGreatDoor
namespace Go.Proofs.YthcdkggkoanjpaaGreatDoor
open Go.RowKit Go.Lib
set_option maxRecDepth 100000
theorem ObsB.at {w : World} {lo hi : Nat} {ao : Option Addr} {n c : Nat} {LL : List (List Opm)} (h : ObsB w lo hi (.slice ao n c) n LL) {k : Nat} (hk : k < n) :
    ∃ a O ap cp, ao = some a ∧ LL[k]? = some O ∧ w.cell? (a.add k) = some (.slice ap O.length cp) ∧ Opr w (.slice ap O.length cp) O.length O ∧ ∀ y, (Value.slice ap O.length cp).ownBlock = some y → lo ≤ y ∧ y < hi := by
  obtain ⟨h1, h2, vs, ⟨ao', c', e, _, hn, hc⟩, hl, hp, _, h7⟩ := h
  simp only [Value.slice.injEq] at e
  obtain ⟨rfl, _, _⟩ := e
  have hx : LL[k]? = some (LL[k]'(by omega)) := List.getElem?_eq_getElem (by omega)
  obtain ⟨ap, cp, e1, e2⟩ := hp.2 k _ hx
  cases ao with
  | none => have := (hn rfl).1; subst this; simp at hl; omega
  | some a =>
    refine ⟨a, _, ap, cp, rfl, hx, hc a rfl k _ e1, e2, fun y hy => ?_⟩
    cases ap with
    | none => cases hy
    | some a' =>
      have := h7 _ (List.mem_of_getElem? e1) a' _ _ rfl
      have : a'.block = y := by simpa [Value.ownBlock] using hy
      omega
theorem open_start {w w1 w2 w3 : World} {base b q i n : Nat} {M M' : MD} {F F' Fi : List Nat} (mo : Int) (h : CD w base b M F) (t1 : Turn [] w w1) (hC : CW w2 base b q M' n false F') (hF' : ∀ k ∈ F', k ∈ F ∨ w1.heap.size ≤ k) (t2 : Turn F w1 w2) (hq : w1.heap.size ≤ q)
    (hI : CI w3 i [] Fi) (hFi : ∀ k ∈ Fi, w2.heap.size ≤ k) (t3 : Turn [] w2 w3) :
    SC (w3.alloc (stob b q i mo)) base b w3.heap.size q i M' n false [] mo F' Fi ∧ (∀ k ∈ stF w3.heap.size q F' Fi, k ∈ F ∨ w.heap.size ≤ k) ∧ Turn F w (w3.alloc (stob b q i mo)) := by
  have s1 := t1.size
  have s2 := t2.size
  have s3 := t3.size
  have hb := h.1
  have hql := hC.lt
  have ta : Turn [] w3 (w3.alloc (stob b q i mo)) := (Turn.refl [] w3).alloc _
  have hdl := fun k hk => (hC.1.lt k hk).2
  have hil := ix_kept.lt hI
  refine ⟨⟨(hC.new (t3.trans ta)).v, hC.fits.two, ix_kept.keep hI ta (by simp), List.Pairwise.nil, heap_alloc_new w3 _, by omega, fun hm => ?_, fun hm => ?_, fun hm => ?_, fun k hk hm => ?_, by omega, by omega, fun k hk => ?_⟩, fun k hk => ?_, ?_⟩
  · have := hdl _ hm
    omega
  · have := hil _ hm
    omega
  · have := hFi _ hm
    omega
  · have := hdl _ hk
    have := hFi _ hm
    omega
  · have := hFi _ hk
    omega
  · rcases mem_stF.1 hk with rfl | rfl | hk | hk
    · exact .inr (by omega)
    · exact .inr (by omega)
    · exact (hF' k hk).imp id (fun h => by omega)
    · have := hFi _ hk
      exact .inr (by omega)
  · exact ((t1.nil_any.trans t2).trans t3.nil_any).trans ta.nil_any
theorem open_pairs {w w1 w2 w3 : World} {base b q x n0 : Nat} {M : MD} {F F' Fi : List Nat} {v : Value} {L : List Prm} {o : Obj} (h : CD w base b M F) (hp : Prr w1 v n0 L) (hf : ∀ a, v.ownBlock = some a → w.heap.size ≤ a) (hF' : ∀ k ∈ F', k ∈ F ∨ w1.heap.size ≤ k) (t2 : Turn F w1 w2) (hq : w1.heap.size ≤ q)
    (hFi : ∀ k ∈ Fi, w2.heap.size ≤ k) (t3 : Turn [] w2 w3) (hx : w2.heap.size ≤ x) : ∀ w', Turn (stF x q F' Fi) (w3.alloc o) w' → Prr w' v n0 L := by
  intro w' t
  have s2 := t2.size
  have h2 := hp.turnO t2 (fun _ a ha hm => by
    have := hf a ha
    have := (h.lt a hm).2
    omega)
  have h3 := (h2.turnO t3 (by simp)).turnO ((Turn.refl [] w3).alloc o) (by simp)
  refine h3.turnO t fun hne a ha hm => ?_
  have hlt := prr_lt hp hne a ha
  have hge := hf a ha
  rcases mem_stF.1 hm with rfl | rfl | hm | hm
  · omega
  · omega
  · rcases hF' a hm with h' | h'
    · have := (h.lt a h').2
      omega
    · omega
  · have := hFi a hm
    omega
theorem open_obs {w2 w3 : World} {q x lo hi n0 : Nat} {F' Fi : List Nat} {v : Value} {B : List (List Opm)} {o : Obj} (ho : ObsB w2 lo hi v n0 B) (hh : hi ≤ w2.heap.size) (hq : q < lo ∨ hi ≤ q) (hF' : ∀ k ∈ F', k < lo ∨ hi ≤ k)
    (hFi : ∀ k ∈ Fi, w2.heap.size ≤ k) (t3 : Turn [] w2 w3) (hx : w2.heap.size ≤ x) : ∀ w', Turn (stF x q F' Fi) (w3.alloc o) w' → ObsB w' lo hi v n0 B := by
  intro w' t
  refine ((ho.turn t3 (by simp)).turn ((Turn.refl [] w3).alloc o) (by simp)).turn t fun k hk => ?_
  rcases mem_stF.1 hk with rfl | rfl | hk | hk
  · exact .inr (by omega)
  · exact hq
  · exact hF' k hk
  · have := hFi k hk
    exact .inr (by omega)
theorem open_batch {w4 wr : World} {lo hi x q : Nat} {F' Fi F1 : List Nat} {v : Value} {n : Nat} {O : List Opm} (ho : Opr wr v n O) (hb : ∀ y, v.ownBlock = some y → lo ≤ y ∧ y < hi) (hh : hi ≤ w4.heap.size) (hF : ∀ k ∈ stF x q F' Fi, k < lo ∨ hi ≤ k) (hF1 : ∀ k ∈ F1, k ∈ stF x q F' Fi ∨ w4.heap.size ≤ k) :
    ∀ w', Turn F1 wr w' → Opr w' v n O := fun w' t => opr_turnO ho t fun a ha hm => by
  have := hb a ha
  rcases hF1 a hm with h | h
  · have := hF a h
    omega
  · omega
theorem base_next {L : List Prm} (hR : Rise L) {k : Nat} {o : Prm} (h : L[k]? = some o) : Rise (L.take k) ∧ L.take (k + 1) = putP o (L.take k) := by
  have h1 : ∀ j, Rise (L.take j) := fun j => List.Pairwise.sublist (List.take_sublist j L) hR
  refine ⟨h1 k, ?_⟩
  have := baseP_next h
  rwa [base_rise (h1 (k + 1)), base_rise (h1 k)] at this
theorem bulkP_take (L : List Prm) (k : Nat) : bulkP (L.take k) ≤ bulkP L := by
  conv => rhs; rw [← List.take_append_drop k L, bulkP_append]
  exact Nat.le_add_right _ _
end Go.Proofs.YthcdkggkoanjpaaGreatDoor
namespace Go.Proofs.YthcdkggkoanjpaaGreatDoor
open Go.RowKit Go.Lib
set_option maxRecDepth 100000
set_option maxHeartbeats 8000000 in
theorem CSt_open {w : World} {base b : Nat} {M : MD} {F : List Nat} (most : Int) (h : CD w base b M F) (ht : TabAt base w) {K J j : Nat} (hf : OFit K J j M) :
    Calls Tryz.prog 15 #[theDisk b, .int .i64 most] w (COpenS CSt w base b F most (openS M)) := by
  have PL := load_cd base b M F w h (well_limW hf.room hf.well (by have := hf.j; omega)).fs hf.snap
  obtain ⟨L0, hL0⟩ : ∃ L, L = loadL M := ⟨_, rfl⟩
  obtain ⟨e0, he0⟩ : ∃ e, e = loadE M := ⟨_, rfl⟩
  obtain ⟨O, hO⟩ : ∃ O, O = openP M := ⟨_, rfl⟩
  have HB : Hid (e0 ≠ 0 → openS M = ⟨e0, M, 0, []⟩) := Lib.hid fun h0 => by rw [he0] at h0 ⊢; exact openS_bad h0
  have HL : Hid (e0 = 0 → O.e ≠ 0 → openS M = ⟨O.e, O.M, 0, []⟩) := Lib.hid fun h0 h1 => by rw [he0] at h0; rw [hO] at h1 ⊢; exact openS_log h0 h1
  have HK : Hid (e0 = 0 → O.e = 0 → openS M = ⟨0, O.M, O.n, applyAll L0 O.l⟩) := Lib.hid fun h0 h1 => by rw [he0] at h0; rw [hO] at h1 ⊢; rw [hL0]; exact openS_ok h0 h1
  have HZ : Hid (bulkP L0 + bulkO O.l.flatten ≤ 650000 ∧ Rise L0) := Lib.hid (by rw [hL0, hO]; exact ⟨hf.bulk, hf.rise⟩)
  have HW : Hid (∀ w1, Turn [] w w1 → Calls Tryz.prog 36 #[theDisk b] w1 (COpened w1 base b F O)) := Lib.hid fun w1 t => by
    rw [hO]
    obtain ⟨w0, a, c, d⟩ := ht
    exact wal_openW base b M F w1 (h.new t) ⟨w0, a, c, d.trans (tg9 t)⟩ hf.well hf.j hf.room hf.log
  rw [← he0, ← hL0] at PL
  have H0 := Lib.hid h
  clear h ht hf hL0 he0 hO
  unfold theDisk at PL ⊢
  go_enter Tryz.func15, Tryz.ntmps15
  go_wp2_with fail
  refine PL.mono ?_
  rintro e w1 ⟨ap, np, cp, rfl, hp, t1, hfr⟩
  have H1 := Lib.hid (And.intro hp (And.intro t1 hfr))
  have hnp := hp.2.1
  unfold maxLen at hnp
  clear hp t1 hfr PL
  by_cases he : e0 = 0
  case neg =>
    have HQ := Lib.hid (HB.out he)
    go_wp2_with fail
    go_ret2
    rw [HQ.out]
    exact .inl ⟨he, rfl, H0.out.next_new H1.out.2.1⟩
  subst he
  have HL1 := Lib.hid (HL.out rfl)
  have HK2 := Lib.hid (HK.out rfl)
  have PW := HW.out w1 H1.out.2.1
  clear HB HL HK
  unfold theDisk at PW
  go_wp2_with fail
  refine PW.mono ?_
  rintro e w2 (⟨hne, rfl, hn⟩ | ⟨h0, q, ao, jn, c, lo, hi, F', rfl, hC, hF', t2, hlo, hhi, hq, hql, hobs, hFl⟩)
  · have HQ := Lib.hid (HL1.out hne)
    have HN := Lib.hid hn
    obtain ⟨k1, hk1⟩ : ∃ k1, k1 = O.e := ⟨_, rfl⟩
    have HK1 := Lib.hid hk1
    rw [← hk1] at hne ⊢
    clear hn PW hk1
    go_wp2_with fail
    go_ret2
    rw [HQ.out]
    exact .inl ⟨by rw [← HK1.out]; exact hne, by rw [← HK1.out]; rfl, HN.out.after H1.out.2.1.nil_any⟩
  have HQ := Lib.hid (HK2.out h0)
  have H2 := Lib.hid (And.intro (And.intro hC (And.intro hF' (And.intro t2 hq))) (And.intro (And.intro hhi (And.intro hql hFl)) hobs))
  have hjl := hobs.2.1
  unfold maxLen at hjl
  clear hC hF' t2 hlo hhi hq hql hobs hFl PW h0 HL1 HK2
  go_wp2_with fail
  refine (ix_new 64 w2).mono ?_
  rintro e w3 ⟨i, Fi, rfl, hI, hFi, t3⟩
  unfold theIx
  have H3 := Lib.hid (And.intro (open_start (max most 0) H0.out H1.out.2.1 H2.out.1.1 H2.out.1.2.1 H2.out.1.2.2.1 H2.out.1.2.2.2 hI hFi t3)
    (And.intro (open_pairs (o := stob b q i (max most 0)) H0.out H1.out.1 H1.out.2.2 H2.out.1.2.1 H2.out.1.2.2.1 H2.out.1.2.2.2 hFi t3 t3.size)
      (open_obs (o := stob b q i (max most 0)) H2.out.2.2 H2.out.2.1.1 H2.out.2.1.2.1 H2.out.2.1.2.2 hFi t3 t3.size)))
  have hst : ∀ k ∈ stF w3.heap.size q F' Fi, k < lo ∨ hi ≤ k := fun k hk => by
    have s3 := t3.size
    have hh := H2.out.2.1.1
    rcases mem_stF.1 hk with rfl | rfl | hk | hk
    · exact .inr (by omega)
    · exact H2.out.2.1.2.1
    · exact H2.out.2.1.2.2 k hk
    · have := hFi k hk
      exact .inr (by omega)
  have hh4 : hi ≤ (w3.alloc (stob b q i (max most 0))).heap.size := by
    have := t3.size
    have := H2.out.2.1.1
    rw [World.size_alloc]
    omega
  have HST := Lib.hid (And.intro hst hh4)
  obtain ⟨w4, hw4⟩ : ∃ w4, w4 = w3.alloc (stob b q i (max most 0)) := ⟨_, rfl⟩
  have HX : Hid (w3.alloc (stob b q i (max most 0)) = w4) := Lib.hid hw4.symm
  rw [← hw4] at H3 HST
  clear hI hFi t3 hst hh4 hw4
  go_wp2_with fail
  go_loopw [41] (fun j wr => ∃ k : Nat, k ≤ np ∧ j = .int .i64 k ∧ Hid (SNext CSt w4 wr base b w3.heap.size O.M O.n false (L0.take k) (max most 0) (stF w3.heap.size q F' Fi)))
    (fun j _ => np - (RowKit.intOf j).toNat)
  case atStart => exact ⟨0, Nat.zero_le _, rfl, Lib.hid (by
    have h4 := HX.out
    unfold stob theDisk theIx at h4
    rw [h4, List.take_zero]
    exact CSt.next ⟨q, i, F', Fi, H3.out.1.1, rfl⟩)⟩
  case round =>
    obtain ⟨k, hk, rfl, hG⟩ := hrel
    by_cases hlt : k < np
    · have h3 : (k : Int) < (np : Int) := by omega
      obtain ⟨F1, hC, hF1, t1⟩ := hG.out
      obtain ⟨a, o, rfl, hO, d0, d1, z1, z2⟩ := (H3.out.2.1 wr t1).at hlt
      obtain ⟨q5, i5, Fd, Fj, hS, eF⟩ := hC
      obtain ⟨hrk, hnx⟩ := base_next HZ.out.2 hO
      have hks : o.key.size ≤ 1000000 := by
        have := bulkP_mem (List.mem_of_getElem? hO)
        have := HZ.out.1
        omega
      have hfw : FineW (L0.take k) := fineW_of hrk (by
        have := bulkP_take L0 k
        have := HZ.out.1
        omega)
      have HF2 := Lib.hid hS.ixlt
      have hxw := lt_of hS.cell
      obtain ⟨kk, vv⟩ := o
      simp only at d0 d1 hks
      have tA : Turn [] wr (wr.alloc (.cells #[.string kk, .string vv] 90)).drew := ((Turn.refl [] wr).alloc _).drew
      have hS2 := hS.keep tA (by simp)
      have hnew := heap_alloc_new wr (.cells #[.string kk, .string vv] 90)
      have hxl : w3.heap.size < (wr.alloc (.cells #[.string kk, .string vv] 90)).drew.heap.size := lt_of hS2.cell
      have hpl : wr.heap.size < (wr.alloc (.cells #[.string kk, .string vv] 90)).drew.heap.size := lt_of hnew
      have u2 : ∀ w', Two2 w3.heap.size wr.heap.size (wr.alloc (.cells #[.string kk, .string vv] 90)).drew w' → w'.cell? ⟨w3.heap.size, 2, none⟩ = some (theIx i5) := fun w' hg => by
        rw [World.cell?_of_block (w := (wr.alloc (.cells #[.string kk, .string vv] 90)).drew) (w' := w') (hg hxl hpl).1]; exact stob_2 hS2.cell
      have u0 : ∀ w', Two2 w3.heap.size wr.heap.size (wr.alloc (.cells #[.string kk, .string vv] 90)).drew w' → w'.cell? ⟨wr.heap.size, 0, none⟩ = some (.string kk) := fun w' hg => by
        rw [World.cell?_of_block (w := (wr.alloc (.cells #[.string kk, .string vv] 90)).drew) (w' := w') (hg hxl hpl).2.1]; exact cells_of hnew 0 _ rfl
      have u1 : ∀ w', Two2 w3.heap.size wr.heap.size (wr.alloc (.cells #[.string kk, .string vv] 90)).drew w' → w'.cell? ⟨wr.heap.size, 1, none⟩ = some (.string vv) := fun w' hg => by
        rw [World.cell?_of_block (w := (wr.alloc (.cells #[.string kk, .string vv] 90)).drew) (w' := w') (hg hxl hpl).2.1]; exact cells_of hnew 1 _ rfl
      have PC := ix_put hS2.ix hfw kk vv hks
      rw [← hnx] at PC
      unfold theIx at u2 PC
      have HP := Lib.hid PC
      have hrn : Rise (L0.take (k + 1)) := List.Pairwise.sublist (List.take_sublist _ _) HZ.out.2
      have HS2 := Lib.hid (And.intro hS2 (And.intro (And.intro hF1 (And.intro (t1.trans tA.nil_any) (And.intro eF hrn))) (And.intro hxl hpl)))
      clear hS hS2 hF1 t1 tA hnew hxl hpl PC hO hrk hnx hfw hks hG z1 z2 eF hrn hxw
      go_wp2_with fail
      clear d0 d1
      refine wp_region_mvg (Two2 w3.heap.size wr.heap.size) (Two2.refl w3.heap.size wr.heap.size) Two2.trans [(0, 8, true), (8, 1, false)] (by kernel_rfl) (by kernel_rfl) ?_
      simp only [mvAll, mvSeg, List.drop_succ_cons, List.drop_zero, List.cons_append, List.nil_append, Nat.reduceAdd]
      iterate 8
        refine wpLing_still ?_ (fun w' hG K hK => ?_) (fun K hK => ?_)
        rotate_left
        · have v0 := u0 w' hG
          have v1 := u1 w' hG
          have v2 := u2 w' hG
          clear hG
          unfold mvVal
          go_simp
          try exact hK
        go_simp
        refine hK _ ?_
        clear hK K
      refine wpLing_call (fun K hK => ?_)
      unfold mvRun
      go_simp
      simp only [mvUpon]
      refine HP.out.mono ?_
      rintro e w5 ⟨rfl, hn⟩
      refine ⟨_, rfl, ?_⟩
      go_simp
      have HQ5 : Hid (SNext CSt w4 w5 base b w3.heap.size O.M O.n false (L0.take (k + 1)) (max most 0) (stF w3.heap.size q F' Fi)) := Lib.hid (by
        refine SNext.cat HS2.out.2.1.1 HS2.out.2.1.2.1 ?_
        rw [HS2.out.2.1.2.2.1]
        exact HS2.out.1.ix_next hn HS2.out.2.1.2.2.2)
      refine hK _ _ (fun _ _ => ?_) ?_
      · obtain ⟨_, _, _, t5⟩ := hn
        exact ⟨t5.block _ HS2.out.2.2.1 HS2.out.1.xi, t5.block _ HS2.out.2.2.2 (fun hm => by have := HF2.out _ hm; omega), t5.size⟩
      clear hK K u0 u1 u2 HP hn
      refine wpLing_nil ?_
      go_wp2_with fail
      exact ⟨⟨k + 1, by omega, by go_num, HQ5⟩, by simp [RowKit.intOf]; omega⟩
    · have h3 : ¬ (k : Int) < (np : Int) := by omega
      obtain rfl : k = np := by omega
      have HG0 : Hid (SNext CSt w4 wr base b w3.heap.size O.M O.n false L0 (max most 0) (stF w3.heap.size q F' Fi)) := Lib.hid (by
        have := hG.out
        rwa [List.take_of_length_le (by have := H1.out.1.1; omega)] at this)
      clear hG
      go_wp2_with fail
      go_loopw [57] (fun j wr => ∃ k : Nat, k ≤ jn ∧ j = .int .i64 k ∧ Hid (SNext CSt w4 wr base b w3.heap.size O.M O.n false (applyAll L0 (O.l.take k)) (max most 0) (stF w3.heap.size q F' Fi)))
        (fun j _ => jn - (RowKit.intOf j).toNat)
      case atStart => exact ⟨0, Nat.zero_le _, rfl, HG0⟩
      case round =>
        clear HG0
        obtain ⟨k, hk, rfl, hG⟩ := hrel
        by_cases hlt : k < jn
        · have h4 : (k : Int) < (jn : Int) := by omega
          obtain ⟨F1, hC, hF1, t1⟩ := hG.out
          obtain ⟨a, X, apx, cpx, rfl, hO, d0, hopr, hblk⟩ := (H3.out.2.2 _ t1).at hlt
          have hrk := CSt_rise hC
          have hnx := applyAll_next (L := L0) hO
          have hap : applyP (applyAll L0 (O.l.take k)) X = X.foldl stepP (applyAll L0 (O.l.take k)) := by
            unfold applyP
            rw [base_rise hrk]
          have PA := CSt_apply hC _ _ X (open_batch hopr hblk HST.out.2 HST.out.1 hF1) (by
            have h5 := bulkP_all L0 (O.l.take k)
            have h6 : bulkO (O.l.take k).flatten + bulkO X ≤ bulkO O.l.flatten := by
              have h7 := bulkO_takeB O.l (k + 1)
              rw [take_next hO, List.flatten_append, bulkO_append] at h7
              simpa using h7
            have := HZ.out.1
            omega)
          rw [← hap, ← hnx] at PA
          have HF1 := Lib.hid (And.intro hF1 t1)
          unfold theSt at PA
          clear hC hF1 t1 hO hopr hblk hrk hnx hap hG
          go_wp2_with fail
          refine PA.mono ?_
          rintro e w5 ⟨rfl, hn⟩
          have H5 : Hid (SNext CSt w4 w5 base b w3.heap.size O.M O.n false (applyAll L0 (O.l.take (k + 1))) (max most 0) (stF w3.heap.size q F' Fi)) := Lib.hid (SNext.cat HF1.out.1 HF1.out.2 hn)
          clear hn PA
          go_wp2_with fail
          exact ⟨⟨k + 1, by omega, by go_num, H5⟩, by simp [RowKit.intOf]; omega⟩
        · have h4 : ¬ (k : Int) < (jn : Int) := by omega
          obtain rfl : k = jn := by omega
          have HG1 : Hid (SNext CSt w4 wr base b w3.heap.size O.M O.n false (applyAll L0 O.l) (max most 0) (stF w3.heap.size q F' Fi)) := Lib.hid (by
            have := hG.out
            rwa [List.take_of_length_le (by have := H2.out.2.2.1; omega)] at this)
          clear hG
          go_wp2_with fail
          go_ret2
          rw [HQ.out]
          obtain ⟨F6, k1, k2, t6⟩ := SNext.cat H3.out.1.2.1 H3.out.1.2.2 HG1.out
          exact .inr ⟨rfl, w3.heap.size, F6, rfl, k1, k2, t6⟩
end Go.Proofs.YthcdkggkoanjpaaGreatDoor
