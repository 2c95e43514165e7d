/- The code's store: Check and Commit. Numbers and types by name. -/
import Derived.Test.YthcdkggkoanjpaaGreatDoorChecked
import Derived.WalkKit
import Derived.WalkLawsBesides
import Derived.Lib.Hide
import Derived.BigQuiet
import Derived.Deep.QuietTactic
import Derived.ArgAppend
import Derived.OwnWalk
import Derived.Deep.RegionLaw
import Derived.Deep.AppendLies
import Derived.Lib.AppendStr
import Derived.Laws.IdiomStrings
import Derived.Lib.SlBytesConst
import Derived.BigRegion
import Derived.RegionTactic
import Derived.ChangeAlike
import Derived.Maps.OwnSet
import Derived.Sort.KeysCollected
import Derived.WalkSpells
import Derived.StillTactics
import Derived.StillTailTactics
import Derived.Shelf.SlSortCmp.KitK
import Derived.Lib.Bytealg
import Derived.Sort.Grow
import Derived.Lib.AppendZerosOnto
import Derived.Lib.SliceRun
import Derived.Sort.Walk0
import Derived.Shelf.SlSortCmp.QuietGrown
import Derived.Laws.BitsLemmas
import Derived.WalkMore
import Derived.Test.YthcdkggkoanjpaaGreatDoorWtc
import Derived.Test.YthcdkggkoanjpaaGreatDoorSxa
import Derived.Test.YthcdkggkoanjpaaGreatDoorDig
/- The reference's store: Check, Commit. Numbers and types by name. -/
namespace Go.Proofs.YthcdkggkoanjpaaGreatDoor
open Go.RowKit Go.Lib
set_option maxRecDepth 100000
def Two2 (t p : Nat) (a c : World) : Prop := t < a.heap.size → p < a.heap.size → c.heap[t]? = a.heap[t]? ∧ c.heap[p]? = a.heap[p]? ∧ a.heap.size ≤ c.heap.size
theorem Two2.refl (t p : Nat) (a : World) : Two2 t p a a := fun _ _ => ⟨rfl, rfl, Nat.le_refl _⟩
theorem Two2.trans {t p : Nat} {a b c : World} (h : Two2 t p a b) (k : Two2 t p b c) : Two2 t p a c := fun h1 h2 => by
  obtain ⟨e1, e2, e3⟩ := h h1 h2
  obtain ⟨f1, f2, f3⟩ := k (Nat.lt_of_lt_of_le h1 e3) (Nat.lt_of_lt_of_le h2 e3)
  exact ⟨f1.trans e1, f2.trans e2, Nat.le_trans e3 f3⟩
end Go.Proofs.YthcdkggkoanjpaaGreatDoor

/- The code's store: Sick, Get, All; apply. Numbers and types by name. -/
namespace Go.Proofs.YthcdkggkoanjpaaGreatDoor
open Go.RowKit Go.Lib
set_option maxRecDepth 100000
theorem CSt_sick {w : World} {base b x : Nat} {M : MD} {n : Nat} {s : Bool} {L : List Prm} {most : Int} {F : List Nat} (h : CSt w base b x M n s L most F) :
    Calls Tryz.prog 22 #[theSt x] w fun e w' => e = .returned (.bool s) ∧ Turn [] w w' := by
  obtain ⟨q, i, Fd, Fi, h, rfl⟩ := h
  have c1 := stob_1 h.cell
  have P := wal_sick b q n s w h.log.2.2
  clear h
  unfold theSt
  go_enter Tryz.func22, Tryz.ntmps22
  go_wp2_with fail
  refine P.mono ?_
  rintro e w1 ⟨rfl, rfl⟩
  go_wp2_with fail
  go_ret
  exact ⟨rfl, Turn.refl _ _⟩
theorem CSt_get {w : World} {base b x : Nat} {M : MD} {n : Nat} {s : Bool} {L : List Prm} {most : Int} {F : List Nat} (h : CSt w base b x M n s L most F) (hs : Slim L) (k : ByteArray) (hk : k.size ≤ 1000000) :
    Calls Tryz.prog 31 #[theSt x, .string k] w fun e w' => e = .returned (.tuple #[.string (findP L k).1, .bool (findP L k).2]) ∧ Turn [] w w' := by
  obtain ⟨q, i, Fd, Fi, h, rfl⟩ := h
  have c2 := stob_2 h.cell
  have P := ix_get h.ix (fineW_of h.rise (by have := hs.1; omega)) k hk
  unfold theIx at c2 P
  clear h hs hk
  unfold theSt
  go_enter Tryz.func31, Tryz.ntmps31
  go_wp2_with fail
  refine P.mono ?_
  rintro e w1 ⟨rfl, t⟩
  have T := Lib.hid t
  clear t P
  go_wp2_with fail
  go_ret2
  exact ⟨rfl, T.out⟩
theorem ISt_all {w : World} {x : Nat} {L : List Prm} {F : List Nat} (h : ISt w x L F) (hb : bulkP L ≤ 690000) :
    Calls Tryz.prog 26 #[theSt x] w fun e w' => ∃ ao q c, e = .returned (.slice ao q c) ∧ Prr w' (.slice ao q c) q L ∧ (∀ a, (Value.slice ao q c).ownBlock = some a → w.heap.size ≤ a) ∧ Turn [] w w' := by
  obtain ⟨b, q, i, most, Fi, h1, h2, h3, h4, rfl⟩ := h
  have c2 := stob_2 h3
  have P := ix_all2 h1 (fineW_of h2 hb)
  unfold theIx at c2 P
  clear h1 h2 h3 h4 hb
  unfold theSt
  go_enter Tryz.func26, Tryz.ntmps26
  go_wp2_with fail
  refine P.mono ?_
  rintro e w1 ⟨ao, n, c, rfl, hp, hf, t⟩
  have T := Lib.hid (And.intro hp (And.intro hf t))
  clear hp hf t P
  go_wp2_with fail
  go_ret
  exact ⟨ao, n, c, rfl, T.out.1, T.out.2.1, T.out.2.2⟩
theorem steps_next {X : List Opm} {k : Nat} {o : Opm} {L : List Prm} (h : X[k]? = some o) : (X.take (k + 1)).foldl stepP L = stepP ((X.take k).foldl stepP L) o := by
  rw [take_next h, List.foldl_append]
  rfl
set_option maxHeartbeats 4000000 in
theorem CSt_apply {w : World} {base b x : Nat} {M : MD} {n : Nat} {s : Bool} {L : List Prm} {most : Int} {F : List Nat} (h : CSt w base b x M n s L most F) (vo : Value) (m : Nat) (X : List Opm) (ho : ∀ w', Turn F w w' → Opr w' vo m X) (hb : bulkP L + bulkO X ≤ 690000) :
    Calls Tryz.prog 39 #[theSt x, vo] w fun e w' => e = .returned (.tuple #[]) ∧ SNext CSt w w' base b x M n s (X.foldl stepP L) most F := by
  have h0 := ho w (Turn.refl _ _)
  obtain ⟨ao, c, rfl⟩ := h0.shape
  have hmX := h0.1
  have hm9 := h0.2.1
  have HR := CSt_rise h
  have HN := Lib.hid (And.intro h (And.intro ho hb))
  have HM := Lib.hid (And.intro hmX (And.intro hm9 HR))
  unfold maxLen at hm9
  clear h ho hb h0 hmX HR
  unfold theSt
  go_enter Tryz.func39, Tryz.ntmps39
  go_wp2_with fail
  go_loopw [8] (fun j wr => ∃ k : Nat, k ≤ m ∧ j = .int .i64 k ∧ Hid (SNext CSt w wr base b x M n s ((X.take k).foldl stepP L) most F))
    (fun j _ => m - (RowKit.intOf j).toNat)
  case atStart => exact ⟨0, Nat.zero_le _, rfl, Lib.hid HN.out.1.next⟩
  case round =>
    obtain ⟨k, hk, rfl, hG⟩ := hrel
    by_cases hlt : k < m
    · have h3 : (k : Int) < (m : Int) := by omega
      obtain ⟨F1, hC, hF1, t1⟩ := hG.out
      obtain ⟨a, o, rfl, hO, d0, d1, d2, z1, z2⟩ := (HN.out.2.1 wr t1).at hlt
      obtain ⟨q, i, Fd, Fi, hS, rfl⟩ := hC
      have hrL := hS.rise
      have hks : o.key.size ≤ 1000000 := by
        have := bulkO_mem (List.mem_of_getElem? hO)
        have := HN.out.2.2
        omega
      have hfw : FineW ((X.take k).foldl stepP L) := fineW_of hrL (by
        have := bulkP_steps (X.take k) L
        have := bulkO_take X k
        have := HN.out.2.2
        omega)
      have HF2 := Lib.hid hS.ixlt
      obtain ⟨od, kk, vv⟩ := o
      simp only at d0 d1 d2 hks
      cases od with
      | true =>
        have tA : Turn [] wr (wr.alloc (.cells #[.bool true, .string kk, .string vv] 65)).drew := ((Turn.refl [] wr).alloc _).drew
        have hS2 := hS.keep tA (by simp)
        have hnew := heap_alloc_new wr (.cells #[.bool true, .string kk, .string vv] 65)
        have hxl : x < (wr.alloc (.cells #[.bool true, .string kk, .string vv] 65)).drew.heap.size := lt_of hS2.cell
        have hpl : wr.heap.size < (wr.alloc (.cells #[.bool true, .string kk, .string vv] 65)).drew.heap.size := lt_of hnew
        have u2 : ∀ w', Two2 x wr.heap.size (wr.alloc (.cells #[.bool true, .string kk, .string vv] 65)).drew w' → w'.cell? ⟨x, 2, none⟩ = some (theIx i) := fun w' hg => by
          rw [World.cell?_of_block (w := (wr.alloc (.cells #[.bool true, .string kk, .string vv] 65)).drew) (w' := w') (hg hxl hpl).1]; exact stob_2 hS2.cell
        have u0 : ∀ w', Two2 x wr.heap.size (wr.alloc (.cells #[.bool true, .string kk, .string vv] 65)).drew w' → w'.cell? ⟨wr.heap.size, 1, none⟩ = some (.string kk) := fun w' hg => by
          rw [World.cell?_of_block (w := (wr.alloc (.cells #[.bool true, .string kk, .string vv] 65)).drew) (w' := w') (hg hxl hpl).2.1]; exact cells_of hnew 1 _ rfl
        have u1 : ∀ w', Two2 x wr.heap.size (wr.alloc (.cells #[.bool true, .string kk, .string vv] 65)).drew w' → w'.cell? ⟨wr.heap.size, 2, none⟩ = some (.string vv) := fun w' hg => by
          rw [World.cell?_of_block (w := (wr.alloc (.cells #[.bool true, .string kk, .string vv] 65)).drew) (w' := w') (hg hxl hpl).2.1]; exact cells_of hnew 2 _ rfl
        have PC := ix_del hS2.ix hfw kk hks
        unfold theIx at u2 PC
        have HP := Lib.hid PC
        have HS2 := Lib.hid (And.intro hS2 (And.intro (And.intro hF1 (t1.trans tA.nil_any)) (And.intro hxl hpl)))
        have HO := Lib.hid (And.intro hO hrL)
        clear hS hS2 hF1 t1 tA hnew hxl hpl PC hO hrL hfw hks hG z1 z2
        go_wp2_with fail
        clear d0 d1 d2
        refine wp_region_mvg (Two2 x wr.heap.size) (Two2.refl x wr.heap.size) Two2.trans [(0, 6, true), (6, 1, false)] (by kernel_rfl) (by kernel_rfl) ?_
        simp only [mvAll, mvSeg, List.drop_succ_cons, List.drop_zero, List.cons_append, List.nil_append, Nat.reduceAdd]
        iterate 6
          refine wpLing_still ?_ (fun w' hG K hK => ?_) (fun K hK => ?_)
          rotate_left
          · have v0 := u0 w' hG
            have v1 := u1 w' hG
            have v2 := u2 w' hG
            clear hG
            unfold mvVal
            go_simp
            try exact hK
          go_simp
          refine hK _ ?_
          clear hK K
        refine wpLing_call (fun K hK => ?_)
        unfold mvRun
        go_simp
        simp only [mvUpon]
        refine HP.out.mono ?_
        rintro e w2 ⟨rfl, hn⟩
        refine ⟨_, rfl, ?_⟩
        go_simp
        have HQ : Hid (SNext CSt w w2 base b x M n s ((X.take (k + 1)).foldl stepP L) most F) := Lib.hid (by
          rw [steps_next HO.out.1]
          exact SNext.cat HS2.out.2.1.1 HS2.out.2.1.2 (HS2.out.1.ix_next hn (rise_step HO.out.2 ⟨true, kk, vv⟩)))
        refine hK _ _ (fun _ _ => ?_) ?_
        · obtain ⟨_, _, _, t2⟩ := hn
          exact ⟨t2.block x HS2.out.2.2.1 HS2.out.1.xi, t2.block _ HS2.out.2.2.2 (fun hm => by have := HF2.out _ hm; omega), t2.size⟩
        clear hK K u0 u1 u2 HP hn
        refine wpLing_nil ?_
        go_wp2_with fail
        exact ⟨⟨k + 1, by omega, by go_num, HQ⟩, by simp [RowKit.intOf]; omega⟩
      | false =>
        have tA : Turn [] wr (wr.alloc (.cells #[.bool false, .string kk, .string vv] 65)).drew := ((Turn.refl [] wr).alloc _).drew
        have hS2 := hS.keep tA (by simp)
        have hnew := heap_alloc_new wr (.cells #[.bool false, .string kk, .string vv] 65)
        have hxl : x < (wr.alloc (.cells #[.bool false, .string kk, .string vv] 65)).drew.heap.size := lt_of hS2.cell
        have hpl : wr.heap.size < (wr.alloc (.cells #[.bool false, .string kk, .string vv] 65)).drew.heap.size := lt_of hnew
        have u2 : ∀ w', Two2 x wr.heap.size (wr.alloc (.cells #[.bool false, .string kk, .string vv] 65)).drew w' → w'.cell? ⟨x, 2, none⟩ = some (theIx i) := fun w' hg => by
          rw [World.cell?_of_block (w := (wr.alloc (.cells #[.bool false, .string kk, .string vv] 65)).drew) (w' := w') (hg hxl hpl).1]; exact stob_2 hS2.cell
        have u0 : ∀ w', Two2 x wr.heap.size (wr.alloc (.cells #[.bool false, .string kk, .string vv] 65)).drew w' → w'.cell? ⟨wr.heap.size, 1, none⟩ = some (.string kk) := fun w' hg => by
          rw [World.cell?_of_block (w := (wr.alloc (.cells #[.bool false, .string kk, .string vv] 65)).drew) (w' := w') (hg hxl hpl).2.1]; exact cells_of hnew 1 _ rfl
        have u1 : ∀ w', Two2 x wr.heap.size (wr.alloc (.cells #[.bool false, .string kk, .string vv] 65)).drew w' → w'.cell? ⟨wr.heap.size, 2, none⟩ = some (.string vv) := fun w' hg => by
          rw [World.cell?_of_block (w := (wr.alloc (.cells #[.bool false, .string kk, .string vv] 65)).drew) (w' := w') (hg hxl hpl).2.1]; exact cells_of hnew 2 _ rfl
        have PC := ix_put hS2.ix hfw kk vv hks
        unfold theIx at u2 PC
        have HP := Lib.hid PC
        have HS2 := Lib.hid (And.intro hS2 (And.intro (And.intro hF1 (t1.trans tA.nil_any)) (And.intro hxl hpl)))
        have HO := Lib.hid (And.intro hO hrL)
        clear hS hS2 hF1 t1 tA hnew hxl hpl PC hO hrL hfw hks hG z1 z2
        go_wp2_with fail
        clear d0 d1 d2
        refine wp_region_mvg (Two2 x wr.heap.size) (Two2.refl x wr.heap.size) Two2.trans [(0, 8, true), (8, 1, false)] (by kernel_rfl) (by kernel_rfl) ?_
        simp only [mvAll, mvSeg, List.drop_succ_cons, List.drop_zero, List.cons_append, List.nil_append, Nat.reduceAdd]
        iterate 8
          refine wpLing_still ?_ (fun w' hG K hK => ?_) (fun K hK => ?_)
          rotate_left
          · have v0 := u0 w' hG
            have v1 := u1 w' hG
            have v2 := u2 w' hG
            clear hG
            unfold mvVal
            go_simp
            try exact hK
          go_simp
          refine hK _ ?_
          clear hK K
        refine wpLing_call (fun K hK => ?_)
        unfold mvRun
        go_simp
        simp only [mvUpon]
        refine HP.out.mono ?_
        rintro e w2 ⟨rfl, hn⟩
        refine ⟨_, rfl, ?_⟩
        go_simp
        have HQ : Hid (SNext CSt w w2 base b x M n s ((X.take (k + 1)).foldl stepP L) most F) := Lib.hid (by
          rw [steps_next HO.out.1]
          exact SNext.cat HS2.out.2.1.1 HS2.out.2.1.2 (HS2.out.1.ix_next hn (rise_step HO.out.2 ⟨false, kk, vv⟩)))
        refine hK _ _ (fun _ _ => ?_) ?_
        · obtain ⟨_, _, _, t2⟩ := hn
          exact ⟨t2.block x HS2.out.2.2.1 HS2.out.1.xi, t2.block _ HS2.out.2.2.2 (fun hm => by have := HF2.out _ hm; omega), t2.size⟩
        clear hK K u0 u1 u2 HP hn
        refine wpLing_nil ?_
        go_wp2_with fail
        exact ⟨⟨k + 1, by omega, by go_num, HQ⟩, by simp [RowKit.intOf]; omega⟩
    · have h3 : ¬ (k : Int) < (m : Int) := by omega
      obtain rfl : k = m := by omega
      have HQ : Hid (SNext CSt w wr base b x M n s (X.foldl stepP L) most F) := Lib.hid (by
        have := hG.out
        rwa [List.take_of_length_le (by have := HM.out.1; omega)] at this)
      clear hG
      go_wp2_with fail
      go_end0
      exact ⟨rfl, HQ.out⟩
end Go.Proofs.YthcdkggkoanjpaaGreatDoor

namespace Go.Proofs.YthcdkggkoanjpaaGreatDoor
open Go.RowKit Go.Lib
set_option maxRecDepth 100000
theorem checkS_fell {M : MD} {n : Nat} {L : List Prm} (h : (saveT M L).1 ≠ 0) : checkS M n false L = ⟨(saveT M L).1, (saveT M L).2, n, false, L⟩ := by
  unfold checkS
  rw [if_neg (by simp), if_pos h]
theorem checkS_went {M : MD} {n : Nat} {L : List Prm} (h : (saveT M L).1 = 0) : checkS M n false L = ⟨(resetP (saveT M L).2 n false).e, (resetP (saveT M L).2 n false).M, (resetP (saveT M L).2 n false).n, (resetP (saveT M L).2 n false).s, L⟩ := by
  unfold checkS
  rw [if_neg (by simp), if_neg (by simp [h])]
theorem fit2_check {M : MD} {n : Nat} {L : List Prm} (h : Fit2 M n false) (hr : Rising M.fs) (h0 : (saveT M L).1 = 0) : Fit2 (resetP (saveT M L).2 n false).M (resetP (saveT M L).2 n false).n (resetP (saveT M L).2 n false).s := (fits_reset (fits_save h hr h0)).two
def One1 (x : Nat) (a c : World) : Prop := x < a.heap.size → c.heap[x]? = a.heap[x]? ∧ a.heap.size ≤ c.heap.size
theorem One1.refl (x : Nat) (a : World) : One1 x a a := fun _ => ⟨rfl, Nat.le_refl _⟩
theorem One1.trans {x : Nat} {a b c : World} (h : One1 x a b) (k : One1 x b c) : One1 x a c := fun h1 => by
  have h2 := h h1
  have h3 := k (Nat.lt_of_lt_of_le h1 h2.2)
  exact ⟨h3.1.trans h2.1, Nat.le_trans h2.2 h3.2⟩
set_option maxHeartbeats 4000000 in
theorem CSt_check {w : World} {base b x : Nat} {M : MD} {n : Nat} {s : Bool} {L : List Prm} {most : Int} {F : List Nat} (h : CSt w base b x M n s L most F) (hs : Slim L) {K J j : Nat} (hw : Well K M j) (hj : j + 5 ≤ J) (hR : RoomW K J) (hK : (bytesT L).length ≤ K) :
    Calls Tryz.prog 20 #[theSt x] w (Left fun k w' => k = (checkS M n s L).e ∧ SNext CSt w w' base b x (checkS M n s L).M (checkS M n s L).n (checkS M n s L).s L most F) := by
  have PS := CSt_sick h
  cases s with
  | true =>
    have e : checkS M n true L = ⟨8, M, n, true, L⟩ := by
      unfold checkS
      rw [if_pos rfl]
    rw [e]
    have HN := Lib.hid h
    clear h hs hw hj hR hK e
    unfold theSt at PS ⊢
    go_enter Tryz.func20, Tryz.ntmps20
    go_wp2_with fail
    go_step3
    go_wp2_with fail
    go_step3
    go_wp2_with fail
    refine PS.mono ?_
    rintro e w1 ⟨rfl, t⟩
    have HQ : Hid (SNext CSt w w1 base b x M n true L most F) := Lib.hid (HN.out.next.new t)
    clear PS t
    go_wp2_with fail
    try rw [Exit.noGoto_ret]
    go_ret
    exact ⟨8, rfl, rfl, HQ.out⟩
  | false =>
    obtain ⟨q, i, Fd, Fi, h, rfl⟩ := h
    have HN := Lib.hid h
    have HW := Lib.hid (And.intro hs (And.intro hw (And.intro hj (And.intro hR hK))))
    have HWS := Lib.hid (And.intro (well_saveT hw hK) (And.intro hj hR))
    obtain ⟨e1, he1⟩ : ∃ e1, e1 = (saveT M L).1 := ⟨_, rfl⟩
    obtain ⟨M1, hM1⟩ : ∃ M1, M1 = (saveT M L).2 := ⟨_, rfl⟩
    have HF0 : Hid (e1 ≠ 0 → checkS M n false L = ⟨e1, M1, n, false, L⟩) := Lib.hid fun h0 => by rw [he1, hM1]; exact checkS_fell (by rw [← he1]; exact h0)
    have HF1 : Hid (e1 = 0 → checkS M n false L = ⟨(resetP M1 n false).e, (resetP M1 n false).M, (resetP M1 n false).n, (resetP M1 n false).s, L⟩ ∧ Fits M1 n false ∧ Fit2 (resetP M1 n false).M (resetP M1 n false).n (resetP M1 n false).s) := Lib.hid fun h0 => by
      rw [he1] at h0
      rw [hM1]
      exact ⟨checkS_went h0, fits_save h.fit hw.up h0, fit2_check h.fit hw.up h0⟩
    have HFM : Hid (Fit2 M1 n false) := Lib.hid (by rw [hM1]; exact fit2_save h.fit hw.up L)
    have HS : Hid (∀ (w' : World) (v : Value) (m : Nat), CD w' base b M Fd → Prr w' v m L → Calls Tryz.prog 44 #[theDisk b, v] w' (Left fun k w2 => k = e1 ∧ Next w' w2 base b M1 Fd)) := Lib.hid fun w' v m hc hp => by
      rw [he1, hM1]
      exact save_cdS base b M Fd v m L w' hc hp hs hw hj hR hK
    rw [← hM1] at HWS
    unfold theSt at PS ⊢
    clear h hs hw hj hR hK he1 hM1
    go_enter Tryz.func20, Tryz.ntmps20
    go_wp2_with fail
    go_step3
    go_wp2_with fail
    go_step3
    go_wp2_with fail
    refine PS.mono ?_
    rintro e w0 ⟨rfl, t0⟩
    have hS0 := HN.out.keep t0 (by simp)
    have H0 := Lib.hid (And.intro hS0 t0)
    have hxl : x < w0.heap.size := lt_of hS0.cell
    have u0 : ∀ w', One1 x w0.drew w' → w'.cell? ⟨x, 0, none⟩ = some (theDisk b) := fun w' hg => by
      rw [World.cell?_of_block (w := w0) (w' := w') (hg hxl).1]; exact stob_0 hS0.cell
    have u1 : ∀ w', One1 x w0.drew w' → w'.cell? ⟨x, 2, none⟩ = some (theIx i) := fun w' hg => by
      rw [World.cell?_of_block (w := w0) (w' := w') (hg hxl).1]; exact stob_2 hS0.cell
    have PA := Lib.hid (ix_all2 (w := w0.drew) (ix_kept.keep hS0.ix ((Turn.refl [] w0).drew) (by simp)) (fineW_of hS0.rise (by have := HW.out.1.1; omega)))
    have HXL := Lib.hid hxl
    unfold theDisk at u0
    unfold theIx at u1
    clear PS t0 hS0 hxl
    go_wp2_with fail
    refine wp_region_mvg (One1 x) (One1.refl x) One1.trans [(0, 8, true), (8, 1, false), (9, 1, false), (10, 1, true)] (by kernel_rfl) (by kernel_rfl) ?_
    simp only [mvAll, mvSeg, List.drop_succ_cons, List.drop_zero, List.cons_append, List.nil_append, Nat.reduceAdd]
    iterate 8
      refine wpLing_still ?_ (fun w' hG K hK => ?_) (fun K hK => ?_)
      rotate_left
      · have v0 := u0 w' hG
        have v1 := u1 w' hG
        clear hG
        unfold mvVal
        go_simp
        try exact hK
      go_simp
      refine hK _ ?_
      clear hK K
    clear u0 u1
    refine wpLing_call (fun K hK => ?_)
    unfold mvRun
    go_simp
    simp only [mvUpon]
    have PA := PA.out
    unfold theIx at PA
    refine PA.mono ?_
    rintro e w1 ⟨ao, m, c, rfl, hp, hf, t⟩
    refine ⟨_, rfl, ?_⟩
    go_simp
    have H1 : Hid (SC w1 base b x q i M n false L most Fd Fi ∧ Turn [] w w1 ∧ Prr w1 (.slice ao m c) m L) := Lib.hid ⟨H0.out.1.keep (((Turn.refl [] w0).drew).trans t) (by simp), (H0.out.2.drew).trans t, hp⟩
    refine hK _ _ (fun hx => ⟨t.block x hx (by simp), t.size⟩) ?_
    clear hK K hp hf t PA
    refine wpLing_call (fun K hK => ?_)
    unfold mvRun
    go_simp
    simp only [mvUpon]
    have HSV := HS.out w1 _ _ H1.out.1.log.1 H1.out.2.2
    unfold theDisk at HSV
    refine HSV.mono ?_
    rintro e w2 ⟨k1, rfl, rfl, hn⟩
    refine ⟨_, rfl, ?_⟩
    go_simp
    have H2 : Hid (SNext CSt w w2 base b x M1 n false L most (stF x q Fd Fi)) := Lib.hid (SNext.cat (fun _ hk => .inl hk) H1.out.2.1.nil_any (H1.out.1.disk_next hn HFM.out))
    refine hK _ _ (fun hx => ?_) ?_
    · obtain ⟨_, _, _, t2⟩ := hn
      exact ⟨t2.block x hx H1.out.1.xd, t2.size⟩
    clear hK K hn HSV HS
    refine wpLing_still ?_ (fun w' hG K hK => ?_) (fun K hK => ?_)
    rotate_left
    · unfold mvVal
      go_simp
      try exact hK
    go_simp
    refine hK _ ?_
    clear hK K
    refine wpLing_nil ?_
    by_cases he : k1 = 0
    · subst he
      obtain ⟨hf1, hf2, hf3⟩ := HF1.out rfl
      obtain ⟨F1, ⟨q1, i1, Fd1, Fi1, hS1, rfl⟩, hF1, t1⟩ := H2.out
      have c1 := stob_1 hS1.cell
      have RS1 := wal_reset base b q1 M1 n false Fd1 w2 (hS1.log.w hf2) (well_limW HWS.out.2.2 HWS.out.1 HWS.out.2.1)
      have HX := Lib.hid (And.intro hS1 (And.intro hF1 (And.intro t1 (And.intro hf1 hf3))))
      clear hS1 hF1 t1 hf1 hf2 hf3
      go_wp2_with fail
      refine RS1.mono ?_
      rintro e w3 ⟨k, rfl, rfl, hn⟩
      have HN2 := Lib.hid hn
      clear hn RS1
      go_wp2_with fail
      try rw [Exit.noGoto_ret]
      go_ret
      rw [HX.out.2.2.2.1]
      refine ⟨_, rfl, rfl, SNext.cat HX.out.2.1 HX.out.2.2.1 (HX.out.1.log_next ?_ HX.out.2.2.2.2)⟩
      obtain ⟨F3, k1, k2, k3⟩ := HN2.out
      exact ⟨F3, k1.v, k2, k3⟩
    · have HQ := Lib.hid (HF0.out he)
      go_wp2_with fail
      try rw [Exit.noGoto_ret]
      go_ret
      rw [HQ.out]
      exact ⟨_, rfl, rfl, H2.out⟩
end Go.Proofs.YthcdkggkoanjpaaGreatDoor
