/- DiskLists, walked. Numbers and types by name. -/
import Derived.Test.YtloccomlnnndoaaHvy
import Derived.Test.YtloccomlnnndoaaLk
import Derived.Test.YtloccomlnnndoaaKee
import Derived.Test.YtloccomlnnndoaaFlk
namespace Go.Proofs.Ytloccomlnnndoaa
open Go.RowKit Go.Maps Go.Sort Go.WideMaps

theorem Dk.toLk {w : World} {base b : Nat} (h : Dk w base b [] 100000 0 []) : Lk w base b 0 := ⟨[], 0, h, by omega, by omega, by simp, by simp⟩

set_option maxHeartbeats 1000000 in
set_option maxRecDepth 100000 in
theorem lists_walk (ao : Option Addr) (a : Addr) (len cap : Nat) (hao : ao = some a ∨ ao = none ∧ len = 0) (w : World) (hcap : len ≤ maxLen) (hA : ∀ i, i < len → ∃ d nm to lB lF lK, ActAt w a i d nm to lB lF lK) :
    Calls Try.prog 10 #[.slice ao len cap] w fun e w' => e = .returned (.bool true) ∧ Below w.heap.size w w' := by
  have HH := Lib.hid (heavy_any ao a len cap hao w hcap hA)
  have HAO := Lib.hid hao
  have HC := Lib.hid hcap
  unfold maxLen at hcap
  clear hA hao
  go_enter Try.func10, Try.ntmps10
  go_wp2_with fail
  refine HH.out.mono ?_
  rintro e w0 ⟨hor, rfl⟩
  clear HH
  rcases hor with rfl | ⟨rfl, hlight⟩
  · go_wp2_with (go_at_call 13; refine (awake_any _).mono ?_; rintro e w' ⟨rfl, hb9⟩)
    go_ret
    exact ⟨rfl, hb9⟩
  have HL := Lib.hid hlight
  have hl120 : len ≤ 120 := hlight.1
  clear hlight
  go_wp2_with fail
  refine (new_zero 100000 (.slice none 0 0) [] w (Reads.nil w) (by simp)).mono ?_
  rintro e w1 ⟨b, rfl, hz, hg⟩
  unfold theDisk
  have H0 := Lib.hid (And.intro (dk_zero hz).toLk ((below_of_grown hg).mono (Nat.le_refl _)))
  clear hz hg
  go_wp2_with fail
  go_loopw [4] (fun i wr => ∃ k : Nat, k ≤ len ∧ i = .int .i64 k ∧ Hid (Lk wr w.heap.size b k ∧ Below w.heap.size w wr))
    (fun i _ => len - (intOf i).toNat)
  case atStart => exact ⟨0, Nat.zero_le _, rfl, H0.out⟩
  case round =>
    obtain ⟨k, hk, rfl, hrel⟩ := hrel
    clear H0
    by_cases h1 : k < len
    · obtain rfl : ao = some a := by
        rcases HAO.out with h | ⟨_, h⟩
        · exact h
        · omega
      have h3 : (k : Int) < (len : Int) := by omega
      obtain ⟨d, nm, to, c0, c1, c2, hnm, hto⟩ := HL.out.2 k h1
      rw [add_fld _ _ _ (by omega)] at c1 c2
      have hM := hrel.out
      have tc : ∀ (p : Addr) v, w.cell? p = some v → wr.cell? p = some v := fun p v h => (World.cell?_of_block (hM.2.block p.block (World.block_lt_of_cell? w _ h))).trans h
      replace c0 := tc _ _ c0
      replace c1 := tc _ _ c1
      replace c2 := tc _ _ c2
      clear tc hrel
      by_cases d0 : d = 0
      · subst d0
        go_wp2_with fail
        refine (create_lk w.heap.size b k nm wr hM.1 (by omega) hnm).mono ?_
        rintro e w2 ⟨⟨kk, rfl⟩, hM2, hb2⟩
        have H2 := Lib.hid (And.intro hM2 (hM.2.trans (hb2.mono (Nat.le_refl _))))
        clear hM hM2 hb2
        go_wp2_with fail
        go_roundw
        case rel => exact ⟨k + 1, by omega, by go_num, H2.out⟩
        case measure => simp [intOf]; omega
      by_cases d1 : d = 1
      · subst d1
        go_wp2_with fail
        refine (create_lk w.heap.size b k nm wr hM.1 (by omega) hnm).mono ?_
        rintro e w2 ⟨⟨kk, rfl⟩, hM2, hb2⟩
        have H2 := Lib.hid (And.intro hM2 (hM.2.trans (hb2.mono (Nat.le_refl _))))
        clear hM hM2 hb2
        go_wp2_with fail
        go_roundw
        case rel => exact ⟨k + 1, by omega, by go_num, H2.out⟩
        case measure => simp [intOf]; omega
      by_cases d2 : d = 2
      · subst d2
        go_wp2_with fail
        refine (create_lk w.heap.size b k nm wr hM.1 (by omega) hnm).mono ?_
        rintro e w2 ⟨⟨kk, rfl⟩, hM2, hb2⟩
        have H2 := Lib.hid (And.intro hM2 (hM.2.trans (hb2.mono (Nat.le_refl _))))
        clear hM hM2 hb2
        go_wp2_with fail
        go_roundw
        case rel => exact ⟨k + 1, by omega, by go_num, H2.out⟩
        case measure => simp [intOf]; omega
      by_cases d5 : d = 5
      · subst d5
        go_wp2_with fail
        go_region_law (go_simp; go_at_call 27; refine (rename_lk w.heap.size b k nm to _ (hM.1.new ((Turn.refl [] wr).drewN 1)) (by omega) hnm hto).mono ?_; rintro e w2 ⟨⟨kk, rfl⟩, hM2, hb2⟩)
        all_goals
          have H2 := Lib.hid (And.intro hM2 ((hM.2.trans (((Turn.refl [] wr).drewN 1).below hM.2.size (by simp))).trans (hb2.mono (Nat.le_refl _))))
          clear hM hM2 hb2
          go_wp2_with fail
          go_roundw
          case rel => exact ⟨k + 1, by omega, by go_num, H2.out⟩
          case measure => simp [intOf]; omega
      by_cases d6 : d = 6
      · subst d6
        go_wp2_with fail
        refine (remove_lk w.heap.size b k nm wr hM.1 (by omega) hnm).mono ?_
        rintro e w2 ⟨⟨kk, rfl⟩, hM2, hb2⟩
        have H2 := Lib.hid (And.intro hM2 (hM.2.trans (hb2.mono (Nat.le_refl _))))
        clear hM hM2 hb2
        go_wp2_with fail
        go_roundw
        case rel => exact ⟨k + 1, by omega, by go_num, H2.out⟩
        case measure => simp [intOf]; omega
      have e0 : (d == 0) = false := by simpa using d0
      have e1 : (d == 1) = false := by simpa using d1
      have e2 : (d == 2) = false := by simpa using d2
      have e5 : (d == 5) = false := by simpa using d5
      have e6 : (d == 6) = false := by simpa using d6
      have H2 : Hid (Lk wr w.heap.size b (k + 1) ∧ Below w.heap.size w wr) := Lib.hid ⟨by
        obtain ⟨fs, ca, q1, q2, q3, q4, q5⟩ := hM.1
        exact ⟨fs, ca, q1, q2, by omega, by omega, q5⟩, hM.2⟩
      clear hM
      go_wp2_with fail
      go_roundw
      case rel => exact ⟨k + 1, by omega, by go_num, H2.out⟩
      case measure => simp [intOf]; omega
    · obtain rfl : k = len := by omega
      have h3 : ¬ (k : Int) < (k : Int) := by omega
      go_wp2_with fail
      obtain ⟨hlk, hBw⟩ := hrel.out
      clear hrel
      refine (files_lk w.heap.size b k wr hlk (by omega)).mono ?_
      rintro e w1 ⟨aF, cF, ns, fs, ca, rfl, hnl, hat, hrise, hD, hg, hmem⟩
      have HF := Lib.hid (And.intro hrise hmem)
      have H1 := Lib.hid (And.intro hat (And.intro hD (hBw.trans ((Turn.of_none hg : Turn [] wr w1).below hBw.size (by simp)))))
      generalize hq : ns.length = q at *
      have HQ := Lib.hid hq
      clear hat hrise hD hg hmem hlk hBw hq
      go_wp2_with fail
      go_loopw [6] (fun i w2 => ∃ j : Nat, j ≤ q ∧ i = .int .i64 j ∧ Hid (NamesAt w2 aF ns ∧ Dk w2 w.heap.size b fs 100000 ca [] ∧ Below w.heap.size w w2))
        (fun i _ => q - (intOf i).toNat)
      case atStart => exact ⟨0, Nat.zero_le _, rfl, H1⟩
      case round =>
        obtain ⟨j, hj, rfl, hrel⟩ := hrel
        clear H1
        by_cases hlt : j < q
        · have hlt3 : (j : Int) < (q : Int) := by omega
          obtain ⟨x, hx⟩ : ∃ x, ns[j]? = some x := ⟨ns[j]'(by have := HQ.out; omega), List.getElem?_eq_getElem (by have := HQ.out; omega)⟩
          obtain ⟨nm, hnm⟩ : ∃ nm : ByteArray, nm = ⟨x.toArray⟩ := ⟨_, rfl⟩
          have hnl : nm.toList = x := by rw [hnm, ByteArray.toList_eq]
          obtain ⟨aG, rfl, hc⟩ := hrel.out.1 j x hx
          rw [← hnm] at hc
          obtain ⟨hx0, hx1, sy, hx2⟩ := HF.out.2 x (List.mem_of_getElem? hx)
          have RD := read_dk w.heap.size b fs x [] sy 100000 ca [] nm wr hrel.out.2.1 (by rw [hnm]; exact hx2) (by rw [hnm]; show x.toArray.size ≤ _; simp; unfold maxLen; omega) (by simp)
          have hemp : nm.toList.isEmpty = false := by rw [hnl]; cases x with | nil => exact absurd rfl hx0 | cons y ys => rfl
          have HX := Lib.hid (And.intro hx hnl)
          clear hx hnm hnl hx0 hx1 hx2
          go_wp2_with fail
          refine RD.mono ?_
          rintro e w3 ⟨aR, cR, rfl, _, hg3⟩
          have hG3 : Grow wr w3 := Turn.below (Turn.of_none hg3 : Turn [] wr w3) (Nat.le_refl _) (by simp)
          have H3 : Hid (NamesAt w3 (some aG) ns ∧ Dk w3 w.heap.size b fs 100000 ca [] ∧ Below w.heap.size w w3) := Lib.hid (by
            obtain ⟨h1, h2, h3⟩ := hrel.out
            refine ⟨fun i y hy => ?_, h2.new (Turn.of_none hg3), h3.trans (hG3.mono h3.size)⟩
            obtain ⟨a', e, hc'⟩ := h1 i y hy
            exact ⟨a', e, by rw [World.cell?_of_block (hG3.block _ (World.block_lt_of_cell? wr _ hc'))]; exact hc'⟩)
          have hcell : ∀ w', Grow w3.drew w' → w'.cell? (aG.add (j * 3)) = some (.string nm) := fun w' hg => by
            have h4 : Grow wr w' := hG3.trans (Grow.trans (b := w3.drew) (Below.drew (Below.refl _ w3)) hg)
            rw [World.cell?_of_block (h4.block _ (World.block_lt_of_cell? wr _ hc))]
            exact hc
          have B3 : Hid (Below w.heap.size w w3.drew) := Lib.hid H3.out.2.2.drew
          clear hc hg3 hG3 RD hrel
          by_cases j0 : j = 0
          · have z1 : ¬ (0 : Int) < (j : Int) := by omega
            have z2 : decide ((0 : Int) < (j : Int)) = false := decide_eq_false z1
            have z3 : (0 < j) = False := eq_false (by omega)
            clear j0 z1
            go_wp2_with fail
            refine wp_region_mv [(0, 26, true), (26, 1, false), (27, 2, true)] (by kernel_rfl) (by kernel_rfl) ?_
            simp only [mvAll, mvSeg, List.drop_succ_cons, List.drop_zero, List.cons_append, List.nil_append, Nat.reduceAdd]
            iterate 26
              refine wpLin_still ?_ (fun w' hG K hK => ?_) (fun K hK => ?_)
              rotate_left
              · unfold mvVal
                go_simp
                try exact hK
              go_simp
              refine hK _ ?_
              clear hK K
            refine wpLin_call (fun K hK => ?_)
            unfold mvRun
            go_simp
            simp only [mvUpon]
            refine (num_any _ _).mono ?_
            rintro e w4 ⟨rfl, rfl⟩
            refine ⟨_, rfl, ?_⟩
            go_simp
            refine hK _ _ (Grow.refl _) ?_
            clear hK K
            iterate 2
              refine wpLin_still ?_ (fun w' hG K hK => ?_) (fun K hK => ?_)
              rotate_left
              · unfold mvVal
                go_simp
                try exact hK
              go_simp
              refine hK _ ?_
              clear hK K
            refine wpLin_nil ?_
            have H4 : Hid (NamesAt w3.drew (some aG) ns ∧ Dk w3.drew w.heap.size b fs 100000 ca [] ∧ Below w.heap.size w w3.drew) := Lib.hid ⟨H3.out.1, H3.out.2.1.new ((Turn.refl [] w3).drewN 1), B3.out⟩
            clear hcell
            go_wp2_with fail
            go_roundw
            case rel => exact ⟨j + 1, by omega, by go_num, H4⟩
            case measure => simp [intOf]; omega
          · obtain ⟨jp, hjp⟩ : ∃ jp, j = jp + 1 := ⟨j - 1, by omega⟩
            have z1 : (0 : Int) < (j : Int) := by omega
            have z2 : decide ((0 : Int) < (j : Int)) = true := decide_eq_true z1
            have z3 : 0 < j := by omega
            obtain ⟨y, hy⟩ : ∃ y, ns[jp]? = some y := ⟨ns[jp]'(by have := HQ.out; omega), List.getElem?_eq_getElem (by have := HQ.out; omega)⟩
            obtain ⟨np, hnp⟩ : ∃ np : ByteArray, np = ⟨y.toArray⟩ := ⟨_, rfl⟩
            have hnpl : np.toList = y := by rw [hnp, ByteArray.toList_eq]
            obtain ⟨aG', e', hc'⟩ := H3.out.1 jp y hy
            cases e'
            rw [← hnp] at hc'
            have hless : (Op.bytesLess nm.toList np.toList || nm.toList == np.toList) = false := by
              rw [HX.out.2, hnpl]
              exact HF.out.1 jp y x hy (by rw [← hjp]; exact HX.out.1)
            have hcell2 : ∀ w', Grow w3.drew w' → w'.cell? (aG.add (jp * 3)) = some (.string np) := fun w' hg => by
              have h4 : Grow w3 w' := Grow.trans (b := w3.drew) (Below.drew (Below.refl _ w3)) hg
              rw [World.cell?_of_block (h4.block _ (World.block_lt_of_cell? w3 _ hc'))]
              exact hc'
            have wjp : IntKind.i64.wrap ((j : Int) - 1) = (jp : Int) := by rw [IntKind.wrap_i64]; omega
            have y3 : (jp : Int) < (q : Int) := by omega
            have y3' : jp < q := by omega
            clear hy hnp hnpl hc' hjp
            go_wp2_with fail
            refine wp_region_mv [(0, 26, true), (26, 1, false), (27, 2, true)] (by kernel_rfl) (by kernel_rfl) ?_
            simp only [mvAll, mvSeg, List.drop_succ_cons, List.drop_zero, List.cons_append, List.nil_append, Nat.reduceAdd]
            iterate 26
              refine wpLin_still ?_ (fun w' hG K hK => ?_) (fun K hK => ?_)
              rotate_left
              · unfold mvVal
                go_simp
                try exact hK
              go_simp
              refine hK _ ?_
              clear hK K
            refine wpLin_call (fun K hK => ?_)
            unfold mvRun
            go_simp
            simp only [mvUpon]
            refine (num_any _ _).mono ?_
            rintro e w4 ⟨rfl, rfl⟩
            refine ⟨_, rfl, ?_⟩
            go_simp
            refine hK _ _ (Grow.refl _) ?_
            clear hK K
            iterate 2
              refine wpLin_still ?_ (fun w' hG K hK => ?_) (fun K hK => ?_)
              rotate_left
              · unfold mvVal
                go_simp
                try exact hK
              go_simp
              refine hK _ ?_
              clear hK K
            refine wpLin_nil ?_
            have H4 : Hid (NamesAt w3.drew (some aG) ns ∧ Dk w3.drew w.heap.size b fs 100000 ca [] ∧ Below w.heap.size w w3.drew) := Lib.hid ⟨H3.out.1, H3.out.2.1.new ((Turn.refl [] w3).drewN 1), B3.out⟩
            clear hcell hcell2 hless wjp
            go_wp2_with fail
            go_roundw
            case rel => exact ⟨j + 1, by omega, by go_num, H4⟩
            case measure => simp [intOf]; omega
        · obtain rfl : j = q := by omega
          have hlt3 : ¬ (j : Int) < (j : Int) := by omega
          go_wp2_with (go_at_call 13; refine (awake_any _).mono ?_; rintro e w' ⟨rfl, hb9⟩)
          go_ret
          exact ⟨rfl, hrel.out.2.2.trans (hb9.mono hrel.out.2.2.size)⟩

end Go.Proofs.Ytloccomlnnndoaa
