/- Batches of the code: Replay. Numbers and types by name. -/
import Derived.Test.YthcdkggkoanjpaaGreatDoorGen
import Derived.Test.YthcdkggkoanjpaaGreatDoorRrp
import Derived.Test.YthcdkggkoanjpaaGreatDoorBri
import Derived.Lib.AppendZerosOnto
import Derived.Lib.SliceRun
import Derived.WalkMore
namespace Go.Proofs.YthcdkggkoanjpaaGreatDoor
open Go.RowKit Go.Lib
set_option maxHeartbeats 4000000 in
set_option maxRecDepth 20000 in
theorem replay_from (v : Value) (n : Nat) (ps : List (List UInt8)) (w : World) (hr : Rws w v n ps) (ht : Tab w) (hn : n ≤ 900000) :
    Calls Tryz.prog 109 #[v] w (ReplayFrom ps w) := by
  obtain ⟨ao, c, rfl⟩ := hr.shape
  have HR := Lib.hid hr
  have HTB := Lib.hid ht
  clear hr ht
  go_enter Tryz.func109, Tryz.ntmps109
  go_wp2_with fail
  go_step3
  go_wp2_with fail
  go_step3
  go_wp2_with fail
  go_loopw [2, 3, 4, 11] (fun lv uv nv i wr => ∃ (k j m u cl cn : Nat) (al an : Option Addr), k ≤ n ∧ i = .int .i64 k ∧ lv = .slice al j cl ∧ nv = .slice an m cn ∧ uv = .int .i64 u ∧ Hid (∃ done now vs, ReplayAt ps w wr (.slice al j cl) (.slice an m cn) k j m u done now vs))
    (fun _ _ _ i _ => n - (RowKit.intOf i).toNat)
  case atStart => exact ⟨0, 0, 0, 0, 0, 0, none, none, Nat.zero_le _, rfl, rfl, rfl, rfl, Lib.hid ⟨[], [], [], Batch.nil _ _, Below.refl _ _, by simp, Nat.le_refl _, Nat.le_refl _, Nat.le_refl _, Nat.zero_le _⟩⟩
  case round =>
    obtain ⟨k, j, m, u, cl, cn, al, an, hk, rfl, rfl, rfl, rfl, hrel⟩ := hrel
    obtain ⟨done, now, vs, hat⟩ := hrel.out
    have HAT := Lib.hid hat
    clear hrel
    have hlen : n = ps.length := HR.out.1
    have hm9 : m ≤ k := hat.2.2.2.2.2.1
    by_cases hlt : k < n
    · have h3 : (k : Int) < (n : Int) := by omega
      obtain ⟨a, p, ap, cp, rfl, hp, hc, hrd, hpl⟩ := (HR.out.later hat.2.1).at hlt
      have HP := Lib.hid hp
      have hlen' := Lib.hid hlen
      have G := parts_any _ p.length p wr hrd rfl hpl
      obtain ⟨pl, hpl2⟩ : ∃ pl, pl = p.length := ⟨_, rfl⟩
      rw [← hpl2] at G hc
      clear hat hp hlen hrd hpl hpl2
      go_wp2_with fail
      refine G.mono ?_
      rintro e w2 ⟨hb2, x, T, tn, at_, ct, rfl, hTx, hwhat⟩
      have HW := Lib.hid (hwhat now.length)
      have HB := HAT.out.1.later hb2
      have HB2 := Lib.hid (And.intro HB (And.intro hb2 (HAT.out.2.1.trans (hb2.mono HAT.out.2.1.size))))
      have hTm := hTx.2.2.1
      unfold maxLen at hTm
      have htn := hTx.1
      have HT := Lib.hid hTx
      have hx256 := x.toNat_lt
      clear hc hb2 G HB hTx hwhat
      have hcase : (x = 112 ∧ ∃ s u, T = [s, u]) ∨ (x = 100 ∧ ∃ s, T = [s]) ∨ (x = 99 ∧ ∃ s, T = [s]) ∨
          (isWhat x T now.length = .stop ∧ (((x.toNat : Int) = 112 ∧ ¬ (tn : Int) = 2) ∨ (¬ (x.toNat : Int) = 112 ∧ (x.toNat : Int) = 100 ∧ ¬ (tn : Int) = 1) ∨ (¬ (x.toNat : Int) = 112 ∧ ¬ (x.toNat : Int) = 100 ∧ (x.toNat : Int) = 99 ∧ ¬ (tn : Int) = 1) ∨ (¬ (x.toNat : Int) = 112 ∧ ¬ (x.toNat : Int) = 100 ∧ ¬ (x.toNat : Int) = 99))) := by
        have xi : ∀ c : UInt8, (x.toNat : Int) = (c.toNat : Int) → x = c := fun c h => UInt8.toNat_inj.1 (by omega)
        by_cases x1 : x = 112
        · subst x1
          match T, htn with
          | [s, u], _ => exact .inl ⟨rfl, s, u, rfl⟩
          | [], h => exact .inr (.inr (.inr ⟨rfl, .inl ⟨rfl, by rw [h]; decide⟩⟩))
          | [s], h => exact .inr (.inr (.inr ⟨rfl, .inl ⟨rfl, by rw [h]; simp⟩⟩))
          | s :: u :: v :: l, h => exact .inr (.inr (.inr ⟨rfl, .inl ⟨rfl, by rw [h]; simp; omega⟩⟩))
        · have y1 : ¬ (x.toNat : Int) = 112 := fun h => x1 (xi 112 h)
          by_cases x2 : x = 100
          · subst x2
            match T, htn with
            | [s], _ => exact .inr (.inl ⟨rfl, s, rfl⟩)
            | [], h => exact .inr (.inr (.inr ⟨rfl, .inr (.inl ⟨y1, rfl, by rw [h]; decide⟩)⟩))
            | [s, u], h => exact .inr (.inr (.inr ⟨rfl, .inr (.inl ⟨y1, rfl, by rw [h]; simp⟩)⟩))
            | s :: u :: v :: l, h => exact .inr (.inr (.inr ⟨rfl, .inr (.inl ⟨y1, rfl, by rw [h]; simp; omega⟩)⟩))
          · have y2 : ¬ (x.toNat : Int) = 100 := fun h => x2 (xi 100 h)
            by_cases x3 : x = 99
            · subst x3
              match T, htn with
              | [s], _ => exact .inr (.inr (.inl ⟨rfl, s, rfl⟩))
              | [], h => exact .inr (.inr (.inr ⟨rfl, .inr (.inr (.inl ⟨y1, y2, rfl, by rw [h]; decide⟩))⟩))
              | [s, u], h => exact .inr (.inr (.inr ⟨rfl, .inr (.inr (.inl ⟨y1, y2, rfl, by rw [h]; simp⟩))⟩))
              | s :: u :: v :: l, h => exact .inr (.inr (.inr ⟨rfl, .inr (.inr (.inl ⟨y1, y2, rfl, by rw [h]; simp; omega⟩))⟩))
            · have y3 : ¬ (x.toNat : Int) = 99 := fun h => x3 (xi 99 h)
              refine .inr (.inr (.inr ⟨?_, .inr (.inr (.inr ⟨y1, y2, y3⟩))⟩))
              match T with
              | [] => rfl
              | [s] => simp [isWhat, x2, x3]
              | [s, u] => simp [isWhat, x1]
              | s :: u :: v :: l => rfl
      have HTN := Lib.hid htn
      clear htn
      rcases hcase with ⟨rfl, s, u2, rfl⟩ | ⟨rfl, s, rfl⟩ | ⟨rfl, s, rfl⟩ | ⟨hstop, hst⟩
      · obtain ⟨b0, s', rfl, e1, c0, s1⟩ := HT.out.at (k := 0) (by have := HTN.out; simp at this; omega)
        obtain rfl : s = s' := by simpa using e1
        obtain ⟨b1, s', e0, e2, c1, s2⟩ := HT.out.at (k := 1) (by have := HTN.out; simp at this; omega)
        obtain rfl : b0 = b1 := by simpa using e0
        obtain rfl : u2 = s' := by simpa using e2
        obtain rfl : tn = 2 := HTN.out
        rw [show b0.add 0 = b0 by simp [Addr.add]] at c0
        have c1' : w2.cell? ⟨b0.block, b0.off + 1, none⟩ = some (.string u2) := by simpa [Addr.add] using c1
        have HS := Lib.hid (And.intro s1 s2)
        clear e0 e1 e2 c1 s1 s2
        have d0 : w2.drew.cell? b0 = some (.string s) := c0
        have d1 : w2.drew.cell? ⟨b0.block, b0.off + 1, none⟩ = some (.string u2) := c1'
        go_wp2_with fail
        clear c0 c1'
        have HB3 : Hid (Batch w2.drew w.heap.size (.slice al j cl) (.slice an m cn) j m done now vs ∧ Below w.heap.size w w2.drew) := Lib.hid (And.intro (HB2.out.1.later (below_drewN (Below.refl _ w2) 1)) (below_drewN HB2.out.2.2 1))
        obtain ⟨o, ho⟩ : ∃ o : Opm, o = ⟨false, s, u2⟩ := ⟨_, rfl⟩
        have HO : Hid (what p now.length = .op o ∧ o.key.size ≤ maxLen ∧ o.val.size ≤ maxLen) := Lib.hid ⟨by rw [HW.out, ho]; simp [isWhat], by rw [ho]; exact ⟨HS.out.1, HS.out.2⟩⟩
        have F := Lib.hid (show m + 1 ≤ 1000000 by omega)
        have HC : Hid (Cells (w2.drew.alloc (.cells #[.bool false, .string s, .string u2] 65)) (.slice (some ⟨w2.drew.heap.size, 0, none⟩) 1 1) 3 1 (ov o)) := Lib.hid (by rw [ho]; exact Cells.lit w2.drew (ov ⟨false, s, u2⟩) 65 (0, 0) 3 1 rfl)
        have HB4 := Lib.hid (HB3.out.1.later ((Below.refl _ w2.drew).alloc (Nat.le_refl _) (.cells #[.bool false, .string s, .string u2] 65)))
        have HBB := Lib.hid (HB3.out.2.alloc HB3.out.2.size (.cells #[.bool false, .string s, .string u2] 65))
        clear ho
        go_region_law (refine step_append_gen elemOp rfl (.tmp 29) (.tmp 37) rfl w.heap.size _ m (ovs now) (by simp [Act.eval]) HB4.out.2.2.2.2.2.1 _ 1 (ov o) (by simp [Act.eval]) HC.out (ov_one o) (m + 1) rfl F (by decide) HBB.out.size ?_; intro ao8 c8 w8 hown8 hb8 hg8 ho8)
        all_goals
          have HX := Lib.hid (And.intro hown8 (And.intro hb8 (And.intro hg8 ho8)))
          clear hown8 hb8 hg8 ho8
          go_wp2_with fail
          exact ⟨⟨k + 1, j, m + 1, u, cl, c8, al, ao8, by omega, by simp, rfl, rfl, rfl, Lib.hid ⟨done, _, vs, replay_op HAT.out HP.out HO.out.1 (HB4.out.op o HO.out.2 HX.out.1 HX.out.2.2.1 HX.out.2.2.2) (HBB.out.trans HX.out.2.1)⟩⟩, by simp only [RowKit.intOf]; omega⟩
      · obtain ⟨b0, s', rfl, e1, c0, s1⟩ := HT.out.at (k := 0) (by have := HTN.out; simp at this; omega)
        obtain rfl : s = s' := by simpa using e1
        obtain rfl : tn = 1 := HTN.out
        rw [show b0.add 0 = b0 by simp [Addr.add]] at c0
        have HS := Lib.hid s1
        have HB3 := Lib.hid (And.intro HB2.out.1 HB2.out.2.2)
        obtain ⟨w3, hw3⟩ : ∃ w3, w3 = w2 := ⟨_, rfl⟩
        subst hw3
        clear e1 s1
        obtain ⟨o, ho⟩ : ∃ o : Opm, o = ⟨true, s, ⟨#[]⟩⟩ := ⟨_, rfl⟩
        have HO : Hid (what p now.length = .op o ∧ o.key.size ≤ maxLen ∧ o.val.size ≤ maxLen) := Lib.hid ⟨by rw [HW.out, ho]; simp [isWhat], by rw [ho]; exact ⟨HS.out, Nat.zero_le _⟩⟩
        have F := Lib.hid (show m + 1 ≤ 1000000 by omega)
        have HC : Hid (Cells (w3.alloc (.cells #[.bool true, .string s, .string ⟨#[]⟩] 65)) (.slice (some ⟨w3.heap.size, 0, none⟩) 1 1) 3 1 (ov o)) := Lib.hid (by rw [ho]; exact Cells.lit w3 (ov ⟨true, s, ⟨#[]⟩⟩) 65 (0, 0) 3 1 rfl)
        have HB4 := Lib.hid (HB3.out.1.later ((Below.refl _ w3).alloc (Nat.le_refl _) (.cells #[.bool true, .string s, .string ⟨#[]⟩] 65)))
        have HBB := Lib.hid (HB3.out.2.alloc HB3.out.2.size (.cells #[.bool true, .string s, .string ⟨#[]⟩] 65))
        clear ho
        go_wp2_with (at_builtin; refine wpList_append_gen elemOp rfl (.tmp 47) (.tmp 52) rfl w.heap.size _ m (ovs now) rfl HB4.out.2.2.2.2.2.1 _ 1 (ov o) rfl HC.out (ov_one o) (m + 1) rfl F (by decide) HBB.out.size ?_; intro ao8 c8 w8 hown8 hb8 hg8 ho8)
        exact ⟨⟨k + 1, j, m + 1, u, cl, c8, al, ao8, by omega, by simp, rfl, rfl, rfl, Lib.hid ⟨done, _, vs, replay_op HAT.out HP.out HO.out.1 (HB4.out.op o HO.out.2 hown8 hg8 ho8) (HBB.out.trans hb8)⟩⟩, by simp only [RowKit.intOf]; omega⟩
      · obtain ⟨b0, s', rfl, e1, c0, s1⟩ := HT.out.at (k := 0) (by have := HTN.out; simp at this; omega)
        obtain rfl : s = s' := by simpa using e1
        obtain rfl : tn = 1 := HTN.out
        rw [show b0.add 0 = b0 by simp [Addr.add]] at c0
        have d0 : ∀ w', Grow w2.drew w' → w'.cell? b0 = some (.string s) := fun w' hg => grow_cell hg c0
        have hmn : m = now.length := HAT.out.1.2.1
        have HMN := Lib.hid hmn
        have HB3 : Hid (Batch w2.drew w.heap.size (.slice al j cl) (.slice an m cn) j m done now vs ∧ Below w.heap.size w w2.drew ∧ Grow wr w2.drew) := Lib.hid ⟨HB2.out.1.later (below_drewN (Below.refl _ w2) 1), below_drewN HB2.out.2.2 1, below_drewN HB2.out.2.1 1⟩
        have CNT := count_any _ m now w2.drew (HB3.out.1.now (by unfold maxLen; omega)) (HTB.out.later HB3.out.2.1)
        clear e1 s1 hmn
        by_cases hs : s = txt (digs m)
        · subst hs
          have HO : Hid (what p now.length = .done) := Lib.hid (by rw [HW.out, ← HMN.out]; simp [isWhat])
          go_wp2_with fail
          clear c0
          refine wp_region_mv [(0, 12, true), (12, 1, false), (13, 3, true)] (by kernel_rfl) (by kernel_rfl) ?_
          simp only [mvAll, mvSeg, List.drop_succ_cons, List.drop_zero, List.cons_append, List.nil_append, Nat.reduceAdd]
          iterate 12
            refine wpLin_still ?_ (fun w' hG K hK => ?_) (fun K hK => ?_)
            rotate_left
            · unfold mvVal
              go_simp
              try exact hK
            go_simp
            refine hK _ ?_
            clear hK K
          refine wpLin_call (fun K hK => ?_)
          unfold mvRun
          go_simp
          simp only [mvUpon]
          refine CNT.mono ?_
          rintro e w4 ⟨rfl, hb4⟩
          refine ⟨_, rfl, ?_⟩
          go_simp
          refine hK _ _ hb4 ?_
          clear hK K
          have HB4 : Hid (Batch w4 w.heap.size (.slice al j cl) (.slice an m cn) j m done now vs ∧ Below w.heap.size w w4 ∧ Grow wr w4) := Lib.hid ⟨HB3.out.1.later hb4, HB3.out.2.1.trans (hb4.mono HB3.out.2.1.size), Grow.trans HB3.out.2.2 hb4⟩
          clear hb4 d0 CNT
          iterate 3
            refine wpLin_still ?_ (fun w' hG K hK => ?_) (fun K hK => ?_)
            rotate_left
            · unfold mvVal
              go_simp
              try exact hK
            go_simp
            refine hK _ ?_
            clear hK K
          refine wpLin_nil ?_
          have F := Lib.hid (show j + 1 ≤ 1000000 by have := HAT.out.2.2.2.2.1; omega)
          have HC : Hid (Cells (w4.alloc (.cells #[.slice an m cn] 52)) (.slice (some ⟨w4.heap.size, 0, none⟩) 1 1) 1 1 [.slice an m cn]) := Lib.hid (Cells.lit w4 [.slice an m cn] 52 (0, 0) 1 1 rfl)
          have HB5 := Lib.hid (HB4.out.1.later ((Below.refl _ w4).alloc (Nat.le_refl _) (.cells #[.slice an m cn] 52)))
          have HBB := Lib.hid (HB4.out.2.1.alloc HB4.out.2.1.size (.cells #[.slice an m cn] 52))
          go_wp2_with (at_builtin; refine wpList_append_gen elemOps rfl (.tmp 70) (.tmp 72) rfl w.heap.size _ j vs rfl HB5.out.2.2.1 _ 1 [.slice an m cn] rfl HC.out (by intro u hu; simp only [List.mem_singleton] at hu; subst hu; rfl) (j + 1) rfl F (by decide) HBB.out.size ?_; intro ao8 c8 w8 hown8 hb8 hg8 ho8)
          exact ⟨⟨k + 1, j + 1, 0, k + 1, c8, 0, ao8, none, by omega, by simp, rfl, rfl, by simp, Lib.hid ⟨_, [], _, replay_done HAT.out HP.out HO.out (HB5.out.done (by unfold maxLen; omega) hown8 hg8 ho8) (HBB.out.trans hb8)⟩⟩, by simp only [RowKit.intOf]; omega⟩
        · have z1 : (s.toList == (txt (digs m)).toList) = false := by
            simp only [beq_eq_false_iff_ne, ne_eq]
            exact fun h => hs (text_inj' h)
          have z2 : ¬ s.toList = (txt (digs m)).toList := fun h => hs (text_inj' h)
          have HO : Hid (what p now.length = .stop) := Lib.hid (by rw [HW.out, ← HMN.out]; simp [isWhat, hs])
          have HS := fun w' hg => replay_stops HAT.out (.inr ⟨p, HP.out, HO.out⟩) (by rw [← hlen'.out]; unfold maxLen; omega) w' hg
          have HS := Lib.hid HS
          clear hs
          go_wp2_with fail
          clear c0
          refine wp_region_mv [(0, 12, true), (12, 1, false), (13, 3, true)] (by kernel_rfl) (by kernel_rfl) ?_
          simp only [mvAll, mvSeg, List.drop_succ_cons, List.drop_zero, List.cons_append, List.nil_append, Nat.reduceAdd]
          iterate 12
            refine wpLin_still ?_ (fun w' hG K hK => ?_) (fun K hK => ?_)
            rotate_left
            · unfold mvVal
              go_simp
              try exact hK
            go_simp
            refine hK _ ?_
            clear hK K
          refine wpLin_call (fun K hK => ?_)
          unfold mvRun
          go_simp
          simp only [mvUpon]
          refine CNT.mono ?_
          rintro e w4 ⟨rfl, hb4⟩
          refine ⟨_, rfl, ?_⟩
          go_simp
          refine hK _ _ hb4 ?_
          clear hK K
          have HB4 : Hid (Batch w4 w.heap.size (.slice al j cl) (.slice an m cn) j m done now vs ∧ Below w.heap.size w w4 ∧ Grow wr w4) := Lib.hid ⟨HB3.out.1.later hb4, HB3.out.2.1.trans (hb4.mono HB3.out.2.1.size), Grow.trans HB3.out.2.2 hb4⟩
          clear hb4 d0 CNT
          iterate 3
            refine wpLin_still ?_ (fun w' hG K hK => ?_) (fun K hK => ?_)
            rotate_left
            · unfold mvVal
              go_simp
              try exact hK
            go_simp
            refine hK _ ?_
            clear hK K
          refine wpLin_nil ?_
          go_wp2_with fail
          (try rw [Exit.noGoto_ret])
          go_ret2
          exact HS.out _ HB4.out.2.2
      · have HS := fun w' hg => replay_stops HAT.out (.inr ⟨p, HP.out, by rw [HW.out, hstop]⟩) (by rw [← hlen'.out]; unfold maxLen; omega) w' hg
        have HS := Lib.hid HS
        clear hstop
        rcases hst with ⟨y1, y2⟩ | ⟨y1, y2, y3⟩ | ⟨y1, y2, y3, y4⟩ | ⟨y1, y2, y3⟩
        · have z1 : ((x.toNat : Int) == 99) = false := by rw [y1]; rfl
          have z2 : ((x.toNat : Int) == 100) = false := by rw [y1]; rfl
          have z3 : ((tn : Int) == 2) = false := by simpa using y2
          go_wp2_with fail
          go_quiet (fail)
          go_wp2_with fail
          (try rw [Exit.noGoto_ret])
          go_ret2
          exact HS.out _ (below_drewN HB2.out.2.1 nq)
        · have z0 : ((x.toNat : Int) == 112) = false := by rw [y2]; rfl
          have z1 : ((x.toNat : Int) == 99) = false := by rw [y2]; rfl
          have z3 : ((tn : Int) == 1) = false := by simpa using y3
          go_wp2_with fail
          go_quiet (fail)
          go_wp2_with fail
          (try rw [Exit.noGoto_ret])
          go_ret2
          exact HS.out _ (below_drewN HB2.out.2.1 nq)
        · have z0 : ((x.toNat : Int) == 112) = false := by rw [y3]; rfl
          have z1 : ((x.toNat : Int) == 100) = false := by rw [y3]; rfl
          have z3 : ((tn : Int) == 1) = false := by simpa using y4
          go_wp2_with fail
          go_quiet (fail)
          go_wp2_with fail
          (try rw [Exit.noGoto_ret])
          go_ret2
          exact HS.out _ (below_drewN HB2.out.2.1 nq)
        · have z0 : ((x.toNat : Int) == 112) = false := by simpa using y1
          have z1 : ((x.toNat : Int) == 100) = false := by simpa using y2
          have z3 : ((x.toNat : Int) == 99) = false := by simpa using y3
          go_wp2_with fail
          go_quiet (fail)
          go_wp2_with fail
          (try rw [Exit.noGoto_ret])
          go_ret2
          exact HS.out _ (below_drewN HB2.out.2.1 nq)
    · have h3 : ¬ (k : Int) < (n : Int) := by omega
      have hkn : k = n := by omega
      have HS := fun w' hg => replay_stops HAT.out (.inl (List.drop_eq_nil_of_le (by omega))) (by unfold maxLen; omega) w' hg
      have HS := Lib.hid HS
      clear hat hlen hkn
      go_wp2_with fail
      (try rw [Exit.noGoto_ret])
      go_ret2
      exact HS.out _ (Below.refl _ _)
end Go.Proofs.YthcdkggkoanjpaaGreatDoor
