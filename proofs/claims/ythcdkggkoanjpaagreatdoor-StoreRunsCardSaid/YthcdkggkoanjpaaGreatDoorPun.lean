/- Pairs as bytes: plain facts. Numbers and types by name. -/
import Derived.Test.YthcdkggkoanjpaaGreatDoorCop
import Derived.Test.YthcdkggkoanjpaaGreatDoorFrp
import Derived.Test.YthcdkggkoanjpaaGreatDoorScr
import Derived.Test.YthcdkggkoanjpaaGreatDoorOpr
import Derived.Test.YthcdkggkoanjpaaGreatDoorPuw
import Derived.Test.YthcdkggkoanjpaaGreatDoorPlk
namespace Go.Proofs.YthcdkggkoanjpaaGreatDoor
open Go.RowKit Go.Lib
theorem ref_frame (v : Value) (m : Nat) (p : List UInt8) (w : World) (hr : Reads w v (bv p)) (hm : m = p.length) (hl : m ≤ 1048576) :
    Calls Tryz.prog 135 #[v] w fun e w' => ∃ ao c, e = .returned (.tuple #[.slice ao (m + 8) c, .int .i64 0]) ∧ Bs w' w.heap.size (.slice ao (m + 8) c) (m + 8) (frm p) ∧ Below w.heap.size w w' := by
  obtain ⟨a1, c1, rfl⟩ : ∃ ao c, v = .slice ao m c := by obtain ⟨ao, c, rfl, _⟩ := hr; exact ⟨ao, c, by rw [bv_length, hm]⟩
  have h1 : ¬ (1048576 : Int) < (m : Int) := by omega
  have L : Hid (m ≤ 1000000000) := Lib.hid (by omega)
  have F1 : Hid (8 ≤ maxLen) := Lib.hid (by unfold maxLen; omega)
  have F2 : Hid (8 * 1 ≤ 140737488355328) := Lib.hid (by omega)
  have F3 : Hid (m + 8 ≤ maxLen) := Lib.hid (by unfold maxLen; omega)
  have F4 : Hid ((m + 8) * 1 ≤ 140737488355328) := Lib.hid (by omega)
  have HR := Lib.hid (And.intro hr hm)
  clear hr hm hl
  go_enter Tryz.func135, Tryz.ntmps135
  go_wp2_with fail
  refine (ref_u32 (m : Int) w).mono ?_
  rintro e w1 ⟨ao2, c2, rfl, hown2, hb2⟩
  go_wp2_with fail
  refine (ref_sum _ m p w1 (HR.out.1.later hb2) HR.out.2 L).mono ?_
  rintro e w1' ⟨rfl, hw1⟩
  subst hw1
  go_wp2_with fail
  refine (ref_u32 (sumOf 0 p) w1').mono ?_
  rintro e w3 ⟨ao3, c3, rfl, hown3, hb3⟩
  go_wp2_with (first | (at_builtin; refine wpList_append_bytes rfl (.tmp 10) (.tmp 13) rfl w.heap.size (.slice ao2 4 c2) 4 _ rfl (hown2.below hb3 (Nat.le_refl _)) (.slice ao3 4 c3) 4 _ rfl rfl hown3.reads 8 rfl F1 F2 (Nat.le_trans hb2.size hb3.size) ?_; intro ao4 c4 w4 hown4 hb4) | (at_builtin; refine wpList_append_bytes rfl (.tmp 15) (.tmp 16) rfl w.heap.size (.slice ao4 8 c4) 8 _ rfl hown4 (.slice a1 m c1) m p HR.out.2 rfl (HR.out.1.later ((hb2.trans (hb3.mono hb2.size)).trans hb4)) (m + 8) (by omega) F3 F4 (Nat.le_trans (Nat.le_trans hb2.size hb3.size) hb4.size) ?_; intro ao5 c5 w5 hown5 hb5))
  go_ret2
  refine ⟨ao5, c5, rfl, ?_, ((hb2.trans (hb3.mono hb2.size)).trans hb4).trans hb5⟩
  have hm := HR.out.2
  unfold frm
  rw [← hm]
  exact hown5
theorem ref_frame_long (v : Value) (m : Nat) (p : List UInt8) (w : World) (hr : Reads w v (bv p)) (hm : m = p.length) (hl : ¬ m ≤ 1048576) :
    Calls Tryz.prog 135 #[v] w fun e w' => e = .returned (.tuple #[.slice none 0 0, .int .i64 9]) ∧ w' = w := by
  obtain ⟨a1, c1, rfl⟩ : ∃ ao c, v = .slice ao m c := by obtain ⟨ao, c, rfl, _⟩ := hr; exact ⟨ao, c, by rw [bv_length, hm]⟩
  have h1 : (1048576 : Int) < (m : Int) := by omega
  clear hr hm hl
  go_enter Tryz.func135, Tryz.ntmps135
  go_wp2_with fail
  go_ret2
  exact ⟨rfl, rfl⟩
end Go.Proofs.YthcdkggkoanjpaaGreatDoor
namespace Go.Proofs.YthcdkggkoanjpaaGreatDoor
open Go.RowKit Go.Lib
theorem ref_encode (v : Value) (n : Nat) (L : List ByteArray) (w : World) (hr : Texts w v n L) (hb : bulk L ≤ 4000000) :
    Calls Tryz.prog 136 #[v] w fun e w' => ∃ ao c, e = .returned (.slice ao (enc L).length c) ∧ Bs w' w.heap.size (.slice ao (enc L).length c) (enc L).length (enc L) ∧ Below w.heap.size w w' := by
  obtain ⟨ao, c, rfl⟩ := hr.shape
  have HR := Lib.hid hr
  have hn := hr.1
  have hlen := encs_length L
  have hnb := bulk_length L
  have HL : Hid ((encs L).length ≤ 20000000 ∧ n = L.length ∧ (enc L).length = 4 + (encs L).length ∧ n ≤ 4000000) := Lib.hid ⟨by omega, hn, by simp [enc, be4_length], by omega⟩
  have hn1 : n ≤ 4000000 := HL.out.2.2.2
  clear hr hlen hnb hb hn
  go_enter Tryz.func136, Tryz.ntmps136
  go_wp2_with fail
  refine (ref_u32 _ _).mono ?_
  rintro e w1 ⟨ao1, c1, rfl, hown1, hb1⟩
  have HB := Lib.hid (And.intro hown1 hb1)
  clear hown1 hb1
  go_wp2_with fail
  go_loopw [3, 4] (fun v i wr => ∃ j : Nat, j ≤ n ∧ i = .int .i64 j ∧ Hid (∃ ao m c, v = .slice ao m c ∧ Bs wr w.heap.size (.slice ao m c) m (be4 n ++ encs (L.take j)) ∧ Below w.heap.size w wr))
    (fun _ i _ => n - (intOf i).toNat)
  case atStart => exact ⟨0, Nat.zero_le _, rfl, Lib.hid ⟨_, _, _, rfl, by simpa [encs] using HB.out.1, HB.out.2⟩⟩
  case round =>
    obtain ⟨j, hj, rfl, hrel⟩ := hrel
    obtain ⟨ao2, m, c2, rfl, hown, hbel⟩ := hrel.out
    clear HB hrel
    have hm : m = 4 + (encs (L.take j)).length := by rw [hown.1]; simp [be4_length]
    have hle := encs_take_le L j
    by_cases h1 : j < n
    · have h3 : (j : Int) < (n : Int) := by omega
      obtain ⟨a, s, rfl, hs, hc0, hsz⟩ := HR.out.at h1
      have HCELL : Hid (∀ w', Below w.heap.size w w' → w'.cell? (a.add j) = some (.string s)) := Lib.hid fun w' hg => by
        rw [World.cell?_of_block (hg.block _ (World.block_lt_of_cell? w _ hc0))]
        exact hc0
      have hc := HCELL.out wr hbel
      clear hc0
      have hT := encs_take hs
      have hle3 := encs_take_le L (j + 1)
      have hsz2 : (encs (L.take (j + 1))).length = (encs (L.take j)).length + 4 + s.size := by rw [hT]; simp [be4_length]; omega
      have hl5 := HL.out.1
      have HT := Lib.hid hT
      have F1 : Hid (m + 4 ≤ maxLen) := Lib.hid (by unfold maxLen; omega)
      have F2 : Hid ((m + 4) * 1 ≤ 140737488355328) := Lib.hid (by omega)
      have HM : Hid (m + 4 + s.size ≤ maxLen) := Lib.hid (by unfold maxLen; omega)
      have HM2 : Hid (m + 4 + s.size ≤ 140737488355328) := Lib.hid (by omega)
      have HO := Lib.hid (And.intro hown hbel)
      clear hs hT hsz hown hbel hle hle3 hsz2 hm hl5
      go_wp2_with (first | (go_at_call 182; refine (ref_u32 _ _).mono ?_; rintro e w2 ⟨ao3, c3, rfl, hown3, hb3⟩) | (at_builtin; refine wpList_append_bytes rfl (.tmp 14) (.tmp 20) rfl w.heap.size (.slice ao2 m c2) m _ rfl (HO.out.1.below hb3 (Nat.le_refl _)) (.slice ao3 4 c3) 4 _ rfl rfl hown3.reads (m + 4) rfl F1 F2 (Nat.le_trans HO.out.2.size hb3.size) ?_; intro ao4 c4 w4 hown4 hb4; have hc4 := HCELL.out w4 ((HO.out.2.trans (hb3.mono HO.out.2.size)).trans hb4)) | (at_builtin; refine wpList_append_text rfl (.tmp 22) (.tmp 26) rfl w.heap.size (.slice ao4 (m + 4) c4) (m + 4) _ rfl hown4 s rfl (m + 4 + s.size) rfl HM HM2 ((HO.out.2.trans (hb3.mono HO.out.2.size)).trans hb4).size ?_; intro ao5 c5 w5 hown5 hb5))
      refine ⟨⟨j + 1, by omega, by simp, Lib.hid ⟨ao5, _, c5, rfl, ?_, ((HO.out.2.trans (hb3.mono HO.out.2.size)).trans hb4).trans hb5⟩⟩, by simp [intOf]; omega⟩
      rw [HT.out]
      simpa [List.append_assoc] using hown5
    · have h3 : ¬ (j : Int) < (n : Int) := by omega
      obtain rfl : j = n := by omega
      have hkL : L.take j = L := List.take_of_length_le (by have := HL.out.2.1; omega)
      rw [hkL] at hown hm hle
      go_wp2_with fail
      go_ret
      have hE := HL.out.2.2.1
      have hjl : j = L.length := HL.out.2.1
      rw [← hE] at hm
      subst hm
      refine ⟨ao2, c2, ?_, ?_, hbel⟩
      · simp [hE]
      · show Bs wr _ _ _ (be4 L.length ++ encs L)
        rw [← hjl]
        exact hown
end Go.Proofs.YthcdkggkoanjpaaGreatDoor
namespace Go.Proofs.YthcdkggkoanjpaaGreatDoor
open Go.RowKit Go.Lib Go.Sort
def flatP (L : List Prm) : List ByteArray := L.flatMap fun o => [o.key, o.val]
def bulkP (L : List Prm) : Nat := (L.map fun o => 1 + o.key.size + o.val.size).sum
theorem bulkP_cons (o : Prm) (L : List Prm) : bulkP (o :: L) = 1 + o.key.size + o.val.size + bulkP L := by simp [bulkP]
theorem flatP_bulk (L : List Prm) : bulk (flatP L) ≤ 2 * bulkP L := by
  induction L with
  | nil => simp [flatP, bulk, bulkP]
  | cons o L ih =>
    have e : flatP (o :: L) = [o.key, o.val] ++ flatP L := by simp [flatP]
    rw [e, bulk_append, bulkP_cons]
    simp only [bulk, List.map_cons, List.map_nil, List.sum_cons, List.sum_nil]
    simp only [bulk] at ih
    omega
theorem flatP_length (L : List Prm) : (flatP L).length = L.length * 2 := by
  induction L with
  | nil => rfl
  | cons o L ih =>
    have e : flatP (o :: L) = [o.key, o.val] ++ flatP L := by simp [flatP]
    rw [e, List.length_append, ih]; simp; omega
theorem flatP_next {L : List Prm} {k : Nat} {x : Prm} (h : L[k]? = some x) : flatP (L.take (k + 1)) = flatP (L.take k) ++ [x.key, x.val] := by
  rw [take_next h]; simp [flatP]
theorem flatP_mem {L : List Prm} {s : ByteArray} (h : s ∈ flatP L) : ∃ o ∈ L, s = o.key ∨ s = o.val := by
  obtain ⟨o, ho, hs⟩ := List.mem_flatMap.1 h
  exact ⟨o, ho, by simpa using hs⟩
def Slim (L : List Prm) : Prop := bulkP L ≤ 500000 ∧ (enc (flatP L)).length ≤ 900000
theorem bulkP_len (L : List Prm) : L.length ≤ bulkP L := by
  induction L with
  | nil => simp
  | cons o L ih => rw [bulkP_cons, List.length_cons]; omega
theorem slim_of {L : List Prm} (h : bulkP L ≤ 20000) : Slim L := by
  have h1 := enc_length (flatP L)
  have h2 := flatP_bulk L
  have h3 := flatP_length L
  have h4 := bulkP_len L
  exact ⟨by omega, by omega⟩
theorem mvRun_texts {ops : Array Oper} {o : Oper} {a : Act} {w : World} {K : Act → World → Prop} (hgd : o.guard = none) (s x : Operand)
    (ho : o.op = .call { callee := .builtin .append, args := #[s, x], argTypes := #[97, 97] })
    (base : Nat) (v : Value) (n : Nat) (l : List ByteArray) (hs : a.eval s = v) (hown : Ss w base v n l) (vb : Value) (m : Nat) (k : List ByteArray) (hm : m = k.length) (hx : a.eval x = vb) (hr : Reads w vb (sv k))
    (p : Nat) (hp : p = n + m) (h63 : Hid (p ≤ maxLen)) (hbytes : Hid (p * 16 ≤ 140737488355328)) (hbase : base ≤ w.heap.size)
    (h : ∀ ao c w', Ss w' base (.slice ao p c) p (l ++ k) → Below base w w' → K (a.put o.dst (.slice ao p c)) w') : mvRun Tryz.prog ops o K a w := by
  subst hm hp
  obtain ⟨hn, hown⟩ := hown
  obtain ⟨ao, c, w', hr', h2, h3, _⟩ := run_append_strs o.type base v n (sv l) w hown vb (sv k) hr (sv_one k) (by rw [sv_length]; exact h63.out) (by rw [sv_length]; exact hbytes.out) hbase
  rw [sv_length] at hr' h2
  have hw : Region.wanted o (yielded ops a.tmps) = true := by simp [Region.wanted, hgd]
  unfold mvRun
  rw [if_pos hw]
  unfold execOp
  simp only [ho, resolve, invoke, builtin, Sem.run_bind, Sem.run_pure, Result.andThen_ok, List.map_toArray, List.map_cons, List.map_nil, hs, hx, hr', mvUpon]
  refine h ao c w' ⟨by rw [hn, List.length_append], ?_⟩ (below_grown_own hown h3 hbase)
  simpa [sv] using h2
set_option maxHeartbeats 1000000 in
theorem ref_table_no (v : Value) (n : Nat) (L : List Prm) (w : World) (hr : Prr w v n L) (hR : ¬ Rise L) :
    Calls Tryz.prog 92 #[v] w fun e w' => e = .returned (.tuple #[.slice none 0 0, .int .i64 1]) ∧ Grow w w' := by
  have HP := right_pairs v n L w hr
  rw [decide_eq_false hR] at HP
  obtain ⟨ao, c, rfl⟩ := hr.shape
  clear hr hR
  go_enter Tryz.func92, Tryz.ntmps92
  go_wp2_with fail
  refine HP.mono ?_
  rintro e w1 ⟨q, rfl, hw⟩
  have HG : Hid (Grow w w1) := Lib.hid (by rw [hw]; exact below_drewN (Below.refl _ w) q)
  clear HP hw
  go_wp2_with fail
  go_ret2
  exact ⟨rfl, HG.out⟩
set_option maxRecDepth 100000 in
set_option maxHeartbeats 4000000 in
theorem ref_tableS (v : Value) (n : Nat) (L : List Prm) (w : World) (hr : Prr w v n L) (hR : Rise L) (hb : Slim L) (hn : n ≤ 500000) :
    Calls Tryz.prog 92 #[v] w fun e w' => ∃ ao m c, e = .returned (.tuple #[.slice ao m c, .int .i64 0]) ∧ Bs w' w.heap.size (.slice ao m c) m (frm (enc (flatP L))) ∧ Below w.heap.size w w' := by
  have HP := right_pairs v n L w hr
  rw [decide_eq_true hR] at HP
  obtain ⟨ao, c, rfl⟩ := hr.shape
  have HR := Lib.hid hr
  have HB := Lib.hid hb
  clear hr hR hb
  go_enter Tryz.func92, Tryz.ntmps92
  go_wp2_with fail
  refine HP.mono ?_
  rintro e w1 ⟨q, rfl, hw⟩
  have HG : Hid (Grow w w1) := Lib.hid (by rw [hw]; exact below_drewN (Below.refl _ w) q)
  clear HP hw
  go_wp2_with fail
  go_loopw [4, 5] (fun tv i wr => ∃ (k r c : Nat) (at' : Option Addr), k ≤ n ∧ i = .int .i64 k ∧ tv = .slice at' r c ∧ Hid (r = k * 2 ∧ Ss wr w.heap.size (.slice at' r c) r (flatP (L.take k)) ∧ Below w.heap.size w wr))
    (fun _ i _ => n - (RowKit.intOf i).toNat)
  case atStart => exact ⟨0, 0, 0, none, Nat.zero_le _, rfl, rfl, Lib.hid ⟨rfl, ⟨rfl, World.ownsRow_nil _ _ _ _⟩, HG.out⟩⟩
  case round =>
    obtain ⟨k, r, ct, at', hk, rfl, rfl, hrel⟩ := hrel
    by_cases h1 : k < n
    · have h3 : (k : Int) < (n : Int) := by omega
      obtain ⟨a, x, rfl, hx, c0, c1, _, _⟩ := (HR.out.later hrel.out.2.2).at h1
      have F1 : Hid (r + 2 ≤ maxLen) := Lib.hid (by have := hrel.out.1; unfold maxLen; omega)
      have F2 : Hid ((r + 2) * 16 ≤ 140737488355328) := Lib.hid (by have := hrel.out.1; omega)
      have hblk : (a.add (k * 2)).block < w.heap.size := by
        obtain ⟨a', o', e, _, d0, _⟩ := HR.out.at h1
        cases e
        exact World.block_lt_of_cell? w _ d0
      have HX := Lib.hid hx
      have d0 : ∀ w', Below w.heap.size wr.drew w' → w'.cell? (a.add (k * 2)) = some (.string x.key) := fun w' hb => below_cell hb (p := a.add (k * 2)) hblk c0
      have d1 : ∀ w', Below w.heap.size wr.drew w' → w'.cell? ⟨(a.add (k * 2)).block, (a.add (k * 2)).off + 1, none⟩ = some (.string x.val) := fun w' hb => below_cell hb (p := ⟨(a.add (k * 2)).block, (a.add (k * 2)).off + 1, none⟩) hblk c1
      clear hx c0 c1 hblk
      go_wp2_with fail
      refine wp_region_mvg (Below w.heap.size) (Below.refl _) (fun h k => h.trans k) [(0, 11, true), (11, 1, false), (12, 1, false), (13, 1, true)] (by kernel_rfl) (by kernel_rfl) ?_
      simp only [mvAll, mvSeg, List.drop_succ_cons, List.drop_zero, List.cons_append, List.nil_append, Nat.reduceAdd]
      iterate 11
        refine wpLing_still ?_ (fun w' hG K hK => ?_) (fun K hK => ?_)
        rotate_left
        · have e0 := d0 w' hG
          have e1 := d1 w' hG
          clear hG
          unfold mvVal
          go_simp
          try exact hK
        go_simp
        refine hK _ ?_
        clear hK K
      clear d0 d1
      refine wpLing_call (fun K hK => ?_)
      unfold mvRun
      go_simp
      simp only [mvUpon]
      have hsz : w.heap.size ≤ wr.drew.heap.size := hrel.out.2.2.size
      refine hK _ _ ((Below.refl _ wr.drew).alloc hsz _) ?_
      clear hK K
      refine wpLing_call (fun K hK => ?_)
      refine mvRun_texts rfl (.tmp 15) (.tmp 26) rfl w.heap.size _ r (flatP (L.take k)) (by simp [Act.eval]; rfl) ((show Ss wr.drew w.heap.size (.slice at' r ct) r (flatP (L.take k)) from hrel.out.2.1).alloc _) _ 2 [x.key, x.val] rfl (by simp [Act.eval]; rfl) (Reads.lit _ (sv [x.key, x.val]) 9 (0, 0) 2 rfl) (r + 2) rfl F1 F2 (Nat.le_trans hsz (by simp)) ?_
      intro a6 c6 w6 hown6 hb6
      have HN := Lib.hid (And.intro hown6 ((hrel.out.2.2.drew.alloc hsz _).trans hb6))
      refine hK _ _ hb6 ?_
      clear hK K hown6 hb6
      refine wpLing_still ?_ (fun w' hG K hK => ?_) (fun K hK => ?_)
      rotate_left
      · unfold mvVal
        go_simp
        try exact hK
      go_simp
      refine hK _ ?_
      clear hK K
      refine wpLing_nil ?_
      go_wp2_with fail
      go_roundw
      case rel =>
        refine ⟨k + 1, r + 2, c6, a6, by omega, by go_num, rfl, Lib.hid ⟨by have := hrel.out.1; omega, ?_, HN.out.2⟩⟩
        rw [flatP_next HX.out]
        exact HN.out.1
      case measure => simp [RowKit.intOf]; omega
    · obtain rfl : k = n := by omega
      have h3 : ¬ (k : Int) < (k : Int) := by omega
      have hL : L.take k = L := List.take_of_length_le (by have := HR.out.1; omega)
      rw [hL] at hrel
      have hbl : bulk (flatP L) ≤ 1000000 := by have := flatP_bulk L; have := HB.out.1; omega
      have hT : Texts wr (.slice at' r ct) r (flatP L) := hrel.out.2.1.texts (by have := hrel.out.1; unfold maxLen; omega) (fun s hs => by
        obtain ⟨o, ho, he⟩ := flatP_mem hs
        have := HR.out.2.2.2 o ho
        rcases he with rfl | rfl
        · exact this.1
        · exact this.2)
      have HE := Lib.hid (ref_encode _ r (flatP L) wr hT (by omega))
      have hel : (enc (flatP L)).length ≤ 1048576 := by have := HB.out.2; omega
      obtain ⟨m, hm⟩ : ∃ m, m = (enc (flatP L)).length := ⟨_, rfl⟩
      rw [← hm] at HE hel
      have HM := Lib.hid hm
      clear hT hbl hL hm
      go_wp2_with fail
      refine HE.out.mono ?_
      rintro e w2 ⟨a2, c2, rfl, hown2, hb2⟩
      have HF := Lib.hid (ref_frame _ m (enc (flatP L)) w2 hown2.reads HM.out hel)
      have HB2 := Lib.hid (hrel.out.2.2.trans (hb2.mono hrel.out.2.2.size))
      clear hown2 hb2 HE hel
      go_wp2_with fail
      refine HF.out.mono ?_
      rintro e w3 ⟨a3, c3, rfl, hown3, hb3⟩
      have HN := Lib.hid (And.intro hown3 hb3)
      clear hown3 hb3 HF
      go_wp2_with fail
      go_ret2
      exact ⟨a3, m + 8, c3, rfl, HN.out.1.base HB2.out.size, HB2.out.trans (HN.out.2.mono HB2.out.size)⟩
end Go.Proofs.YthcdkggkoanjpaaGreatDoor
namespace Go.Proofs.YthcdkggkoanjpaaGreatDoor
open Go.RowKit Go.Lib Go.Sort
def pairUp : List ByteArray → List Prm
  | k :: v :: r => ⟨k, v⟩ :: pairUp r
  | _ => []
theorem pairUp_flat (L : List Prm) : pairUp (flatP L) = L := by
  induction L with
  | nil => rfl
  | cons o L ih =>
    have e : flatP (o :: L) = o.key :: o.val :: flatP L := by simp [flatP]
    rw [e, pairUp, ih]
theorem pairUp_length : ∀ (n : Nat) (t : List ByteArray), t.length = 2 * n → (pairUp t).length = n
  | 0, [], _ => rfl
  | 0, _ :: _, h => by simp at h
  | n + 1, [], h => by simp at h
  | n + 1, [_], h => by simp at h; omega
  | n + 1, k :: v :: r, h => by
    have := pairUp_length n r (by simp at h; omega)
    simp [pairUp, this]
theorem pairUp_at : ∀ (i : Nat) (t : List ByteArray) (k v : ByteArray), t[2 * i]? = some k → t[2 * i + 1]? = some v → (pairUp t)[i]? = some ⟨k, v⟩
  | 0, [], _, _, h, _ => by cases h
  | 0, [a], _, _, _, h => by cases h
  | 0, a :: b :: r, k, v, h1, h2 => by
    simp at h1 h2
    subst h1 h2
    rfl
  | i + 1, [], _, _, h, _ => by cases h
  | i + 1, [a], _, _, h, _ => by simp [show 2 * (i + 1) = 2 * i + 1 + 1 by omega] at h
  | i + 1, a :: b :: r, k, v, h1, h2 => by
    rw [show 2 * (i + 1) = 2 * i + 1 + 1 by omega] at h1 h2
    simp only [List.getElem?_cons_succ] at h1 h2
    rw [pairUp, List.getElem?_cons_succ]
    exact pairUp_at i r k v h1 h2
theorem pairUp_mem {t : List ByteArray} {o : Prm} (h : o ∈ pairUp t) : o.key ∈ t ∧ o.val ∈ t := by
  induction t using pairUp.induct with
  | case1 k v r ih =>
    rw [pairUp] at h
    rcases List.mem_cons.1 h with rfl | h
    · simp
    · have := ih h
      exact ⟨by simp [this.1], by simp [this.2]⟩
  | case2 t hne =>
    have : pairUp t = [] := by unfold pairUp; split <;> simp_all
    rw [this] at h
    cases h
def unP (b : List UInt8) : Option (List Prm) :=
  match one? b with
  | some (p, []) => match dec p with
    | some t => if t.length % 2 = 0 ∧ Rise (pairUp t) then some (pairUp t) else none
    | none => none
  | _ => none
theorem one_size {b p r : List UInt8} (h : one? b = some (p, r)) : b.length = 8 + p.length + r.length := by
  by_cases h8 : 8 ≤ b.length
  · obtain ⟨q, hq⟩ : ∃ q : Nat, numOf ((b.drop 0).take 4) = q := ⟨_, (Int.toNat_of_nonneg (numOf_bound _).1).symm⟩
    obtain ⟨s, hs⟩ : ∃ s : Nat, numOf ((b.drop (0 + 4)).take 4) = s := ⟨_, (Int.toNat_of_nonneg (numOf_bound _).1).symm⟩
    have h1 := one_drop (b := b) (k := 0) (by omega) q s hq hs
    rw [List.drop_zero] at h1
    rw [h1] at h
    split at h
    · rename_i hc
      simp only [Option.some.injEq, Prod.mk.injEq] at h
      obtain ⟨rfl, rfl⟩ := h
      simp only [List.length_take, List.length_drop]
      omega
    · cases h
  · have h1 := one_short (b := b) (k := 0) (by omega)
    rw [List.drop_zero] at h1
    rw [h1] at h
    cases h
theorem scan_one {b p : List UInt8} {n : Nat} (h : Scans b [p] n) (hn : n = b.length) : one? b = some (p, []) := by
  cases h with
  | more h1 h2 =>
    cases h2 with
    | stop h3 =>
      rename_i r
      have h4 := one_size h1
      have : r = [] := List.eq_nil_of_length_eq_zero (by omega)
      rw [h1, this]
theorem scan_not {b : List UInt8} {l : List (List UInt8)} {n : Nat} (h : Scans b l n) (hn : ¬ (l.length = 1 ∧ n = b.length)) : unP b = none := by
  unfold unP
  split
  · rename_i p h1
    exfalso
    have h2 : Scans b [p] (8 + p.length + 0) := .more h1 (.stop rfl)
    obtain ⟨rfl, e⟩ := scans_det h h2
    have := one_size h1
    exact hn ⟨rfl, by simp at this; omega⟩
  · rfl
theorem unP_of {b p : List UInt8} (h : one? b = some (p, [])) : unP b = match dec p with
    | some t => if t.length % 2 = 0 ∧ Rise (pairUp t) then some (pairUp t) else none
    | none => none := by
  unfold unP
  rw [h]
theorem unP_frmS {L : List Prm} (hR : Rise L) (hb : Slim L) : unP (frm (enc (flatP L))) = some L := by
  have h1 : bulk (flatP L) ≤ 2000000 := by have := flatP_bulk L; have := hb.1; omega
  have h2 : (enc (flatP L)).length ≤ 1048576 := by have := hb.2; omega
  have h3 := one_frm (enc (flatP L)) [] h2
  rw [List.append_nil] at h3
  rw [unP_of h3, dec_enc _ h1]
  simp only
  rw [pairUp_flat, if_pos ⟨by rw [flatP_length]; omega, hR⟩]
theorem num_size {b r : List UInt8} {n : Nat} (h : num? b = some (n, r)) : r.length + 4 = b.length := by
  unfold num? at h
  split at h
  · simp only [Option.some.injEq, Prod.mk.injEq] at h
    obtain ⟨_, rfl⟩ := h
    simp only [List.length_drop]; omega
  · cases h
theorem texts_size : ∀ (k : Nat) (b : List UInt8) (L : List ByteArray) (q : List UInt8), texts? k b = some (L, q) → 4 * L.length + q.length ≤ b.length
  | 0, b, L, q, h => by
    simp only [texts?, Option.some.injEq, Prod.mk.injEq] at h
    obtain ⟨rfl, rfl⟩ := h
    simp
  | k + 1, b, L, q, h => by
    rw [texts?] at h
    cases ht : text? b with
    | none => rw [ht] at h; cases h
    | some x =>
      obtain ⟨t, r⟩ := x
      rw [ht] at h
      simp only at h
      have hr : r.length + 4 ≤ b.length := by
        unfold text? at ht
        cases hn : num? b with
        | none => rw [hn] at ht; cases ht
        | some y =>
          obtain ⟨n, r'⟩ := y
          have h1 := num_size hn
          rw [hn] at ht
          simp only at ht
          split at ht
          · simp only [Option.some.injEq, Prod.mk.injEq] at ht
            obtain ⟨_, rfl⟩ := ht
            simp only [List.length_drop]; omega
          · cases ht
      cases hk : texts? k r with
      | none => rw [hk] at h; cases h
      | some z =>
        obtain ⟨L', q'⟩ := z
        rw [hk] at h
        simp only [Option.some.injEq, Prod.mk.injEq] at h
        obtain ⟨rfl, rfl⟩ := h
        have := texts_size k r L' q' hk
        simp only [List.length_cons]; omega
theorem dec_length_le {b : List UInt8} {L : List ByteArray} (h : dec b = some L) : L.length ≤ b.length := by
  unfold dec list? at h
  cases hn : num? b with
  | none => rw [hn] at h; cases h
  | some y =>
    obtain ⟨n, r⟩ := y
    have h1 := num_size hn
    rw [hn] at h
    simp only at h
    cases hk : texts? n r with
    | none => rw [hk] at h; cases h
    | some z =>
      obtain ⟨L', q'⟩ := z
      rw [hk] at h
      have h2 := texts_size n r L' q' hk
      cases q' with
      | nil =>
        simp only [Option.some.injEq] at h
        subst h
        omega
      | cons x q => cases h
theorem bulkPQ (L : List Prm) : bulkP L = bulkQ L := rfl
theorem bulkP_base (L : List Prm) : bulkP (baseP L) ≤ bulkP L := by rw [bulkPQ, bulkPQ]; exact bulkQ_base L
theorem bulkP_length (L : List Prm) : L.length ≤ bulkP L := by
  induction L with
  | nil => simp
  | cons o L ih => rw [bulkP_cons, List.length_cons]; omega
end Go.Proofs.YthcdkggkoanjpaaGreatDoor
