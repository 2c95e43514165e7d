/- The reference's Table: pairs as bytes. Numbers and types by name. -/
import Derived.Test.YtabmjjicplomlaaPap
import Derived.Test.YtabmjjicplomlaaRec
import Derived.Test.YtabmjjicplomlaaFrr
namespace Go.Proofs.Ytabmjjicplomlaa
open Go.RowKit Go.Lib Go.Sort

def flatP (L : List Prm) : List ByteArray := L.flatMap fun o => [o.key, o.val]
def bulkP (L : List Prm) : Nat := (L.map fun o => 1 + o.key.size + o.val.size).sum
theorem bulkP_cons (o : Prm) (L : List Prm) : bulkP (o :: L) = 1 + o.key.size + o.val.size + bulkP L := by simp [bulkP]
theorem flatP_bulk (L : List Prm) : bulk (flatP L) ≤ 2 * bulkP L := by
  induction L with
  | nil => simp [flatP, bulk, bulkP]
  | cons o L ih =>
    have e : flatP (o :: L) = [o.key, o.val] ++ flatP L := by simp [flatP]
    rw [e, bulk_append, bulkP_cons]
    simp only [bulk, List.map_cons, List.map_nil, List.sum_cons, List.sum_nil]
    simp only [bulk] at ih
    omega
theorem flatP_length (L : List Prm) : (flatP L).length = L.length * 2 := by
  induction L with
  | nil => rfl
  | cons o L ih =>
    have e : flatP (o :: L) = [o.key, o.val] ++ flatP L := by simp [flatP]
    rw [e, List.length_append, ih]; simp; omega
theorem flatP_next {L : List Prm} {k : Nat} {x : Prm} (h : L[k]? = some x) : flatP (L.take (k + 1)) = flatP (L.take k) ++ [x.key, x.val] := by
  rw [take_next h]; simp [flatP]
theorem flatP_mem {L : List Prm} {s : ByteArray} (h : s ∈ flatP L) : ∃ o ∈ L, s = o.key ∨ s = o.val := by
  obtain ⟨o, ho, hs⟩ := List.mem_flatMap.1 h
  exact ⟨o, ho, by simpa using hs⟩

theorem mvRun_texts {ops : Array Oper} {o : Oper} {a : Act} {w : World} {K : Act → World → Prop} (hgd : o.guard = none) (s x : Operand)
    (ho : o.op = .call { callee := .builtin .append, args := #[s, x], argTypes := #[51, 51] })
    (base : Nat) (v : Value) (n : Nat) (l : List ByteArray) (hs : a.eval s = v) (hown : Ss w base v n l) (vb : Value) (m : Nat) (k : List ByteArray) (hm : m = k.length) (hx : a.eval x = vb) (hr : Reads w vb (sv k))
    (p : Nat) (hp : p = n + m) (h63 : Hid (p ≤ maxLen)) (hbytes : Hid (p * 16 ≤ 140737488355328)) (hbase : base ≤ w.heap.size)
    (h : ∀ ao c w', Ss w' base (.slice ao p c) p (l ++ k) → Below base w w' → K (a.put o.dst (.slice ao p c)) w') : mvRun Try.prog ops o K a w := by
  subst hm hp
  obtain ⟨hn, hown⟩ := hown
  obtain ⟨ao, c, w', hr', h2, h3, _⟩ := run_append_strs o.type base v n (sv l) w hown vb (sv k) hr (sv_one k) (by rw [sv_length]; exact h63.out) (by rw [sv_length]; exact hbytes.out) hbase
  rw [sv_length] at hr' h2
  have hw : Region.wanted o (yielded ops a.tmps) = true := by simp [Region.wanted, hgd]
  unfold mvRun
  rw [if_pos hw]
  unfold execOp
  simp only [ho, resolve, invoke, builtin, Sem.run_bind, Sem.run_pure, Result.andThen_ok, List.map_toArray, List.map_cons, List.map_nil, hs, hx, hr', mvUpon]
  refine h ao c w' ⟨by rw [hn, List.length_append], ?_⟩ (below_grown_own hown h3 hbase)
  simpa [sv] using h2

set_option maxHeartbeats 1000000 in
theorem ref_table_no (v : Value) (n : Nat) (L : List Prm) (w : World) (hr : Prr w v n L) (hR : ¬ Rise L) :
    Calls Try.prog 14 #[v] w fun e w' => e = .returned (.tuple #[.slice none 0 0, .int .i64 1]) ∧ Grow w w' := by
  have HP := right_pairs v n L w hr
  rw [decide_eq_false hR] at HP
  obtain ⟨ao, c, rfl⟩ := hr.shape
  clear hr hR
  go_enter Try.func14, Try.ntmps14
  go_wp2_with fail
  refine HP.mono ?_
  rintro e w1 ⟨q, rfl, hw⟩
  have HG : Hid (Grow w w1) := Lib.hid (by rw [hw]; exact below_drewN (Below.refl _ w) q)
  clear HP hw
  go_wp2_with fail
  go_ret2
  exact ⟨rfl, HG.out⟩

set_option maxRecDepth 100000 in
set_option maxHeartbeats 4000000 in
theorem ref_table (v : Value) (n : Nat) (L : List Prm) (w : World) (hr : Prr w v n L) (hR : Rise L) (hb : bulkP L ≤ 3000) (hn : n ≤ 3000) :
    Calls Try.prog 14 #[v] w fun e w' => ∃ ao m c, e = .returned (.tuple #[.slice ao m c, .int .i64 0]) ∧ Bs w' w.heap.size (.slice ao m c) m (frm (enc (flatP L))) ∧ Below w.heap.size w w' := by
  have HP := right_pairs v n L w hr
  rw [decide_eq_true hR] at HP
  obtain ⟨ao, c, rfl⟩ := hr.shape
  have HR := Lib.hid hr
  have HB := Lib.hid hb
  clear hr hR hb
  go_enter Try.func14, Try.ntmps14
  go_wp2_with fail
  refine HP.mono ?_
  rintro e w1 ⟨q, rfl, hw⟩
  have HG : Hid (Grow w w1) := Lib.hid (by rw [hw]; exact below_drewN (Below.refl _ w) q)
  clear HP hw
  go_wp2_with fail
  go_loopw [4, 5] (fun tv i wr => ∃ (k r c : Nat) (at' : Option Addr), k ≤ n ∧ i = .int .i64 k ∧ tv = .slice at' r c ∧ Hid (r = k * 2 ∧ Ss wr w.heap.size (.slice at' r c) r (flatP (L.take k)) ∧ Below w.heap.size w wr))
    (fun _ i _ => n - (RowKit.intOf i).toNat)
  case atStart => exact ⟨0, 0, 0, none, Nat.zero_le _, rfl, rfl, Lib.hid ⟨rfl, ⟨rfl, World.ownsRow_nil _ _ _ _⟩, HG.out⟩⟩
  case round =>
    obtain ⟨k, r, ct, at', hk, rfl, rfl, hrel⟩ := hrel
    by_cases h1 : k < n
    · have h3 : (k : Int) < (n : Int) := by omega
      obtain ⟨a, x, rfl, hx, c0, c1, _, _⟩ := (HR.out.later hrel.out.2.2).at h1
      have F1 : Hid (r + 2 ≤ maxLen) := Lib.hid (by have := hrel.out.1; unfold maxLen; omega)
      have F2 : Hid ((r + 2) * 16 ≤ 140737488355328) := Lib.hid (by have := hrel.out.1; omega)
      have hblk : (a.add (k * 2)).block < w.heap.size := by
        obtain ⟨a', o', e, _, d0, _⟩ := HR.out.at h1
        cases e
        exact World.block_lt_of_cell? w _ d0
      have HX := Lib.hid hx
      have d0 : ∀ w', Below w.heap.size wr.drew w' → w'.cell? (a.add (k * 2)) = some (.string x.key) := fun w' hb => below_cell hb (p := a.add (k * 2)) hblk c0
      have d1 : ∀ w', Below w.heap.size wr.drew w' → w'.cell? ⟨(a.add (k * 2)).block, (a.add (k * 2)).off + 1, none⟩ = some (.string x.val) := fun w' hb => below_cell hb (p := ⟨(a.add (k * 2)).block, (a.add (k * 2)).off + 1, none⟩) hblk c1
      clear hx c0 c1 hblk
      go_wp2_with fail
      refine wp_region_mvg (Below w.heap.size) (Below.refl _) (fun h k => h.trans k) [(0, 11, true), (11, 1, false), (12, 1, false), (13, 1, true)] (by kernel_rfl) (by kernel_rfl) ?_
      simp only [mvAll, mvSeg, List.drop_succ_cons, List.drop_zero, List.cons_append, List.nil_append, Nat.reduceAdd]
      iterate 11
        refine wpLing_still ?_ (fun w' hG K hK => ?_) (fun K hK => ?_)
        rotate_left
        · have e0 := d0 w' hG
          have e1 := d1 w' hG
          clear hG
          unfold mvVal
          go_simp
          try exact hK
        go_simp
        refine hK _ ?_
        clear hK K
      clear d0 d1
      refine wpLing_call (fun K hK => ?_)
      unfold mvRun
      go_simp
      simp only [mvUpon]
      have hsz : w.heap.size ≤ wr.drew.heap.size := hrel.out.2.2.size
      refine hK _ _ ((Below.refl _ wr.drew).alloc hsz _) ?_
      clear hK K
      refine wpLing_call (fun K hK => ?_)
      refine mvRun_texts rfl (.tmp 15) (.tmp 26) rfl w.heap.size _ r (flatP (L.take k)) (by simp [Act.eval]; rfl) ((show Ss wr.drew w.heap.size (.slice at' r ct) r (flatP (L.take k)) from hrel.out.2.1).alloc _) _ 2 [x.key, x.val] rfl (by simp [Act.eval]; rfl) (Reads.lit _ (sv [x.key, x.val]) 9 (0, 0) 2 rfl) (r + 2) rfl F1 F2 (Nat.le_trans hsz (by simp)) ?_
      intro a6 c6 w6 hown6 hb6
      have HN := Lib.hid (And.intro hown6 ((hrel.out.2.2.drew.alloc hsz _).trans hb6))
      refine hK _ _ hb6 ?_
      clear hK K hown6 hb6
      refine wpLing_still ?_ (fun w' hG K hK => ?_) (fun K hK => ?_)
      rotate_left
      · unfold mvVal
        go_simp
        try exact hK
      go_simp
      refine hK _ ?_
      clear hK K
      refine wpLing_nil ?_
      go_wp2_with fail
      go_roundw
      case rel =>
        refine ⟨k + 1, r + 2, c6, a6, by omega, by go_num, rfl, Lib.hid ⟨by have := hrel.out.1; omega, ?_, HN.out.2⟩⟩
        rw [flatP_next HX.out]
        exact HN.out.1
      case measure => simp [RowKit.intOf]; omega
    · obtain rfl : k = n := by omega
      have h3 : ¬ (k : Int) < (k : Int) := by omega
      have hL : L.take k = L := List.take_of_length_le (by have := HR.out.1; omega)
      rw [hL] at hrel
      have hbl : bulk (flatP L) ≤ 6000 := by have := flatP_bulk L; have := HB.out; omega
      have hT : Texts wr (.slice at' r ct) r (flatP L) := hrel.out.2.1.texts (by have := hrel.out.1; unfold maxLen; omega) (fun s hs => by
        obtain ⟨o, ho, he⟩ := flatP_mem hs
        have := HR.out.2.2.2 o ho
        rcases he with rfl | rfl
        · exact this.1
        · exact this.2)
      have HE := Lib.hid (ref_encode _ r (flatP L) wr hT (by omega))
      have hel : (enc (flatP L)).length ≤ 1048576 := by have := enc_length (flatP L); have := flatP_length L; have := HR.out.1; omega
      obtain ⟨m, hm⟩ : ∃ m, m = (enc (flatP L)).length := ⟨_, rfl⟩
      rw [← hm] at HE hel
      have HM := Lib.hid hm
      clear hT hbl hL hm
      go_wp2_with fail
      refine HE.out.mono ?_
      rintro e w2 ⟨a2, c2, rfl, hown2, hb2⟩
      have HF := Lib.hid (ref_frame _ m (enc (flatP L)) w2 hown2.reads HM.out hel)
      have HB2 := Lib.hid (hrel.out.2.2.trans (hb2.mono hrel.out.2.2.size))
      clear hown2 hb2 HE hel
      go_wp2_with fail
      refine HF.out.mono ?_
      rintro e w3 ⟨a3, c3, rfl, hown3, hb3⟩
      have HN := Lib.hid (And.intro hown3 hb3)
      clear hown3 hb3 HF
      go_wp2_with fail
      go_ret2
      exact ⟨a3, m + 8, c3, rfl, HN.out.1.base HB2.out.size, HB2.out.trans (HN.out.2.mono HB2.out.size)⟩

end Go.Proofs.Ytabmjjicplomlaa
