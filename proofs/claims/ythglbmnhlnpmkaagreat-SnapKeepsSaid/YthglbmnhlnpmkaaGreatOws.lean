/- An own list of lists of bytes, and append to it. Numbers and types by name. -/
import Derived.Test.YthglbmnhlnpmkaaGreatRsm
import Derived.Test.YthglbmnhlnpmkaaGreatCrc
import Derived.Test.YthglbmnhlnpmkaaGreatPlk
/- The reference's Frame. Numbers and types by name. -/
namespace Go.Proofs.YthglbmnhlnpmkaaGreat
open Go.RowKit Go.Lib

theorem ref_frame (v : Value) (m : Nat) (p : List UInt8) (w : World) (hr : Reads w v (bv p)) (hm : m = p.length) (hl : m ≤ 1048576) :
    Calls Tryz.prog 49 #[v] w fun e w' => ∃ ao c, e = .returned (.tuple #[.slice ao (m + 8) c, .int .i64 0]) ∧ Bs w' w.heap.size (.slice ao (m + 8) c) (m + 8) (frm p) ∧ Below w.heap.size w w' := by
  obtain ⟨a1, c1, rfl⟩ : ∃ ao c, v = .slice ao m c := by obtain ⟨ao, c, rfl, _⟩ := hr; exact ⟨ao, c, by rw [bv_length, hm]⟩
  have h1 : ¬ (1048576 : Int) < (m : Int) := by omega
  have L : Hid (m ≤ 1000000000) := Lib.hid (by omega)
  have F1 : Hid (8 ≤ maxLen) := Lib.hid (by unfold maxLen; omega)
  have F2 : Hid (8 * 1 ≤ 140737488355328) := Lib.hid (by omega)
  have F3 : Hid (m + 8 ≤ maxLen) := Lib.hid (by unfold maxLen; omega)
  have F4 : Hid ((m + 8) * 1 ≤ 140737488355328) := Lib.hid (by omega)
  have HR := Lib.hid (And.intro hr hm)
  clear hr hm hl
  go_enter Tryz.func49, Tryz.ntmps49
  go_wp2_with fail
  refine (ref_u32 (m : Int) w).mono ?_
  rintro e w1 ⟨ao2, c2, rfl, hown2, hb2⟩
  go_wp2_with fail
  refine (ref_sum _ m p w1 (HR.out.1.later hb2) HR.out.2 L).mono ?_
  rintro e w1' ⟨rfl, hw1⟩
  subst hw1
  go_wp2_with fail
  refine (ref_u32 (sumOf 0 p) w1').mono ?_
  rintro e w3 ⟨ao3, c3, rfl, hown3, hb3⟩
  go_wp2_with (first | (at_builtin; refine wpList_append_bytes rfl (.tmp 10) (.tmp 13) rfl w.heap.size (.slice ao2 4 c2) 4 _ rfl (hown2.below hb3 (Nat.le_refl _)) (.slice ao3 4 c3) 4 _ rfl rfl hown3.reads 8 rfl F1 F2 (Nat.le_trans hb2.size hb3.size) ?_; intro ao4 c4 w4 hown4 hb4) | (at_builtin; refine wpList_append_bytes rfl (.tmp 15) (.tmp 16) rfl w.heap.size (.slice ao4 8 c4) 8 _ rfl hown4 (.slice a1 m c1) m p HR.out.2 rfl (HR.out.1.later ((hb2.trans (hb3.mono hb2.size)).trans hb4)) (m + 8) (by omega) F3 F4 (Nat.le_trans (Nat.le_trans hb2.size hb3.size) hb4.size) ?_; intro ao5 c5 w5 hown5 hb5))
  go_ret2
  refine ⟨ao5, c5, rfl, ?_, ((hb2.trans (hb3.mono hb2.size)).trans hb4).trans hb5⟩
  have hm := HR.out.2
  unfold frm
  rw [← hm]
  exact hown5

theorem ref_frame_long (v : Value) (m : Nat) (p : List UInt8) (w : World) (hr : Reads w v (bv p)) (hm : m = p.length) (hl : ¬ m ≤ 1048576) :
    Calls Tryz.prog 49 #[v] w fun e w' => e = .returned (.tuple #[.slice none 0 0, .int .i64 9]) ∧ w' = w := by
  obtain ⟨a1, c1, rfl⟩ : ∃ ao c, v = .slice ao m c := by obtain ⟨ao, c, rfl, _⟩ := hr; exact ⟨ao, c, by rw [bv_length, hm]⟩
  have h1 : (1048576 : Int) < (m : Int) := by omega
  clear hr hm hl
  go_enter Tryz.func49, Tryz.ntmps49
  go_wp2_with fail
  go_ret2
  exact ⟨rfl, rfl⟩

end Go.Proofs.YthglbmnhlnpmkaaGreat

/- The reference's Table: pairs as bytes. Numbers and types by name. -/
namespace Go.Proofs.YthglbmnhlnpmkaaGreat
open Go.RowKit Go.Lib Go.Sort

def flatP (L : List Prm) : List ByteArray := L.flatMap fun o => [o.key, o.val]
def bulkP (L : List Prm) : Nat := (L.map fun o => 1 + o.key.size + o.val.size).sum
theorem bulkP_cons (o : Prm) (L : List Prm) : bulkP (o :: L) = 1 + o.key.size + o.val.size + bulkP L := by simp [bulkP]
theorem flatP_bulk (L : List Prm) : bulk (flatP L) ≤ 2 * bulkP L := by
  induction L with
  | nil => simp [flatP, bulk, bulkP]
  | cons o L ih =>
    have e : flatP (o :: L) = [o.key, o.val] ++ flatP L := by simp [flatP]
    rw [e, bulk_append, bulkP_cons]
    simp only [bulk, List.map_cons, List.map_nil, List.sum_cons, List.sum_nil]
    simp only [bulk] at ih
    omega
theorem flatP_length (L : List Prm) : (flatP L).length = L.length * 2 := by
  induction L with
  | nil => rfl
  | cons o L ih =>
    have e : flatP (o :: L) = [o.key, o.val] ++ flatP L := by simp [flatP]
    rw [e, List.length_append, ih]; simp; omega
theorem flatP_next {L : List Prm} {k : Nat} {x : Prm} (h : L[k]? = some x) : flatP (L.take (k + 1)) = flatP (L.take k) ++ [x.key, x.val] := by
  rw [take_next h]; simp [flatP]
theorem flatP_mem {L : List Prm} {s : ByteArray} (h : s ∈ flatP L) : ∃ o ∈ L, s = o.key ∨ s = o.val := by
  obtain ⟨o, ho, hs⟩ := List.mem_flatMap.1 h
  exact ⟨o, ho, by simpa using hs⟩

theorem mvRun_texts {ops : Array Oper} {o : Oper} {a : Act} {w : World} {K : Act → World → Prop} (hgd : o.guard = none) (s x : Operand)
    (ho : o.op = .call { callee := .builtin .append, args := #[s, x], argTypes := #[63, 63] })
    (base : Nat) (v : Value) (n : Nat) (l : List ByteArray) (hs : a.eval s = v) (hown : Ss w base v n l) (vb : Value) (m : Nat) (k : List ByteArray) (hm : m = k.length) (hx : a.eval x = vb) (hr : Reads w vb (sv k))
    (p : Nat) (hp : p = n + m) (h63 : Hid (p ≤ maxLen)) (hbytes : Hid (p * 16 ≤ 140737488355328)) (hbase : base ≤ w.heap.size)
    (h : ∀ ao c w', Ss w' base (.slice ao p c) p (l ++ k) → Below base w w' → K (a.put o.dst (.slice ao p c)) w') : mvRun Tryz.prog ops o K a w := by
  subst hm hp
  obtain ⟨hn, hown⟩ := hown
  obtain ⟨ao, c, w', hr', h2, h3, _⟩ := run_append_strs o.type base v n (sv l) w hown vb (sv k) hr (sv_one k) (by rw [sv_length]; exact h63.out) (by rw [sv_length]; exact hbytes.out) hbase
  rw [sv_length] at hr' h2
  have hw : Region.wanted o (yielded ops a.tmps) = true := by simp [Region.wanted, hgd]
  unfold mvRun
  rw [if_pos hw]
  unfold execOp
  simp only [ho, resolve, invoke, builtin, Sem.run_bind, Sem.run_pure, Result.andThen_ok, List.map_toArray, List.map_cons, List.map_nil, hs, hx, hr', mvUpon]
  refine h ao c w' ⟨by rw [hn, List.length_append], ?_⟩ (below_grown_own hown h3 hbase)
  simpa [sv] using h2

set_option maxHeartbeats 1000000 in
theorem ref_table_no (v : Value) (n : Nat) (L : List Prm) (w : World) (hr : Prr w v n L) (hR : ¬ Rise L) :
    Calls Tryz.prog 21 #[v] w fun e w' => e = .returned (.tuple #[.slice none 0 0, .int .i64 1]) ∧ Grow w w' := by
  have HP := right_pairs v n L w hr
  rw [decide_eq_false hR] at HP
  obtain ⟨ao, c, rfl⟩ := hr.shape
  clear hr hR
  go_enter Tryz.func21, Tryz.ntmps21
  go_wp2_with fail
  refine HP.mono ?_
  rintro e w1 ⟨q, rfl, hw⟩
  have HG : Hid (Grow w w1) := Lib.hid (by rw [hw]; exact below_drewN (Below.refl _ w) q)
  clear HP hw
  go_wp2_with fail
  go_ret2
  exact ⟨rfl, HG.out⟩

set_option maxRecDepth 100000 in
set_option maxHeartbeats 4000000 in
theorem ref_table (v : Value) (n : Nat) (L : List Prm) (w : World) (hr : Prr w v n L) (hR : Rise L) (hb : bulkP L ≤ 3000) (hn : n ≤ 3000) :
    Calls Tryz.prog 21 #[v] w fun e w' => ∃ ao m c, e = .returned (.tuple #[.slice ao m c, .int .i64 0]) ∧ Bs w' w.heap.size (.slice ao m c) m (frm (enc (flatP L))) ∧ Below w.heap.size w w' := by
  have HP := right_pairs v n L w hr
  rw [decide_eq_true hR] at HP
  obtain ⟨ao, c, rfl⟩ := hr.shape
  have HR := Lib.hid hr
  have HB := Lib.hid hb
  clear hr hR hb
  go_enter Tryz.func21, Tryz.ntmps21
  go_wp2_with fail
  refine HP.mono ?_
  rintro e w1 ⟨q, rfl, hw⟩
  have HG : Hid (Grow w w1) := Lib.hid (by rw [hw]; exact below_drewN (Below.refl _ w) q)
  clear HP hw
  go_wp2_with fail
  go_loopw [4, 5] (fun tv i wr => ∃ (k r c : Nat) (at' : Option Addr), k ≤ n ∧ i = .int .i64 k ∧ tv = .slice at' r c ∧ Hid (r = k * 2 ∧ Ss wr w.heap.size (.slice at' r c) r (flatP (L.take k)) ∧ Below w.heap.size w wr))
    (fun _ i _ => n - (RowKit.intOf i).toNat)
  case atStart => exact ⟨0, 0, 0, none, Nat.zero_le _, rfl, rfl, Lib.hid ⟨rfl, ⟨rfl, World.ownsRow_nil _ _ _ _⟩, HG.out⟩⟩
  case round =>
    obtain ⟨k, r, ct, at', hk, rfl, rfl, hrel⟩ := hrel
    by_cases h1 : k < n
    · have h3 : (k : Int) < (n : Int) := by omega
      obtain ⟨a, x, rfl, hx, c0, c1, _, _⟩ := (HR.out.later hrel.out.2.2).at h1
      have F1 : Hid (r + 2 ≤ maxLen) := Lib.hid (by have := hrel.out.1; unfold maxLen; omega)
      have F2 : Hid ((r + 2) * 16 ≤ 140737488355328) := Lib.hid (by have := hrel.out.1; omega)
      have hblk : (a.add (k * 2)).block < w.heap.size := by
        obtain ⟨a', o', e, _, d0, _⟩ := HR.out.at h1
        cases e
        exact World.block_lt_of_cell? w _ d0
      have HX := Lib.hid hx
      have d0 : ∀ w', Below w.heap.size wr.drew w' → w'.cell? (a.add (k * 2)) = some (.string x.key) := fun w' hb => below_cell hb (p := a.add (k * 2)) hblk c0
      have d1 : ∀ w', Below w.heap.size wr.drew w' → w'.cell? ⟨(a.add (k * 2)).block, (a.add (k * 2)).off + 1, none⟩ = some (.string x.val) := fun w' hb => below_cell hb (p := ⟨(a.add (k * 2)).block, (a.add (k * 2)).off + 1, none⟩) hblk c1
      clear hx c0 c1 hblk
      go_wp2_with fail
      refine wp_region_mvg (Below w.heap.size) (Below.refl _) (fun h k => h.trans k) [(0, 11, true), (11, 1, false), (12, 1, false), (13, 1, true)] (by kernel_rfl) (by kernel_rfl) ?_
      simp only [mvAll, mvSeg, List.drop_succ_cons, List.drop_zero, List.cons_append, List.nil_append, Nat.reduceAdd]
      iterate 11
        refine wpLing_still ?_ (fun w' hG K hK => ?_) (fun K hK => ?_)
        rotate_left
        · have e0 := d0 w' hG
          have e1 := d1 w' hG
          clear hG
          unfold mvVal
          go_simp
          try exact hK
        go_simp
        refine hK _ ?_
        clear hK K
      clear d0 d1
      refine wpLing_call (fun K hK => ?_)
      unfold mvRun
      go_simp
      simp only [mvUpon]
      have hsz : w.heap.size ≤ wr.drew.heap.size := hrel.out.2.2.size
      refine hK _ _ ((Below.refl _ wr.drew).alloc hsz _) ?_
      clear hK K
      refine wpLing_call (fun K hK => ?_)
      refine mvRun_texts rfl (.tmp 15) (.tmp 26) rfl w.heap.size _ r (flatP (L.take k)) (by simp [Act.eval]; rfl) ((show Ss wr.drew w.heap.size (.slice at' r ct) r (flatP (L.take k)) from hrel.out.2.1).alloc _) _ 2 [x.key, x.val] rfl (by simp [Act.eval]; rfl) (Reads.lit _ (sv [x.key, x.val]) 9 (0, 0) 2 rfl) (r + 2) rfl F1 F2 (Nat.le_trans hsz (by simp)) ?_
      intro a6 c6 w6 hown6 hb6
      have HN := Lib.hid (And.intro hown6 ((hrel.out.2.2.drew.alloc hsz _).trans hb6))
      refine hK _ _ hb6 ?_
      clear hK K hown6 hb6
      refine wpLing_still ?_ (fun w' hG K hK => ?_) (fun K hK => ?_)
      rotate_left
      · unfold mvVal
        go_simp
        try exact hK
      go_simp
      refine hK _ ?_
      clear hK K
      refine wpLing_nil ?_
      go_wp2_with fail
      go_roundw
      case rel =>
        refine ⟨k + 1, r + 2, c6, a6, by omega, by go_num, rfl, Lib.hid ⟨by have := hrel.out.1; omega, ?_, HN.out.2⟩⟩
        rw [flatP_next HX.out]
        exact HN.out.1
      case measure => simp [RowKit.intOf]; omega
    · obtain rfl : k = n := by omega
      have h3 : ¬ (k : Int) < (k : Int) := by omega
      have hL : L.take k = L := List.take_of_length_le (by have := HR.out.1; omega)
      rw [hL] at hrel
      have hbl : bulk (flatP L) ≤ 6000 := by have := flatP_bulk L; have := HB.out; omega
      have hT : Texts wr (.slice at' r ct) r (flatP L) := hrel.out.2.1.texts (by have := hrel.out.1; unfold maxLen; omega) (fun s hs => by
        obtain ⟨o, ho, he⟩ := flatP_mem hs
        have := HR.out.2.2.2 o ho
        rcases he with rfl | rfl
        · exact this.1
        · exact this.2)
      have HE := Lib.hid (ref_encode _ r (flatP L) wr hT (by omega))
      have hel : (enc (flatP L)).length ≤ 1048576 := by have := enc_length (flatP L); have := flatP_length L; have := HR.out.1; omega
      obtain ⟨m, hm⟩ : ∃ m, m = (enc (flatP L)).length := ⟨_, rfl⟩
      rw [← hm] at HE hel
      have HM := Lib.hid hm
      clear hT hbl hL hm
      go_wp2_with fail
      refine HE.out.mono ?_
      rintro e w2 ⟨a2, c2, rfl, hown2, hb2⟩
      have HF := Lib.hid (ref_frame _ m (enc (flatP L)) w2 hown2.reads HM.out hel)
      have HB2 := Lib.hid (hrel.out.2.2.trans (hb2.mono hrel.out.2.2.size))
      clear hown2 hb2 HE hel
      go_wp2_with fail
      refine HF.out.mono ?_
      rintro e w3 ⟨a3, c3, rfl, hown3, hb3⟩
      have HN := Lib.hid (And.intro hown3 hb3)
      clear hown3 hb3 HF
      go_wp2_with fail
      go_ret2
      exact ⟨a3, m + 8, c3, rfl, HN.out.1.base HB2.out.size, HB2.out.trans (HN.out.2.mono HB2.out.size)⟩

end Go.Proofs.YthglbmnhlnpmkaaGreat

namespace Go.Proofs.YthglbmnhlnpmkaaGreat
open Go.RowKit Go.Lib

theorem info_row : (Tryz.prog.info? 46).map (fun i => (i.zero, i.size, i.bytes)) = some (some (.slice none 0 0), 1, 24) := by kernel_rfl

/-- A list of lists of bytes of the call's own; what its elements hold lies in other blocks than it. -/
def Ows (w : World) (base : Nat) (v : Value) (n : Nat) (ps : List (List UInt8)) : Prop :=
  n = ps.length ∧ ∃ vs : List Value, w.ownsRow base 46 1 v n vs ∧ ∀ (j : Nat) (p : List UInt8), ps[j]? = some p → ∃ ao c, vs[j]? = some (Value.slice ao p.length c) ∧ Reads w (.slice ao p.length c) (bv p) ∧ p.length ≤ maxLen ∧ (∀ a, ao = some a → some a.block ≠ v.ownBlock ∧ a.block < w.heap.size)

theorem Ows.rows {w : World} {base : Nat} {v : Value} {n : Nat} {ps : List (List UInt8)} (h : Ows w base v n ps) (hn : n ≤ maxLen) : Rws w v n ps := by
  obtain ⟨h1, vs, h2, h3⟩ := h
  have hl : vs.length = n := by simpa using h2.1
  refine ⟨h1, hn, vs, Reads.own (by rw [hl]; exact h2), hl, fun j p hj => ?_⟩
  obtain ⟨ao, c, e1, e2, e3, _⟩ := h3 j p hj
  exact ⟨ao, c, e1, e2, e3⟩

theorem Ows.nil (w : World) (base : Nat) : Ows w base (.slice none 0 0) 0 [] := ⟨rfl, [], World.ownsRow_nil _ _ _ _, fun j p h => by cases h⟩

theorem Ows.shape {w : World} {base : Nat} {v : Value} {n : Nat} {ps : List (List UInt8)} (h : Ows w base v n ps) : ∃ ao c, v = .slice ao n c := by
  obtain ⟨_, vs, h2, _⟩ := h
  exact owns_shape h2

/-- Behind work that lets its blocks be. -/
theorem Ows.later {w w' : World} {base : Nat} {v : Value} {n : Nat} {ps : List (List UInt8)} (h : Ows w base v n ps) (hg : Grow w w') : Ows w' base v n ps := by
  obtain ⟨h1, vs, h2, h3⟩ := h
  refine ⟨h1, vs, ⟨h2.1, h2.2.imp id ?_⟩, fun j p hj => ?_⟩
  · rintro ⟨g, cap, cur, e1, e2, e3, e4⟩
    refine ⟨g, cap, cur, e1, e2, ?_, e4⟩
    rw [hg.block g (by have := (h2.lt g (by rw [e1]; rfl)).2; omega)]
    exact e3
  · obtain ⟨ao, c, e1, e2, e3, e4⟩ := h3 j p hj
    exact ⟨ao, c, e1, e2.later hg, e3, fun a ha => ⟨(e4 a ha).1, Nat.lt_of_lt_of_le (e4 a ha).2 hg.size⟩⟩

/-- append(list, row). -/
theorem wpList_append_row {ops : Array Oper} {rest : List Oper} {o : Oper} {a : Act} {w : World} {Q : Exit → Act → World → Prop} (hgd : o.guard = none) (s x : Operand)
    (ho : o.op = .call { callee := .builtin .append, args := #[s, x], argTypes := #[95, 95] })
    (base : Nat) (v : Value) (n : Nat) (ps : List (List UInt8)) (hs : a.eval s = v) (hown : Ows w base v n ps) (ad : Addr) (p : List UInt8) (m : Nat) (ap : Option Addr) (cp : Nat) (hm : m = p.length) (hx : a.eval x = .slice (some ad) 1 1)
    (hc : w.cell? ad = some (.slice ap m cp)) (hr : Reads w (.slice ap m cp) (bv p)) (hap : ∀ a, ap = some a → some a.block ≠ v.ownBlock ∧ a.block < w.heap.size) (hpl : Hid (m ≤ maxLen))
    (q : Nat) (hq : q = n + 1) (h63 : Hid (q ≤ 1000000000)) (hbase : base ≤ w.heap.size)
    (h : ∀ ao c w', Ows w' base (.slice ao q c) q (ps ++ [p]) → Below base w w' → wpList Tryz.prog ops Q rest (a.put o.dst (.slice ao q c)) w') : wpList Tryz.prog ops Q (o :: rest) a w := by
  subst hm hq
  obtain ⟨hn, vs, h2, h3⟩ := hown
  obtain ⟨i0, hi, hz0, hz1, hz2⟩ := info_parts info_row
  have hvl : vs.length = n := by simpa using h2.1
  have hb := h63.out
  refine wpList_plain hgd fun K hK => ?_
  obtain ⟨v', w', hr', e2, e3, _, e5⟩ := run_append_own_at (P := Tryz.prog) w base 95 o.type 46 i0 (.slice none 0 0) 1 24 Tryz.underlying95 hi hz0 hz1 hz2 rfl (by decide) v n vs h2 ad 1 1 [.slice ap p.length cp] rfl
    (fun j u hj => by
      cases j with
      | zero => simp at hj; subst hj; simpa [Addr.add] using hc
      | succ j => simp at hj) (by intro u hu; simp at hu; subst hu; rfl) (by unfold maxLen; omega) (by omega) hbase
  obtain ⟨ao, c, rfl⟩ := owns_shape e2
  unfold Oper.wp execOp
  simp only [ho, resolve, invoke, builtin, Sem.run_bind, Sem.run_pure, Result.andThen_ok, List.map_toArray, List.map_cons, List.map_nil, hs, hx, hr']
  have keep : ∀ (bo : Option Addr) (k c' : Nat) (l : List UInt8), Reads w (.slice bo k c') (bv l) → (∀ a, bo = some a → some a.block ≠ v.ownBlock ∧ a.block < w.heap.size) →
      Reads w' (.slice bo k c') (bv l) ∧ ∀ a, bo = some a → some a.block ≠ (Value.slice ao (n + 1) c).ownBlock ∧ a.block < w'.heap.size := by
    intro bo k c' l hrd hbo
    refine ⟨hrd.grown e3 (fun a n c e => ?_), fun a ha => ⟨?_, Nat.lt_of_lt_of_le (hbo a ha).2 e3.size⟩⟩
    · simp only [Value.slice.injEq] at e
      exact (hbo a e.1).1
    · rcases e5 with e | e
      · rw [e]; exact (hbo a ha).1
      · rw [e]
        intro e6
        have := (hbo a ha).2
        simp only [Option.some.injEq] at e6
        omega
  refine hK _ _ (h ao c w' ⟨by rw [hn, List.length_append]; rfl, vs ++ [.slice ap p.length cp], e2, fun j q' hj => ?_⟩ (below_grown_own h2 e3 hbase))
  by_cases hjn : j < n
  · rw [List.getElem?_append_left (by omega)] at hj
    obtain ⟨bo, c', f1, f2, f3, f4⟩ := h3 j q' hj
    obtain ⟨g1, g2⟩ := keep bo _ c' q' f2 f4
    exact ⟨bo, c', by rw [List.getElem?_append_left (by omega)]; exact f1, g1, f3, g2⟩
  · have hjl := (List.getElem?_eq_some_iff.1 hj).1
    simp only [List.length_append, List.length_cons, List.length_nil] at hjl
    obtain rfl : j = n := by omega
    rw [List.getElem?_append_right (by omega)] at hj
    have h0 : j - ps.length = 0 := by omega
    rw [h0] at hj
    simp only [List.getElem?_cons_zero, Option.some.injEq] at hj
    subst hj
    obtain ⟨g1, g2⟩ := keep ap _ cp p hr hap
    refine ⟨ap, cp, ?_, g1, hpl.out, g2⟩
    rw [List.getElem?_append_right (by omega), hvl, Nat.sub_self]
    rfl

end Go.Proofs.YthglbmnhlnpmkaaGreat
