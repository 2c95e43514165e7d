/- Batches of the code: Replay. Numbers and types by name. -/
import Derived.Test.YthacjeeafnblmaaGreatDoorOpl
import Derived.Test.YthacjeeafnblmaaGreatDoorCen
import Derived.Test.YthacjeeafnblmaaGreatDoorCon
import Derived.Test.YthacjeeafnblmaaGreatDoorRop
import Derived.Test.YthacjeeafnblmaaGreatDoorTxt
import Derived.Test.YthacjeeafnblmaaGreatDoorRrp
import Derived.Test.YthacjeeafnblmaaGreatDoorWft
import Derived.WalkMore
/- Frame of the code. Numbers and types by name. -/
namespace Go.Proofs.YthacjeeafnblmaaGreatDoor
open Go.RowKit Go.Lib

theorem frame_any (v : Value) (m : Nat) (p : List UInt8) (w : World) (hr : Reads w v (bv p)) (hm : m = p.length) (hl : m ≤ 1048576) :
    Calls Tryz.prog 75 #[v] w fun e w' => ∃ ao c, e = .returned (.tuple #[.slice ao (m + 8) c, .int .i64 0]) ∧ Bs w' w.heap.size (.slice ao (m + 8) c) (m + 8) (frm p) ∧ Below w.heap.size w w' := by
  obtain ⟨a1, c1, rfl⟩ : ∃ ao c, v = .slice ao m c := by obtain ⟨ao, c, rfl, _⟩ := hr; exact ⟨ao, c, by rw [bv_length, hm]⟩
  have h1 : ¬ (1048576 : Int) < (m : Int) := by omega
  have L : Hid (m ≤ 1000000000) := Lib.hid (by omega)
  have HR := Lib.hid (And.intro hr hm)
  clear hr hm hl
  go_enter Tryz.func75, Tryz.ntmps75
  go_wp2_with fail
  refine (u32_any (m : Int) w).mono ?_
  rintro e w1 ⟨ao2, c2, rfl, hown2, hb2⟩
  go_wp2_with fail
  refine (sum_any _ m p w1 (HR.out.1.later hb2) HR.out.2 L).mono ?_
  rintro e w1' ⟨rfl, hw1⟩
  subst hw1
  go_wp2_with fail
  refine (u32_any (sumOf 0 p) w1').mono ?_
  rintro e w3 ⟨ao3, c3, rfl, hown3, hb3⟩
  have HL3 : Hid (Rws (w3.alloc (.cells #[.slice ao2 4 c2, .slice ao3 4 c3, .slice a1 m c1] 24)) (.slice (some ⟨w3.heap.size, 0, none⟩) 3 3) 3 [be4 (m : Int), be4 (sumOf 0 p), p]) := Lib.hid (by
    have R2 := ((hown2.below hb3 (Nat.le_refl _)).alloc (.cells #[.slice ao2 4 c2, .slice ao3 4 c3, .slice a1 m c1] 24)).reads
    have R3 := (hown3.alloc (.cells #[.slice ao2 4 c2, .slice ao3 4 c3, .slice a1 m c1] 24)).reads
    have R1 := (HR.out.1.later (hb2.trans (hb3.mono hb2.size))).alloc (.cells #[.slice ao2 4 c2, .slice ao3 4 c3, .slice a1 m c1] 24)
    have hm := HR.out.2
    have L' := L.out
    refine Rws.of_vals (Reads.lit w3 [.slice ao2 4 c2, .slice ao3 4 c3, .slice a1 m c1] 24 _ 3 rfl) rfl ⟨rfl, fun j q hj => ?_⟩ (by unfold maxLen; decide)
    rcases j with _ | _ | _ | j
    · simp at hj; subst hj; exact ⟨ao2, c2, by rw [be4_length]; rfl, by rw [be4_length]; exact R2, by rw [be4_length]; unfold maxLen; decide⟩
    · simp at hj; subst hj; exact ⟨ao3, c3, by rw [be4_length]; rfl, by rw [be4_length]; exact R3, by rw [be4_length]; unfold maxLen; decide⟩
    · simp at hj; subst hj; exact ⟨a1, c1, by rw [← hm]; rfl, by rw [← hm]; exact R1, by rw [← hm]; unfold maxLen; omega⟩
    · simp at hj)
  have HL4 : Hid ([be4 (m : Int), be4 (sumOf 0 p), p].flatten.length = m + 8 ∧ [be4 (m : Int), be4 (sumOf 0 p), p].flatten = frm p) := Lib.hid (by
    have hm := HR.out.2
    refine ⟨by simp [be4_length]; omega, ?_⟩
    unfold frm
    rw [← hm]
    simp)
  have HB := Lib.hid ((hb2.trans (hb3.mono hb2.size)).trans ((Below.refl w.heap.size w3).alloc (Nat.le_trans hb2.size hb3.size) (.cells #[.slice ao2 4 c2, .slice ao3 4 c3, .slice a1 m c1] 24)))
  have HC := concat_any _ 3 _ _ HL3.out (Lib.hid ⟨by omega, by rw [HL4.out.1]; have := L.out; omega⟩)
  rw [HL4.out.1, HL4.out.2] at HC
  clear hown2 hown3 hb2 hb3 HL3 HL4
  go_wp2_with fail
  refine HC.mono ?_
  rintro e w5 ⟨ao5, c5, rfl, hown5, hb5⟩
  have HB5 := Lib.hid (And.intro (hown5.base HB.out.size) (HB.out.trans (hb5.mono HB.out.size)))
  clear hown5 hb5 HC
  go_wp2_with fail
  go_ret2
  exact ⟨ao5, c5, rfl, HB5.out.1, HB5.out.2⟩

theorem frame_long (v : Value) (m : Nat) (p : List UInt8) (w : World) (hr : Reads w v (bv p)) (hm : m = p.length) (hl : ¬ m ≤ 1048576) :
    Calls Tryz.prog 75 #[v] w fun e w' => e = .returned (.tuple #[.slice none 0 0, .int .i64 9]) ∧ w' = w := by
  obtain ⟨a1, c1, rfl⟩ : ∃ ao c, v = .slice ao m c := by obtain ⟨ao, c, rfl, _⟩ := hr; exact ⟨ao, c, by rw [bv_length, hm]⟩
  have h1 : (1048576 : Int) < (m : Int) := by omega
  clear hr hm hl
  go_enter Tryz.func75, Tryz.ntmps75
  go_wp2_with fail
  go_ret2
  exact ⟨rfl, rfl⟩

end Go.Proofs.YthacjeeafnblmaaGreatDoor

/- The code's Encode. Numbers and types by name. -/
namespace Go.Proofs.YthacjeeafnblmaaGreatDoor
open Go.RowKit Go.Lib

theorem batch_bad (v : Value) (n : Nat) (L : List Opm) (w : World) (hr : Opr w v n L) (hok : okOps L = false) :
    Calls Tryz.prog 44 #[v] w fun e w' => e = .returned (.tuple #[.slice none 0 0, .int .i64 1]) ∧ Below w.heap.size w w' := by
  have R := right_any _ n L w hr
  rw [hok] at R
  clear hr hok
  go_enter Tryz.func44, Tryz.ntmps44
  go_wp2_with fail
  refine R.mono ?_
  rintro e w1 ⟨rfl, hb⟩
  clear R
  go_wp2_with fail
  go_ret2
  exact ⟨rfl, hb⟩

theorem Opm.eta3 (o : Opm) : ∃ d k v, o = ⟨d, k, v⟩ := ⟨o.del, o.key, o.val, rfl⟩

set_option maxHeartbeats 2000000 in
theorem batch_any (v : Value) (n : Nat) (L : List Opm) (w : World) (hr : Opr w v n L) (ht : Tab w) (hok : okOps L = true) (hb : bulkO L ≤ 5000) :
    Calls Tryz.prog 44 #[v] w fun e w' => ∃ ao m c, e = .returned (.tuple #[.slice ao m c, .int .i64 0]) ∧ Bs w' w.heap.size (.slice ao m c) m (frms (recs L)) ∧ Below w.heap.size w w' := by
  obtain ⟨ao, c, rfl⟩ := hr.shape
  have HR := Lib.hid hr
  have HT := Lib.hid ht
  have HB := Lib.hid hb
  have hn5 : n ≤ 5000 := by have := bulkO_length L; have := hr.1; omega
  have R := right_any _ n L w hr
  rw [hok] at R
  clear hr hok hb ht
  go_enter Tryz.func44, Tryz.ntmps44
  go_wp2_with fail
  refine R.mono ?_
  rintro e w1 ⟨rfl, hb1⟩
  clear R
  have HB1 := Lib.hid hb1
  clear hb1
  go_wp2_with fail
  go_loopw [4, 16] (fun xv i wr => ∃ (k r c : Nat) (ao : Option Addr), k ≤ n ∧ i = .int .i64 k ∧ xv = .slice ao r c ∧ Hid (r ≤ 110000 ∧ Bs wr w.heap.size (.slice ao r c) r (frms ((L.take k).map pay)) ∧ Below w.heap.size w wr))
    (fun _ i _ => n - (RowKit.intOf i).toNat)
  case atStart => exact ⟨0, 0, 0, none, Nat.zero_le _, rfl, rfl, Lib.hid ⟨by omega, ⟨rfl, World.ownsRow_nil _ _ _ _⟩, HB1.out⟩⟩
  case round =>
    obtain ⟨k, r, c, ao2, hk, rfl, rfl, hrel⟩ := hrel
    have HA := Lib.hid hrel.out.2.1
    have HBE := Lib.hid hrel.out.2.2
    have hrb := hrel.out.1
    clear hrel
    by_cases hlt : k < n
    · have h3 : (k : Int) < (n : Int) := by omega
      obtain ⟨a, o, rfl, ho, q0, q1, q2, s1, s2⟩ := (HR.out.later HBE.out).at hlt
      have HO := Lib.hid ho
      have hob := bulkO_mem (List.mem_of_getElem? ho)
      have HOB : Hid (1 + o.key.size + o.val.size ≤ 5000) := Lib.hid (by have := HB.out; omega)
      have G := fun w => operation_any o w HOB.out
      have HG : Hid (Grow wr (wr.alloc (.cells #[.bool o.del, .string o.key, .string o.val] 68))) := Lib.hid ((Below.refl _ wr).alloc (Nat.le_refl _) _)
      clear ho s1 s2 hob
      go_wp2_with fail
      refine (G _).mono ?_
      rintro e w2 ⟨a2, m2, c2, rfl, h2, hb2⟩
      have hm2 : m2 ≤ 6000 := by have := h2.1; have := pay_length o; have := HOB.out; omega
      have HX := Lib.hid (And.intro h2 (Grow.trans HG.out hb2))
      clear h2 hb2 G HG q0 q1 q2
      go_wp2_with fail
      refine (frame_any _ m2 (pay o) w2 HX.out.1.reads HX.out.1.1 (by omega)).mono ?_
      rintro e w3 ⟨a3, c3, rfl, h3', hb3⟩
      obtain ⟨s, hs⟩ : ∃ s, s = m2 + 8 := ⟨_, rfl⟩
      rw [← hs] at h3' ⊢
      have hs6 : s ≤ 6008 := by omega
      have HY := Lib.hid (And.intro h3' (Grow.trans HX.out.2 hb3))
      have HAY := Lib.hid (HA.out.below HY.out.2 (Nat.le_refl _))
      have HBY := Lib.hid (HBE.out.trans (HY.out.2.mono HBE.out.size))
      have F1 : Hid (r + s ≤ maxLen) := Lib.hid (by unfold maxLen; omega)
      have F2 : Hid ((r + s) * 1 ≤ 140737488355328) := Lib.hid (by omega)
      clear h3' hb3 hs HX
      go_wp2_with (at_builtin; refine wpList_append_bytes rfl (.tmp 29) (.tmp 30) rfl w.heap.size _ r _ rfl HAY.out (.slice a3 s c3) s (frm (pay o)) HY.out.1.1 rfl HY.out.1.reads (r + s) rfl F1 F2 HBY.out.size ?_; intro ao8 c8 w8 hown8 hb8)
      have hN : frms ((L.take k).map pay) ++ frm (pay o) = frms ((L.take (k + 1)).map pay) := (pays_take HO.out).symm
      rw [hN] at hown8
      refine ⟨⟨k + 1, r + s, c8, ao8, by omega, by simp, rfl, Lib.hid ⟨?_, hown8, HBY.out.trans hb8⟩⟩, by simp only [RowKit.intOf]; omega⟩
      have h1 := pays_bulk (L.take (k + 1))
      have h2 := bulkO_take L (k + 1)
      have h4 := HB.out
      have h5 := hown8.1
      omega
    · have h3 : ¬ (k : Int) < (n : Int) := by omega
      obtain rfl : k = n := by omega
      have hkL : L.take k = L := List.take_of_length_le (by have := HR.out.1; omega)
      have hlen : Hid (L.length = k) := Lib.hid HR.out.1.symm
      rw [hkL] at HA
      have C := count_any _ k L wr (HR.out.later HBE.out) (HT.out.later HBE.out)
      clear hkL
      go_wp2_with fail
      refine C.mono ?_
      rintro e w2 ⟨rfl, hb2⟩
      have HX2 : Hid (Grow wr w2) := Lib.hid hb2
      clear hb2 C
      go_wp2_with fail
      have hfl := fin_length (n := k) (by omega)
      have hsz : (txt (digs k)).size ≤ 18 := by unfold fin at hfl; rw [List.length_cons, enc1_length] at hfl; omega
      refine (payload_any 99 _ 1 [txt (digs k)] _ (Texts.lit w2 [txt (digs k)] (0, 0) 1 rfl (by unfold maxLen; omega) (by intro s hs; simp only [List.mem_singleton] at hs; subst hs; unfold maxLen; omega)) (by simp only [bulk, List.map_cons, List.map_nil, List.sum_cons, List.sum_nil]; omega)).mono ?_
      rintro e w3 ⟨a3, m3, c3, rfl, h3', hb3⟩
      have hm3 : m3 ≤ 18 := by have := h3'.1; unfold fin at hfl; omega
      have HX3 := Lib.hid (And.intro h3' (Grow.trans HX2.out (Grow.trans ((Below.refl _ w2).alloc (Nat.le_refl _) (.cells (sv [txt (digs k)]).toArray 9)) hb3)))
      clear h3' hb3 HX2 hfl hsz
      go_wp2_with fail
      have hfe : (99 : UInt8) :: enc [txt (digs k)] = fin k := rfl
      rw [hfe] at HX3
      refine (frame_any _ m3 (fin k) w3 HX3.out.1.reads HX3.out.1.1 (by omega)).mono ?_
      rintro e w4 ⟨a4, c4, rfl, h4', hb4⟩
      obtain ⟨s, hs⟩ : ∃ s, s = m3 + 8 := ⟨_, rfl⟩
      rw [← hs] at h4' ⊢
      have hs6 : s ≤ 6008 := by omega
      have HY := Lib.hid (And.intro h4' (Grow.trans HX3.out.2 hb4))
      have HAY := Lib.hid (HA.out.below HY.out.2 (Nat.le_refl _))
      have HBY := Lib.hid (HBE.out.trans (HY.out.2.mono HBE.out.size))
      have F1 : Hid (r + s ≤ maxLen) := Lib.hid (by unfold maxLen; omega)
      have F2 : Hid ((r + s) * 1 ≤ 140737488355328) := Lib.hid (by omega)
      clear h4' hb4 hs HX3 hfe
      go_wp2_with (at_builtin; refine wpList_append_bytes rfl (.tmp 41) (.tmp 42) rfl w.heap.size _ r _ rfl HAY.out (.slice a4 s c4) s (frm (fin k)) HY.out.1.1 rfl HY.out.1.reads (r + s) rfl F1 F2 HBY.out.size ?_; intro ao8 c8 w8 hown8 hb8)
      go_ret2
      have hN : frms (L.map pay) ++ frm (fin k) = frms (recs L) := by rw [recs, frms_snoc, hlen.out]
      rw [hN] at hown8
      exact ⟨ao8, r + s, c8, by simp, hown8, HBY.out.trans hb8⟩

end Go.Proofs.YthacjeeafnblmaaGreatDoor

/- append(list, n), for lists of ints. Numbers and types by name. -/
namespace Go.Proofs.YthacjeeafnblmaaGreatDoor
open Go.RowKit Go.Lib

/-- append(list, n). -/
theorem wpList_append_int {ops : Array Oper} {rest : List Oper} {o : Oper} {a : Act} {w : World} {Q : Exit → Act → World → Prop} (hgd : o.guard = none) (s x : Operand)
    (ho : o.op = .call { callee := .builtin .append, args := #[s, x], argTypes := #[29, 29] })
    (base : Nat) (v : Value) (n : Nat) (l : List Int) (hs : a.eval s = v) (hown : w.ownsRow base 3 1 v n (iv l)) (ad : Addr) (z : Int) (hx : a.eval x = .slice (some ad) 1 1) (hc : w.cell? ad = some (.int .i64 z))
    (q : Nat) (hq : q = n + 1) (h63 : Hid (q ≤ 1000000000)) (hbase : base ≤ w.heap.size)
    (h : ∀ ao c w', w'.ownsRow base 3 1 (.slice ao q c) q (iv (l ++ [z])) → Below base w w' → w.grownBy w' v.ownBlock → wpList Tryz.prog ops Q rest (a.put o.dst (.slice ao q c)) w') : wpList Tryz.prog ops Q (o :: rest) a w := by
  subst hq
  obtain ⟨i0, hi, hz0, hz1, hz2⟩ := info_parts info_int
  have hb := h63.out
  refine wpList_plain hgd fun K hK => ?_
  obtain ⟨v', w', hr', e2, e3, _, e5⟩ := run_append_own_at (P := Tryz.prog) w base 29 o.type 3 i0 (.int .i64 0) 1 8 Tryz.underlying29 hi hz0 hz1 hz2 rfl (by decide) v n _ hown ad 1 1 [.int .i64 z] rfl
    (fun j u hj => by
      cases j with
      | zero => simp at hj; subst hj; simpa [Addr.add] using hc
      | succ j => simp at hj) (by intro u hu; simp at hu; subst hu; rfl) (by unfold maxLen; omega) (by omega) hbase
  obtain ⟨ao, c, rfl⟩ := owns_shape e2
  unfold Oper.wp execOp
  simp only [ho, resolve, invoke, builtin, Sem.run_bind, Sem.run_pure, Result.andThen_ok, List.map_toArray, List.map_cons, List.map_nil, hs, hx, hr']
  refine hK _ _ (h ao c w' ?_ (below_grown_own hown e3 hbase) e3)
  simpa [iv] using e2

end Go.Proofs.YthacjeeafnblmaaGreatDoor

namespace Go.Proofs.YthacjeeafnblmaaGreatDoor
open Go.RowKit Go.Lib

set_option maxHeartbeats 4000000 in
set_option maxRecDepth 20000 in
theorem replay_from (v : Value) (n : Nat) (ps : List (List UInt8)) (w : World) (hr : Rws w v n ps) (ht : Tab w) (hn : n ≤ 900000) :
    Calls Tryz.prog 65 #[v] w (ReplayFrom ps w) := by
  obtain ⟨ao, c, rfl⟩ := hr.shape
  have HR := Lib.hid hr
  have HTB := Lib.hid ht
  clear hr ht
  go_enter Tryz.func65, Tryz.ntmps65
  go_wp2_with fail
  go_step3
  go_wp2_with fail
  go_step3
  go_wp2_with fail
  go_loopw [2, 3, 4, 11] (fun lv uv nv i wr => ∃ (k j m u cl cn : Nat) (al an : Option Addr), k ≤ n ∧ i = .int .i64 k ∧ lv = .slice al j cl ∧ nv = .slice an m cn ∧ uv = .int .i64 u ∧ Hid (∃ done now vs, ReplayAt ps w wr (.slice al j cl) (.slice an m cn) k j m u done now vs))
    (fun _ _ _ i _ => n - (RowKit.intOf i).toNat)
  case atStart => exact ⟨0, 0, 0, 0, 0, 0, none, none, Nat.zero_le _, rfl, rfl, rfl, rfl, Lib.hid ⟨[], [], [], Batch.nil _ _, Below.refl _ _, by simp, Nat.le_refl _, Nat.le_refl _, Nat.le_refl _, Nat.zero_le _⟩⟩
  case round =>
    obtain ⟨k, j, m, u, cl, cn, al, an, hk, rfl, rfl, rfl, rfl, hrel⟩ := hrel
    obtain ⟨done, now, vs, hat⟩ := hrel.out
    have HAT := Lib.hid hat
    clear hrel
    have hlen : n = ps.length := HR.out.1
    have hm9 : m ≤ k := hat.2.2.2.2.2.1
    by_cases hlt : k < n
    · have h3 : (k : Int) < (n : Int) := by omega
      obtain ⟨a, p, ap, cp, rfl, hp, hc, hrd, hpl⟩ := (HR.out.later hat.2.1).at hlt
      have HP := Lib.hid hp
      have hlen' := Lib.hid hlen
      have G := parts_any _ p.length p wr hrd rfl hpl
      obtain ⟨pl, hpl2⟩ : ∃ pl, pl = p.length := ⟨_, rfl⟩
      rw [← hpl2] at G hc
      clear hat hp hlen hrd hpl hpl2
      go_wp2_with fail
      refine G.mono ?_
      rintro e w2 ⟨hb2, x, T, tn, at_, ct, rfl, hTx, hwhat⟩
      have HW := Lib.hid (hwhat now.length)
      have HB := HAT.out.1.later hb2
      have HB2 := Lib.hid (And.intro HB (And.intro hb2 (HAT.out.2.1.trans (hb2.mono HAT.out.2.1.size))))
      have hTm := hTx.2.2.1
      unfold maxLen at hTm
      have htn := hTx.1
      have HT := Lib.hid hTx
      have hx256 := x.toNat_lt
      clear hc hb2 G HB hTx hwhat
      have hcase : (x = 112 ∧ ∃ s u, T = [s, u]) ∨ (x = 100 ∧ ∃ s, T = [s]) ∨ (x = 99 ∧ ∃ s, T = [s]) ∨
          (isWhat x T now.length = .stop ∧ (((x.toNat : Int) = 112 ∧ ¬ (tn : Int) = 2) ∨ (¬ (x.toNat : Int) = 112 ∧ (x.toNat : Int) = 100 ∧ ¬ (tn : Int) = 1) ∨ (¬ (x.toNat : Int) = 112 ∧ ¬ (x.toNat : Int) = 100 ∧ (x.toNat : Int) = 99 ∧ ¬ (tn : Int) = 1) ∨ (¬ (x.toNat : Int) = 112 ∧ ¬ (x.toNat : Int) = 100 ∧ ¬ (x.toNat : Int) = 99))) := by
        have xi : ∀ c : UInt8, (x.toNat : Int) = (c.toNat : Int) → x = c := fun c h => UInt8.toNat_inj.1 (by omega)
        by_cases x1 : x = 112
        · subst x1
          match T, htn with
          | [s, u], _ => exact .inl ⟨rfl, s, u, rfl⟩
          | [], h => exact .inr (.inr (.inr ⟨rfl, .inl ⟨rfl, by rw [h]; decide⟩⟩))
          | [s], h => exact .inr (.inr (.inr ⟨rfl, .inl ⟨rfl, by rw [h]; simp⟩⟩))
          | s :: u :: v :: l, h => exact .inr (.inr (.inr ⟨rfl, .inl ⟨rfl, by rw [h]; simp; omega⟩⟩))
        · have y1 : ¬ (x.toNat : Int) = 112 := fun h => x1 (xi 112 h)
          by_cases x2 : x = 100
          · subst x2
            match T, htn with
            | [s], _ => exact .inr (.inl ⟨rfl, s, rfl⟩)
            | [], h => exact .inr (.inr (.inr ⟨rfl, .inr (.inl ⟨y1, rfl, by rw [h]; decide⟩)⟩))
            | [s, u], h => exact .inr (.inr (.inr ⟨rfl, .inr (.inl ⟨y1, rfl, by rw [h]; simp⟩)⟩))
            | s :: u :: v :: l, h => exact .inr (.inr (.inr ⟨rfl, .inr (.inl ⟨y1, rfl, by rw [h]; simp; omega⟩)⟩))
          · have y2 : ¬ (x.toNat : Int) = 100 := fun h => x2 (xi 100 h)
            by_cases x3 : x = 99
            · subst x3
              match T, htn with
              | [s], _ => exact .inr (.inr (.inl ⟨rfl, s, rfl⟩))
              | [], h => exact .inr (.inr (.inr ⟨rfl, .inr (.inr (.inl ⟨y1, y2, rfl, by rw [h]; decide⟩))⟩))
              | [s, u], h => exact .inr (.inr (.inr ⟨rfl, .inr (.inr (.inl ⟨y1, y2, rfl, by rw [h]; simp⟩))⟩))
              | s :: u :: v :: l, h => exact .inr (.inr (.inr ⟨rfl, .inr (.inr (.inl ⟨y1, y2, rfl, by rw [h]; simp; omega⟩))⟩))
            · have y3 : ¬ (x.toNat : Int) = 99 := fun h => x3 (xi 99 h)
              refine .inr (.inr (.inr ⟨?_, .inr (.inr (.inr ⟨y1, y2, y3⟩))⟩))
              match T with
              | [] => rfl
              | [s] => simp [isWhat, x2, x3]
              | [s, u] => simp [isWhat, x1]
              | s :: u :: v :: l => rfl
      have HTN := Lib.hid htn
      clear htn
      rcases hcase with ⟨rfl, s, u2, rfl⟩ | ⟨rfl, s, rfl⟩ | ⟨rfl, s, rfl⟩ | ⟨hstop, hst⟩
      · obtain ⟨b0, s', rfl, e1, c0, s1⟩ := HT.out.at (k := 0) (by have := HTN.out; simp at this; omega)
        obtain rfl : s = s' := by simpa using e1
        obtain ⟨b1, s', e0, e2, c1, s2⟩ := HT.out.at (k := 1) (by have := HTN.out; simp at this; omega)
        obtain rfl : b0 = b1 := by simpa using e0
        obtain rfl : u2 = s' := by simpa using e2
        obtain rfl : tn = 2 := HTN.out
        rw [show b0.add 0 = b0 by simp [Addr.add]] at c0
        have c1' : w2.cell? ⟨b0.block, b0.off + 1, none⟩ = some (.string u2) := by simpa [Addr.add] using c1
        have HS := Lib.hid (And.intro s1 s2)
        clear e0 e1 e2 c1 s1 s2
        have d0 : w2.drew.cell? b0 = some (.string s) := c0
        have d1 : w2.drew.cell? ⟨b0.block, b0.off + 1, none⟩ = some (.string u2) := c1'
        go_wp2_with fail
        clear c0 c1'
        have HB3 : Hid (Batch w2.drew w.heap.size (.slice al j cl) (.slice an m cn) j m done now vs ∧ Below w.heap.size w w2.drew) := Lib.hid (And.intro (HB2.out.1.later (below_drewN (Below.refl _ w2) 1)) (below_drewN HB2.out.2.2 1))
        obtain ⟨o, ho⟩ : ∃ o : Opm, o = ⟨false, s, u2⟩ := ⟨_, rfl⟩
        have HO : Hid (what p now.length = .op o ∧ o.key.size ≤ maxLen ∧ o.val.size ≤ maxLen) := Lib.hid ⟨by rw [HW.out, ho]; simp [isWhat], by rw [ho]; exact ⟨HS.out.1, HS.out.2⟩⟩
        have F := Lib.hid (show m + 1 ≤ 1000000 by omega)
        have HC : Hid (Cells (w2.drew.alloc (.cells #[.bool false, .string s, .string u2] 68)) (.slice (some ⟨w2.drew.heap.size, 0, none⟩) 1 1) 3 1 (ov o)) := Lib.hid (by rw [ho]; exact Cells.lit w2.drew (ov ⟨false, s, u2⟩) 68 (0, 0) 3 1 rfl)
        have HB4 := Lib.hid (HB3.out.1.later ((Below.refl _ w2.drew).alloc (Nat.le_refl _) (.cells #[.bool false, .string s, .string u2] 68)))
        have HBB := Lib.hid (HB3.out.2.alloc HB3.out.2.size (.cells #[.bool false, .string s, .string u2] 68))
        clear ho
        go_region_law (refine step_append_gen elemOp rfl (.tmp 29) (.tmp 37) rfl w.heap.size _ m (ovs now) (by simp [Act.eval]) HB4.out.2.2.2.2.2.1 _ 1 (ov o) (by simp [Act.eval]) HC.out (ov_one o) (m + 1) rfl F (by decide) HBB.out.size ?_; intro ao8 c8 w8 hown8 hb8 hg8 ho8)
        all_goals
          have HX := Lib.hid (And.intro hown8 (And.intro hb8 (And.intro hg8 ho8)))
          clear hown8 hb8 hg8 ho8
          go_wp2_with fail
          exact ⟨⟨k + 1, j, m + 1, u, cl, c8, al, ao8, by omega, by simp, rfl, rfl, rfl, Lib.hid ⟨done, _, vs, replay_op HAT.out HP.out HO.out.1 (HB4.out.op o HO.out.2 HX.out.1 HX.out.2.2.1 HX.out.2.2.2) (HBB.out.trans HX.out.2.1)⟩⟩, by simp only [RowKit.intOf]; omega⟩
      · obtain ⟨b0, s', rfl, e1, c0, s1⟩ := HT.out.at (k := 0) (by have := HTN.out; simp at this; omega)
        obtain rfl : s = s' := by simpa using e1
        obtain rfl : tn = 1 := HTN.out
        rw [show b0.add 0 = b0 by simp [Addr.add]] at c0
        have HS := Lib.hid s1
        have HB3 := Lib.hid (And.intro HB2.out.1 HB2.out.2.2)
        obtain ⟨w3, hw3⟩ : ∃ w3, w3 = w2 := ⟨_, rfl⟩
        subst hw3
        clear e1 s1
        obtain ⟨o, ho⟩ : ∃ o : Opm, o = ⟨true, s, ⟨#[]⟩⟩ := ⟨_, rfl⟩
        have HO : Hid (what p now.length = .op o ∧ o.key.size ≤ maxLen ∧ o.val.size ≤ maxLen) := Lib.hid ⟨by rw [HW.out, ho]; simp [isWhat], by rw [ho]; exact ⟨HS.out, Nat.zero_le _⟩⟩
        have F := Lib.hid (show m + 1 ≤ 1000000 by omega)
        have HC : Hid (Cells (w3.alloc (.cells #[.bool true, .string s, .string ⟨#[]⟩] 68)) (.slice (some ⟨w3.heap.size, 0, none⟩) 1 1) 3 1 (ov o)) := Lib.hid (by rw [ho]; exact Cells.lit w3 (ov ⟨true, s, ⟨#[]⟩⟩) 68 (0, 0) 3 1 rfl)
        have HB4 := Lib.hid (HB3.out.1.later ((Below.refl _ w3).alloc (Nat.le_refl _) (.cells #[.bool true, .string s, .string ⟨#[]⟩] 68)))
        have HBB := Lib.hid (HB3.out.2.alloc HB3.out.2.size (.cells #[.bool true, .string s, .string ⟨#[]⟩] 68))
        clear ho
        go_wp2_with (at_builtin; refine wpList_append_gen elemOp rfl (.tmp 47) (.tmp 52) rfl w.heap.size _ m (ovs now) rfl HB4.out.2.2.2.2.2.1 _ 1 (ov o) rfl HC.out (ov_one o) (m + 1) rfl F (by decide) HBB.out.size ?_; intro ao8 c8 w8 hown8 hb8 hg8 ho8)
        exact ⟨⟨k + 1, j, m + 1, u, cl, c8, al, ao8, by omega, by simp, rfl, rfl, rfl, Lib.hid ⟨done, _, vs, replay_op HAT.out HP.out HO.out.1 (HB4.out.op o HO.out.2 hown8 hg8 ho8) (HBB.out.trans hb8)⟩⟩, by simp only [RowKit.intOf]; omega⟩
      · obtain ⟨b0, s', rfl, e1, c0, s1⟩ := HT.out.at (k := 0) (by have := HTN.out; simp at this; omega)
        obtain rfl : s = s' := by simpa using e1
        obtain rfl : tn = 1 := HTN.out
        rw [show b0.add 0 = b0 by simp [Addr.add]] at c0
        have d0 : ∀ w', Grow w2.drew w' → w'.cell? b0 = some (.string s) := fun w' hg => grow_cell hg c0
        have hmn : m = now.length := HAT.out.1.2.1
        have HMN := Lib.hid hmn
        have HB3 : Hid (Batch w2.drew w.heap.size (.slice al j cl) (.slice an m cn) j m done now vs ∧ Below w.heap.size w w2.drew ∧ Grow wr w2.drew) := Lib.hid ⟨HB2.out.1.later (below_drewN (Below.refl _ w2) 1), below_drewN HB2.out.2.2 1, below_drewN HB2.out.2.1 1⟩
        have CNT := count_any _ m now w2.drew (HB3.out.1.now (by unfold maxLen; omega)) (HTB.out.later HB3.out.2.1)
        clear e1 s1 hmn
        by_cases hs : s = txt (digs m)
        · subst hs
          have HO : Hid (what p now.length = .done) := Lib.hid (by rw [HW.out, ← HMN.out]; simp [isWhat])
          go_wp2_with fail
          clear c0
          refine wp_region_mv [(0, 12, true), (12, 1, false), (13, 3, true)] (by kernel_rfl) (by kernel_rfl) ?_
          simp only [mvAll, mvSeg, List.drop_succ_cons, List.drop_zero, List.cons_append, List.nil_append, Nat.reduceAdd]
          iterate 12
            refine wpLin_still ?_ (fun w' hG K hK => ?_) (fun K hK => ?_)
            rotate_left
            · unfold mvVal
              go_simp
              try exact hK
            go_simp
            refine hK _ ?_
            clear hK K
          refine wpLin_call (fun K hK => ?_)
          unfold mvRun
          go_simp
          simp only [mvUpon]
          refine CNT.mono ?_
          rintro e w4 ⟨rfl, hb4⟩
          refine ⟨_, rfl, ?_⟩
          go_simp
          refine hK _ _ hb4 ?_
          clear hK K
          have HB4 : Hid (Batch w4 w.heap.size (.slice al j cl) (.slice an m cn) j m done now vs ∧ Below w.heap.size w w4 ∧ Grow wr w4) := Lib.hid ⟨HB3.out.1.later hb4, HB3.out.2.1.trans (hb4.mono HB3.out.2.1.size), Grow.trans HB3.out.2.2 hb4⟩
          clear hb4 d0 CNT
          iterate 3
            refine wpLin_still ?_ (fun w' hG K hK => ?_) (fun K hK => ?_)
            rotate_left
            · unfold mvVal
              go_simp
              try exact hK
            go_simp
            refine hK _ ?_
            clear hK K
          refine wpLin_nil ?_
          have F := Lib.hid (show j + 1 ≤ 1000000 by have := HAT.out.2.2.2.2.1; omega)
          have HC : Hid (Cells (w4.alloc (.cells #[.slice an m cn] 49)) (.slice (some ⟨w4.heap.size, 0, none⟩) 1 1) 1 1 [.slice an m cn]) := Lib.hid (Cells.lit w4 [.slice an m cn] 49 (0, 0) 1 1 rfl)
          have HB5 := Lib.hid (HB4.out.1.later ((Below.refl _ w4).alloc (Nat.le_refl _) (.cells #[.slice an m cn] 49)))
          have HBB := Lib.hid (HB4.out.2.1.alloc HB4.out.2.1.size (.cells #[.slice an m cn] 49))
          go_wp2_with (at_builtin; refine wpList_append_gen elemOps rfl (.tmp 70) (.tmp 72) rfl w.heap.size _ j vs rfl HB5.out.2.2.1 _ 1 [.slice an m cn] rfl HC.out (by intro u hu; simp only [List.mem_singleton] at hu; subst hu; rfl) (j + 1) rfl F (by decide) HBB.out.size ?_; intro ao8 c8 w8 hown8 hb8 hg8 ho8)
          exact ⟨⟨k + 1, j + 1, 0, k + 1, c8, 0, ao8, none, by omega, by simp, rfl, rfl, by simp, Lib.hid ⟨_, [], _, replay_done HAT.out HP.out HO.out (HB5.out.done (by unfold maxLen; omega) hown8 hg8 ho8) (HBB.out.trans hb8)⟩⟩, by simp only [RowKit.intOf]; omega⟩
        · have z1 : (s.toList == (txt (digs m)).toList) = false := by
            simp only [beq_eq_false_iff_ne, ne_eq]
            exact fun h => hs (text_inj' h)
          have z2 : ¬ s.toList = (txt (digs m)).toList := fun h => hs (text_inj' h)
          have HO : Hid (what p now.length = .stop) := Lib.hid (by rw [HW.out, ← HMN.out]; simp [isWhat, hs])
          have HS := fun w' hg => replay_stops HAT.out (.inr ⟨p, HP.out, HO.out⟩) (by rw [← hlen'.out]; unfold maxLen; omega) w' hg
          have HS := Lib.hid HS
          clear hs
          go_wp2_with fail
          clear c0
          refine wp_region_mv [(0, 12, true), (12, 1, false), (13, 3, true)] (by kernel_rfl) (by kernel_rfl) ?_
          simp only [mvAll, mvSeg, List.drop_succ_cons, List.drop_zero, List.cons_append, List.nil_append, Nat.reduceAdd]
          iterate 12
            refine wpLin_still ?_ (fun w' hG K hK => ?_) (fun K hK => ?_)
            rotate_left
            · unfold mvVal
              go_simp
              try exact hK
            go_simp
            refine hK _ ?_
            clear hK K
          refine wpLin_call (fun K hK => ?_)
          unfold mvRun
          go_simp
          simp only [mvUpon]
          refine CNT.mono ?_
          rintro e w4 ⟨rfl, hb4⟩
          refine ⟨_, rfl, ?_⟩
          go_simp
          refine hK _ _ hb4 ?_
          clear hK K
          have HB4 : Hid (Batch w4 w.heap.size (.slice al j cl) (.slice an m cn) j m done now vs ∧ Below w.heap.size w w4 ∧ Grow wr w4) := Lib.hid ⟨HB3.out.1.later hb4, HB3.out.2.1.trans (hb4.mono HB3.out.2.1.size), Grow.trans HB3.out.2.2 hb4⟩
          clear hb4 d0 CNT
          iterate 3
            refine wpLin_still ?_ (fun w' hG K hK => ?_) (fun K hK => ?_)
            rotate_left
            · unfold mvVal
              go_simp
              try exact hK
            go_simp
            refine hK _ ?_
            clear hK K
          refine wpLin_nil ?_
          go_wp2_with fail
          (try rw [Exit.noGoto_ret])
          go_ret2
          exact HS.out _ HB4.out.2.2
      · have HS := fun w' hg => replay_stops HAT.out (.inr ⟨p, HP.out, by rw [HW.out, hstop]⟩) (by rw [← hlen'.out]; unfold maxLen; omega) w' hg
        have HS := Lib.hid HS
        clear hstop
        rcases hst with ⟨y1, y2⟩ | ⟨y1, y2, y3⟩ | ⟨y1, y2, y3, y4⟩ | ⟨y1, y2, y3⟩
        · have z1 : ((x.toNat : Int) == 99) = false := by rw [y1]; rfl
          have z2 : ((x.toNat : Int) == 100) = false := by rw [y1]; rfl
          have z3 : ((tn : Int) == 2) = false := by simpa using y2
          go_wp2_with fail
          go_quiet (fail)
          go_wp2_with fail
          (try rw [Exit.noGoto_ret])
          go_ret2
          exact HS.out _ (below_drewN HB2.out.2.1 nq)
        · have z0 : ((x.toNat : Int) == 112) = false := by rw [y2]; rfl
          have z1 : ((x.toNat : Int) == 99) = false := by rw [y2]; rfl
          have z3 : ((tn : Int) == 1) = false := by simpa using y3
          go_wp2_with fail
          go_quiet (fail)
          go_wp2_with fail
          (try rw [Exit.noGoto_ret])
          go_ret2
          exact HS.out _ (below_drewN HB2.out.2.1 nq)
        · have z0 : ((x.toNat : Int) == 112) = false := by rw [y3]; rfl
          have z1 : ((x.toNat : Int) == 100) = false := by rw [y3]; rfl
          have z3 : ((tn : Int) == 1) = false := by simpa using y4
          go_wp2_with fail
          go_quiet (fail)
          go_wp2_with fail
          (try rw [Exit.noGoto_ret])
          go_ret2
          exact HS.out _ (below_drewN HB2.out.2.1 nq)
        · have z0 : ((x.toNat : Int) == 112) = false := by simpa using y1
          have z1 : ((x.toNat : Int) == 100) = false := by simpa using y2
          have z3 : ((x.toNat : Int) == 99) = false := by simpa using y3
          go_wp2_with fail
          go_quiet (fail)
          go_wp2_with fail
          (try rw [Exit.noGoto_ret])
          go_ret2
          exact HS.out _ (below_drewN HB2.out.2.1 nq)
    · have h3 : ¬ (k : Int) < (n : Int) := by omega
      have hkn : k = n := by omega
      have HS := fun w' hg => replay_stops HAT.out (.inl (List.drop_eq_nil_of_le (by omega))) (by unfold maxLen; omega) w' hg
      have HS := Lib.hid HS
      clear hat hlen hkn
      go_wp2_with fail
      (try rw [Exit.noGoto_ret])
      go_ret2
      exact HS.out _ (Below.refl _ _)

theorem replay_any (v : Value) (n : Nat) (ps : List (List UInt8)) (w : World) (hr : Rws w v n ps) (ht : Tab w) (hn : n ≤ 900000) :
    Calls Tryz.prog 65 #[v] w (ReplayDone ps w) := (replay_from v n ps w hr ht hn).mono fun _ _ h => h.done

end Go.Proofs.YthacjeeafnblmaaGreatDoor
