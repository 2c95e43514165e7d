/- append(list, n), for lists of ints. Numbers and types by name. -/
import Derived.Test.YthacjeeafnblmaaDoorSmo
import Derived.Test.YthacjeeafnblmaaDoorFrm
import Derived.Test.YthacjeeafnblmaaDoorRdp
/- The code's Encode. Numbers and types by name. -/
namespace Go.Proofs.YthacjeeafnblmaaDoor
open Go.RowKit Go.Lib

theorem batch_bad (v : Value) (n : Nat) (L : List Opm) (w : World) (hr : Opr w v n L) (hok : okOps L = false) :
    Calls Tryd.prog 29 #[v] w fun e w' => e = .returned (.tuple #[.slice none 0 0, .int .i64 1]) ∧ Below w.heap.size w w' := by
  have R := right_any _ n L w hr
  rw [hok] at R
  clear hr hok
  go_enter Tryd.func29, Tryd.ntmps29
  go_wp2_with fail
  refine R.mono ?_
  rintro e w1 ⟨rfl, hb⟩
  clear R
  go_wp2_with fail
  go_ret2
  exact ⟨rfl, hb⟩

theorem Opm.eta3 (o : Opm) : ∃ d k v, o = ⟨d, k, v⟩ := ⟨o.del, o.key, o.val, rfl⟩

set_option maxHeartbeats 2000000 in
theorem batch_any (v : Value) (n : Nat) (L : List Opm) (w : World) (hr : Opr w v n L) (ht : Tab w) (hok : okOps L = true) (hb : bulkO L ≤ 5000) :
    Calls Tryd.prog 29 #[v] w fun e w' => ∃ ao m c, e = .returned (.tuple #[.slice ao m c, .int .i64 0]) ∧ Bs w' w.heap.size (.slice ao m c) m (frms (recs L)) ∧ Below w.heap.size w w' := by
  obtain ⟨ao, c, rfl⟩ := hr.shape
  have HR := Lib.hid hr
  have HT := Lib.hid ht
  have HB := Lib.hid hb
  have hn5 : n ≤ 5000 := by have := bulkO_length L; have := hr.1; omega
  have R := right_any _ n L w hr
  rw [hok] at R
  clear hr hok hb ht
  go_enter Tryd.func29, Tryd.ntmps29
  go_wp2_with fail
  refine R.mono ?_
  rintro e w1 ⟨rfl, hb1⟩
  clear R
  have HB1 := Lib.hid hb1
  clear hb1
  go_wp2_with fail
  go_loopw [4, 16] (fun xv i wr => ∃ (k r c : Nat) (ao : Option Addr), k ≤ n ∧ i = .int .i64 k ∧ xv = .slice ao r c ∧ Hid (r ≤ 110000 ∧ Bs wr w.heap.size (.slice ao r c) r (frms ((L.take k).map pay)) ∧ Below w.heap.size w wr))
    (fun _ i _ => n - (RowKit.intOf i).toNat)
  case atStart => exact ⟨0, 0, 0, none, Nat.zero_le _, rfl, rfl, Lib.hid ⟨by omega, ⟨rfl, World.ownsRow_nil _ _ _ _⟩, HB1.out⟩⟩
  case round =>
    obtain ⟨k, r, c, ao2, hk, rfl, rfl, hrel⟩ := hrel
    have HA := Lib.hid hrel.out.2.1
    have HBE := Lib.hid hrel.out.2.2
    have hrb := hrel.out.1
    clear hrel
    by_cases hlt : k < n
    · have h3 : (k : Int) < (n : Int) := by omega
      obtain ⟨a, o, rfl, ho, q0, q1, q2, s1, s2⟩ := (HR.out.later HBE.out).at hlt
      have HO := Lib.hid ho
      have hob := bulkO_mem (List.mem_of_getElem? ho)
      have HOB : Hid (1 + o.key.size + o.val.size ≤ 5000) := Lib.hid (by have := HB.out; omega)
      have G := fun w => operation_any o w HOB.out
      have HG : Hid (Grow wr (wr.alloc (.cells #[.bool o.del, .string o.key, .string o.val] 47))) := Lib.hid ((Below.refl _ wr).alloc (Nat.le_refl _) _)
      clear ho s1 s2 hob
      go_wp2_with fail
      refine (G _).mono ?_
      rintro e w2 ⟨a2, m2, c2, rfl, h2, hb2⟩
      have hm2 : m2 ≤ 6000 := by have := h2.1; have := pay_length o; have := HOB.out; omega
      have HX := Lib.hid (And.intro h2 (Grow.trans HG.out hb2))
      clear h2 hb2 G HG q0 q1 q2
      go_wp2_with fail
      refine (frame_any _ m2 (pay o) w2 HX.out.1.reads HX.out.1.1 (by omega)).mono ?_
      rintro e w3 ⟨a3, c3, rfl, h3', hb3⟩
      obtain ⟨s, hs⟩ : ∃ s, s = m2 + 8 := ⟨_, rfl⟩
      rw [← hs] at h3' ⊢
      have hs6 : s ≤ 6008 := by omega
      have HY := Lib.hid (And.intro h3' (Grow.trans HX.out.2 hb3))
      have HAY := Lib.hid (HA.out.below HY.out.2 (Nat.le_refl _))
      have HBY := Lib.hid (HBE.out.trans (HY.out.2.mono HBE.out.size))
      have F1 : Hid (r + s ≤ maxLen) := Lib.hid (by unfold maxLen; omega)
      have F2 : Hid ((r + s) * 1 ≤ 140737488355328) := Lib.hid (by omega)
      clear h3' hb3 hs HX
      go_wp2_with (at_builtin; refine wpList_append_bytes rfl (.tmp 29) (.tmp 30) rfl w.heap.size _ r _ rfl HAY.out (.slice a3 s c3) s (frm (pay o)) HY.out.1.1 rfl HY.out.1.reads (r + s) rfl F1 F2 HBY.out.size ?_; intro ao8 c8 w8 hown8 hb8)
      have hN : frms ((L.take k).map pay) ++ frm (pay o) = frms ((L.take (k + 1)).map pay) := (pays_take HO.out).symm
      rw [hN] at hown8
      refine ⟨⟨k + 1, r + s, c8, ao8, by omega, by simp, rfl, Lib.hid ⟨?_, hown8, HBY.out.trans hb8⟩⟩, by simp only [RowKit.intOf]; omega⟩
      have h1 := pays_bulk (L.take (k + 1))
      have h2 := bulkO_take L (k + 1)
      have h4 := HB.out
      have h5 := hown8.1
      omega
    · have h3 : ¬ (k : Int) < (n : Int) := by omega
      obtain rfl : k = n := by omega
      have hkL : L.take k = L := List.take_of_length_le (by have := HR.out.1; omega)
      have hlen : Hid (L.length = k) := Lib.hid HR.out.1.symm
      rw [hkL] at HA
      have C := count_any _ k L wr (HR.out.later HBE.out) (HT.out.later HBE.out)
      clear hkL
      go_wp2_with fail
      refine C.mono ?_
      rintro e w2 ⟨rfl, hb2⟩
      have HX2 : Hid (Grow wr w2) := Lib.hid hb2
      clear hb2 C
      go_wp2_with fail
      have hfl := fin_length (n := k) (by omega)
      have hsz : (txt (digs k)).size ≤ 18 := by unfold fin at hfl; rw [List.length_cons, enc1_length] at hfl; omega
      refine (payload_any 99 _ 1 [txt (digs k)] _ (Texts.lit w2 [txt (digs k)] (0, 0) 1 rfl (by unfold maxLen; omega) (by intro s hs; simp only [List.mem_singleton] at hs; subst hs; unfold maxLen; omega)) (by simp only [bulk, List.map_cons, List.map_nil, List.sum_cons, List.sum_nil]; omega)).mono ?_
      rintro e w3 ⟨a3, m3, c3, rfl, h3', hb3⟩
      have hm3 : m3 ≤ 18 := by have := h3'.1; unfold fin at hfl; omega
      have HX3 := Lib.hid (And.intro h3' (Grow.trans HX2.out (Grow.trans ((Below.refl _ w2).alloc (Nat.le_refl _) (.cells (sv [txt (digs k)]).toArray 9)) hb3)))
      clear h3' hb3 HX2 hfl hsz
      go_wp2_with fail
      have hfe : (99 : UInt8) :: enc [txt (digs k)] = fin k := rfl
      rw [hfe] at HX3
      refine (frame_any _ m3 (fin k) w3 HX3.out.1.reads HX3.out.1.1 (by omega)).mono ?_
      rintro e w4 ⟨a4, c4, rfl, h4', hb4⟩
      obtain ⟨s, hs⟩ : ∃ s, s = m3 + 8 := ⟨_, rfl⟩
      rw [← hs] at h4' ⊢
      have hs6 : s ≤ 6008 := by omega
      have HY := Lib.hid (And.intro h4' (Grow.trans HX3.out.2 hb4))
      have HAY := Lib.hid (HA.out.below HY.out.2 (Nat.le_refl _))
      have HBY := Lib.hid (HBE.out.trans (HY.out.2.mono HBE.out.size))
      have F1 : Hid (r + s ≤ maxLen) := Lib.hid (by unfold maxLen; omega)
      have F2 : Hid ((r + s) * 1 ≤ 140737488355328) := Lib.hid (by omega)
      clear h4' hb4 hs HX3 hfe
      go_wp2_with (at_builtin; refine wpList_append_bytes rfl (.tmp 41) (.tmp 42) rfl w.heap.size _ r _ rfl HAY.out (.slice a4 s c4) s (frm (fin k)) HY.out.1.1 rfl HY.out.1.reads (r + s) rfl F1 F2 HBY.out.size ?_; intro ao8 c8 w8 hown8 hb8)
      go_ret2
      have hN : frms (L.map pay) ++ frm (fin k) = frms (recs L) := by rw [recs, frms_snoc, hlen.out]
      rw [hN] at hown8
      exact ⟨ao8, r + s, c8, by simp, hown8, HBY.out.trans hb8⟩

end Go.Proofs.YthacjeeafnblmaaDoor

namespace Go.Proofs.YthacjeeafnblmaaDoor
open Go.RowKit Go.Lib

/-- append(list, n). -/
theorem wpList_append_int {ops : Array Oper} {rest : List Oper} {o : Oper} {a : Act} {w : World} {Q : Exit → Act → World → Prop} (hgd : o.guard = none) (s x : Operand)
    (ho : o.op = .call { callee := .builtin .append, args := #[s, x], argTypes := #[31, 31] })
    (base : Nat) (v : Value) (n : Nat) (l : List Int) (hs : a.eval s = v) (hown : w.ownsRow base 3 1 v n (iv l)) (ad : Addr) (z : Int) (hx : a.eval x = .slice (some ad) 1 1) (hc : w.cell? ad = some (.int .i64 z))
    (q : Nat) (hq : q = n + 1) (h63 : Hid (q ≤ 1000000000)) (hbase : base ≤ w.heap.size)
    (h : ∀ ao c w', w'.ownsRow base 3 1 (.slice ao q c) q (iv (l ++ [z])) → Below base w w' → w.grownBy w' v.ownBlock → wpList Tryd.prog ops Q rest (a.put o.dst (.slice ao q c)) w') : wpList Tryd.prog ops Q (o :: rest) a w := by
  subst hq
  obtain ⟨i0, hi, hz0, hz1, hz2⟩ := info_parts info_int
  have hb := h63.out
  refine wpList_plain hgd fun K hK => ?_
  obtain ⟨v', w', hr', e2, e3, _, e5⟩ := run_append_own_at (P := Tryd.prog) w base 31 o.type 3 i0 (.int .i64 0) 1 8 Tryd.underlying31 hi hz0 hz1 hz2 rfl (by decide) v n _ hown ad 1 1 [.int .i64 z] rfl
    (fun j u hj => by
      cases j with
      | zero => simp at hj; subst hj; simpa [Addr.add] using hc
      | succ j => simp at hj) (by intro u hu; simp at hu; subst hu; rfl) (by unfold maxLen; omega) (by omega) hbase
  obtain ⟨ao, c, rfl⟩ := owns_shape e2
  unfold Oper.wp execOp
  simp only [ho, resolve, invoke, builtin, Sem.run_bind, Sem.run_pure, Result.andThen_ok, List.map_toArray, List.map_cons, List.map_nil, hs, hx, hr']
  refine hK _ _ (h ao c w' ?_ (below_grown_own hown e3 hbase) e3)
  simpa [iv] using e2

end Go.Proofs.YthacjeeafnblmaaDoor
