/- Rename, that is carried out. Numbers and types by name. -/
import Derived.Test.YthcdkggkoanjpaaGreatDoorFrp
import Derived.Test.YthcdkggkoanjpaaGreatDoorNum
import Derived.Test.YthcdkggkoanjpaaGreatDoorFrm
import Derived.Test.YthcdkggkoanjpaaGreatDoorCdc
import Derived.Shelf.SlSortCmp.KitK
import Derived.Lib.Bytealg
import Derived.Sort.Grow
import Derived.Lib.AppendZerosOnto
import Derived.Lib.SliceRun
import Derived.Shelf.SlSortCmp.QuietGrown
import Derived.WalkMore
import Derived.Test.YthcdkggkoanjpaaGreatDoorCut
import Derived.Test.YthcdkggkoanjpaaGreatDoorFil
import Derived.Test.YthcdkggkoanjpaaGreatDoorAp2
import Derived.Test.YthcdkggkoanjpaaGreatDoorClo
namespace Go.Proofs.YthcdkggkoanjpaaGreatDoor
open Go.RowKit Go.Lib Go.Sort
def bytesT (L : List Prm) : List UInt8 := if Rise L then frm (enc (flatP L)) else []
def errT (L : List Prm) : Int := if Rise L then 0 else 1
def ToldB (L : List Prm) (w : World) (e : Ending) (w' : World) : Prop :=
  ∃ ao m c, e = .returned (.tuple #[.slice ao m c, .int .i64 (errT L)]) ∧ Bs w' w.heap.size (.slice ao m c) m (bytesT L) ∧ Below w.heap.size w w'
theorem wpList_make_pairs {ops : Array Oper} {rest : List Oper} {o : Oper} {a : Act} {w : World} {Q : Exit → Act → World → Prop} (hgd : o.guard = none) (s x : Operand) (ho : o.op = Op.makeSlice 48 s x)
    (base n : Nat) (C : Int) (hl : a.eval s = .int .i64 0) (hc : a.eval x = .int .i64 C) (hC : C = (n : Int)) (h63 : Hid (n ≤ 1000000)) (hbase : base ≤ w.heap.size)
    (h : ∀ w', OwnP w' base (.slice (some ⟨w.heap.size, 0, none⟩) 0 n) [] → Below base w w' → wpList Tryz.prog ops Q rest (a.put o.dst (.slice (some ⟨w.heap.size, 0, none⟩) 0 n)) w') : wpList Tryz.prog ops Q (o :: rest) a w := by
  obtain ⟨i0, hi, hz0, hz1, hz2⟩ := info_parts elemPair.info
  have hm := h63.out
  exact wpList_make_own w hgd s x _ ho base 90 i0 _ 2 Tryz.underlying48 hi hz0 hz1 .i64 .i64 C n hl hc hC (by rw [hz2]; omega) (by unfold maxLen; omega) hbase fun w' hown hg => h w' hown (below_none hg hbase)
set_option maxHeartbeats 4000000 in
set_option maxRecDepth 20000 in
theorem tdec_any (v : Value) (m : Nat) (b : List UInt8) (w : World) (hr : Reads w v (bv b)) (hm : m = b.length) (hl : m ≤ 1000000) :
    Calls Tryz.prog 64 #[v] w (FromDone b w) := by
  obtain ⟨ao, c, rfl⟩ : ∃ ao c, v = .slice ao m c := by obtain ⟨ao, c, rfl, _⟩ := hr; exact ⟨ao, c, by rw [bv_length, hm]⟩
  have HR := Lib.hid hr
  have HM := Lib.hid hm
  have S := scan_any _ m b w hr hm (Lib.hid (by omega))
  clear hr hm
  go_enter Tryz.func64, Tryz.ntmps64
  go_wp2_with fail
  refine S.mono ?_
  rintro e w1 ⟨hb1, l, n, al, cl, hs, hnb, rfl, ho⟩
  have HS := Lib.hid hs
  have HB1 := Lib.hid hb1
  by_cases hone : ¬ (l.length = 1 ∧ n = b.length)
  · have HU := Lib.hid (scan_not hs hone)
    have hcase : (¬ (l.length : Int) = 1) ∨ ((l.length : Int) = 1 ∧ ¬ (n : Int) = (m : Int)) := by
      have := HM.out
      omega
    generalize l.length = ll at *
    clear hs hone S ho hb1 hnb
    rcases hcase with x1 | ⟨x1, x2⟩
    · have z1 : ((ll : Int) != 1) = true := by simpa using x1
      go_wp2_with fail
      go_ret2
      exact ⟨HB1.out, .inr ⟨HU.out, rfl⟩⟩
    · have z1 : ((ll : Int) != 1) = false := by simpa using x1
      have z2 : ((n : Int) != (m : Int)) = true := by simpa using x2
      go_wp2_with fail
      go_ret2
      exact ⟨HB1.out, .inr ⟨HU.out, rfl⟩⟩
  have hone := Classical.not_not.1 hone
  obtain ⟨p, rfl⟩ : ∃ p, l = [p] := List.length_eq_one_iff.1 hone.1
  have HO := Lib.hid (scan_one hs hone.2)
  have HU := Lib.hid (unP_of HO.out)
  have hnm : (n : Int) = (m : Int) := by have := HM.out; omega
  rw [hnm]
  have hp9 : p.length ≤ m := by have := one_size HO.out; have := HM.out; omega
  obtain ⟨a, p', ap, cp, rfl, hp, hc, hrd, hpl⟩ := (ho.rows (by rw [List.length_singleton]; unfold maxLen; decide)).at (k := 0) (by simp)
  obtain rfl : p = p' := by simpa using hp
  rw [show a.add 0 = a by simp [Addr.add]] at hc
  have D := decode_anyL _ p.length p w1 hrd rfl (Lib.hid hpl)
  obtain ⟨pl, hpl2⟩ : ∃ pl, pl = p.length := ⟨_, rfl⟩
  rw [← hpl2] at D hc hp9
  rw [List.length_singleton]
  have HPL := Lib.hid hpl2
  clear S hs ho hnb hnm hp hrd hpl hb1 hpl2 hone
  go_wp2_with fail
  refine D.mono ?_
  rintro e w2 ⟨hb2, ⟨T, at_, ct, hT, rfl, hTx⟩ | ⟨hT, rfl⟩⟩
  rotate_left
  · have HB2 := Lib.hid (And.intro hT (HB1.out.trans (hb2.mono HB1.out.size)))
    clear hT hb2 D hc
    go_wp2_with fail
    go_ret2
    refine ⟨HB2.out.2, .inr ⟨?_, rfl⟩⟩
    rw [HU.out, HB2.out.1]
  have HB2 := Lib.hid (And.intro hT (HB1.out.trans (hb2.mono HB1.out.size)))
  rw [hT] at HU
  have HT := Lib.hid hTx
  obtain ⟨tn, htn⟩ : ∃ tn, tn = T.length := ⟨_, rfl⟩
  have htl : tn ≤ 1000000 := by
    have h1 := dec_length_le hT
    have h2 := HPL.out
    omega
  rw [← htn] at hTx HT ⊢
  have HTN := Lib.hid htn
  clear hT hb2 D hc hTx htn
  by_cases hev : tn % 2 = 0
  · obtain ⟨h, hh⟩ : ∃ h, tn = 2 * h := ⟨tn / 2, by omega⟩
    have z1 : (tn : Int) % 2 = 0 := by omega
    have z2 : (tn : Int) / 2 = (h : Int) := by omega
    have HH := Lib.hid hh
    have HMK : Hid (h ≤ 1000000) := Lib.hid (by omega)
    clear hh
    go_wp2_with (refine wpList_make_pairs rfl _ _ rfl w2.heap.size h _ rfl rfl (by first | rfl | omega) HMK (Nat.le_refl _) ?_; intro w3 hown3 hb3)
    clear z1 z2
    have HI := Lib.hid (And.intro hown3 hb3)
    clear hown3 hb3
    go_loopw [8, 9] (fun lv iv wr => ∃ (k i c : Nat) (ao : Option Addr), i ≤ tn ∧ iv = .int .i64 (i : Int) ∧ lv = .slice ao k c ∧ Hid (i = 2 * k ∧ OwnP wr w2.heap.size (.slice ao k c) ((pairUp T).take k) ∧ k = ((pairUp T).take k).length ∧ Grow w2 wr))
      (fun _ iv _ => tn + 1 - (RowKit.intOf iv).toNat)
    case atStart => exact ⟨0, 0, _, _, Nat.zero_le _, rfl, rfl, Lib.hid ⟨rfl, HI.out.1, rfl, HI.out.2⟩⟩
    case round =>
      clear HI
      obtain ⟨k, i, cc, a8, hi, rfl, rfl, hrel⟩ := hrel
      have hpl := pairUp_length h T (by rw [← HTN.out]; exact HH.out)
      have HPU := Lib.hid hpl
      by_cases hlt : i < tn
      · have i0 : (i : Int) < (tn : Int) := by omega
        obtain ⟨i1, hi1⟩ : ∃ i1, i1 = i + 1 := ⟨_, rfl⟩
        have hlt1 : i1 < tn := by have := hrel.out.1; omega
        have i2 : (i1 : Int) < (tn : Int) := by omega
        have w0 : IntKind.i64.wrap ((i : Int) + 1) = (i1 : Int) := by rw [IntKind.wrap_i64]; omega
        have hT2 := HT.out.later hrel.out.2.2.2
        obtain ⟨a0, s, rfl, e1, c0, s1⟩ := hT2.at hlt
        obtain ⟨a0', u, e0, e2, c1, s2⟩ := hT2.at hlt1
        obtain rfl : a0 = a0' := by simpa using e0
        have hk : (pairUp T)[k]? = some ⟨s, u⟩ := pairUp_at k T s u (by rw [← hrel.out.1]; exact e1) (by rw [← hrel.out.1, ← hi1]; exact e2)
        have HK := Lib.hid (And.intro hk hi1)
        have d0 : wr.drew.cell? (a0.add i) = some (.string s) := c0
        have d1 : wr.drew.cell? (a0.add i1) = some (.string u) := c1
        have HB3 := Lib.hid (show OwnP wr.drew w2.heap.size (.slice a8 k cc) ((pairUp T).take k) ∧ Below w2.heap.size w2 wr.drew from ⟨hrel.out.2.1, below_drewN hrel.out.2.2.2 1⟩)
        have HC : Hid (Cells (wr.drew.alloc (.cells #[.string s, .string u] 90)) (.slice (some ⟨wr.drew.heap.size, 0, none⟩) 1 1) 2 1 (pv ⟨s, u⟩)) := Lib.hid (Cells.lit wr.drew (pv ⟨s, u⟩) 90 (0, 0) 2 1 rfl)
        have HOW : Hid ((wr.drew.alloc (.cells #[.string s, .string u] 90)).ownsRow w2.heap.size 90 2 (.slice a8 k cc) k (pvs ((pairUp T).take k))) := Lib.hid (by
          have := HB3.out.1
          unfold OwnP at this
          rw [← hrel.out.2.2.1] at this
          exact this.alloc _)
        have HBB := Lib.hid (HB3.out.2.alloc HB3.out.2.size (.cells #[.string s, .string u] 90))
        have F := Lib.hid (show k + 1 ≤ 1000000 by have := hrel.out.1; omega)
        clear hT2 e0 e1 e2 c0 c1 s1 s2 hk hi1 hpl
        go_wp2_with fail
        go_region_law (refine step_append_gen elemPair rfl (.tmp 49) (.tmp 60) rfl w2.heap.size _ k (pvs ((pairUp T).take k)) (by simp [Act.eval]) HOW.out _ 1 (pv ⟨s, u⟩) (by simp [Act.eval]) HC.out (pv_one ⟨s, u⟩) (k + 1) rfl F (by decide) HBB.out.size ?_; intro ao8 c8 w8 hown8 hb8 hg8 ho8)
        all_goals
          have HX := Lib.hid (And.intro hown8 (And.intro hb8 (And.intro hg8 ho8)))
          clear hown8 hb8 hg8 ho8
          go_wp2_with fail
          have hnx := pairNext HK.out.1
          have hlen : ((pairUp T).take (k + 1)).length = k + 1 := by rw [hnx, List.length_append, ← hrel.out.2.2.1]; rfl
          have HN : Hid (i + 2 = 2 * (k + 1) ∧ OwnP w8 w2.heap.size (.slice ao8 (k + 1) c8) ((pairUp T).take (k + 1)) ∧ k + 1 = ((pairUp T).take (k + 1)).length ∧ Grow w2 w8) := Lib.hid ⟨by have := hrel.out.1; omega, by unfold OwnP; rw [hlen, hnx, pvs_snoc]; exact HX.out.1, hlen.symm, HBB.out.trans HX.out.2.1⟩
          have hi2 : i + 2 ≤ tn := by have := HK.out.2; have := HH.out; have := hrel.out.1; omega
          exact ⟨⟨k + 1, i + 2, c8, ao8, hi2, by simp, rfl, HN⟩, by simp only [RowKit.intOf]; omega⟩
      · have i0 : ¬ (i : Int) < (tn : Int) := by omega
        have hkh : k = h := by have := hrel.out.1; have := HH.out; omega
        have htk : (pairUp T).take k = pairUp T := List.take_of_length_le (by omega)
        rw [htk] at hrel
        have hsz : ∀ o ∈ pairUp T, o.key.size ≤ maxLen ∧ o.val.size ≤ maxLen := fun o ho => ⟨HT.out.2.2.2 _ (pairUp_mem ho).1, HT.out.2.2.2 _ (pairUp_mem ho).2⟩
        have hprr := hrel.out.2.1.prr (by unfold maxLen; have := hrel.out.2.2.1; have := hrel.out.1; omega) hsz
        rw [← hrel.out.2.2.1] at hprr
        have R := tright_any _ k (pairUp T) wr hprr
        have HPR := Lib.hid hprr
        have HFR := Lib.hid (show ∀ a, (Value.slice a8 k cc).ownBlock = some a → w.heap.size ≤ a from fun a ha => Nat.le_trans HB2.out.2.size (World.ownsRow.lt hrel.out.2.1 a ha).1)
        have HTE : Hid (T.length % 2 = 0) := Lib.hid (by rw [← HTN.out]; exact hev)
        clear hpl hkh htk hsz hprr hev
        go_wp2_with fail
        refine R.mono ?_
        rintro e w5 ⟨rfl, hw5⟩
        have HG5 : Hid (Grow wr w5) := Lib.hid hw5
        have HP5 := Lib.hid (HPR.out.later HG5.out)
        have HB5 := Lib.hid (HB2.out.2.trans ((Grow.trans hrel.out.2.2.2 HG5.out).mono HB2.out.2.size))
        clear hw5 R
        by_cases hR : Rise (pairUp T)
        · have HRR := Lib.hid hR
          rw [decide_eq_true hR]
          clear hR
          go_wp2_with fail
          go_ret2
          refine ⟨HB5.out, .inl ⟨pairUp T, a8, k, cc, ?_, rfl, HP5.out, HFR.out⟩⟩
          rw [HU.out, if_pos ⟨HTE.out, HRR.out⟩]
        · have HRR := Lib.hid hR
          rw [decide_eq_false hR]
          clear hR
          go_wp2_with fail
          go_ret2
          refine ⟨HB5.out, .inr ⟨?_, rfl⟩⟩
          rw [HU.out, if_neg (fun h => HRR.out h.2)]
  · have z1 : (tn : Int) % 2 = 1 := by omega
    go_wp2_with fail
    go_ret2
    refine ⟨HB2.out.2, .inr ⟨?_, rfl⟩⟩
    rw [HU.out]
    rw [if_neg (fun h => hev (by rw [HTN.out]; exact h.1))]
set_option maxHeartbeats 4000000 in
set_option maxRecDepth 20000 in
theorem tenc_ownS (v : Value) (n : Nat) (L : List Prm) (w : World) (hr : Prr w v n L) (hb : Slim L) :
    Calls Tryz.prog 81 #[v] w (ToldB L w) := by
  have T := tright_any v n L w hr
  obtain ⟨ao, c, rfl⟩ := hr.shape
  have HR := Lib.hid (And.intro hr hb)
  have hn : n ≤ 500000 := by have := bulkP_length L; have := hr.1; have := hb.1; omega
  clear hr hb
  by_cases hR : Rise L
  · rw [decide_eq_true hR] at T
    have T := Lib.hid T
    have HRL := Lib.hid hR
    have HMK : Hid (2 * n ≤ 4294967296) := Lib.hid (by omega)
    clear hR
    go_enter Tryz.func81, Tryz.ntmps81
    go_wp2_with (first | (go_at_call 106; refine T.out.mono ?_; rintro e w1 ⟨rfl, hb1⟩; have HB1 := Lib.hid hb1; clear hb1) | (refine wpList_make_texts rfl _ _ rfl w.heap.size (2 * n) _ rfl rfl (by first | rfl | omega) HMK HB1.out.size ?_; intro w2 hown2 hb2; have HI := Lib.hid (And.intro hown2 (HB1.out.trans hb2)); clear hown2 hb2))
    go_loopw [16, 4] (fun i tv wr => ∃ (i1 p c : Nat) (ao : Option Addr), i = .int .i64 (i1 : Int) ∧ i1 ≤ n ∧ tv = .slice ao p c ∧ Hid (p = 2 * i1 ∧ Ss wr w.heap.size (.slice ao p c) p (flatP (L.take i1)) ∧ Below w.heap.size w wr))
      (fun i _ _ => n - (RowKit.intOf i).toNat)
    case atStart => exact ⟨0, 0, _, _, rfl, Nat.zero_le _, rfl, Lib.hid ⟨rfl, HI.out.1, HI.out.2⟩⟩
    case round =>
      clear HI
      obtain ⟨i1, p, ct, at_, rfl, hi, rfl, hs⟩ := hrel
      by_cases hlt : i1 < n
      · have h3 : (i1 : Int) < (n : Int) := by omega
        obtain ⟨hp2, hown, hb⟩ := hs.out
        obtain ⟨a, x, rfl, hx, c0, c1, _, _⟩ := (HR.out.1.later hb).at hlt
        have BX := heap_alloc_new wr (.cells #[.string x.key, .string x.val] 90)
        have b0 := cells_of6 BX 0 (.string x.key) rfl
        have b1 := cells_of6 BX 1 (.string x.val) rfl
        have HO := Lib.hid ((hown.alloc (.cells #[.string x.key, .string x.val] 90)).alloc (.cells #[.string x.key, .string x.val] 9))
        have HC := Lib.hid (Reads.lit (wr.alloc (.cells #[.string x.key, .string x.val] 90)) (sv [x.key, x.val]) 9 (0, 0) 2 rfl)
        rw [show (wr.alloc (.cells #[.string x.key, .string x.val] 90)).heap.size = wr.heap.size + 1 by simp] at HC
        have HBB := Lib.hid ((hb.alloc hb.size (.cells #[.string x.key, .string x.val] 90)).alloc (by have := hb.size; simp; omega) (.cells #[.string x.key, .string x.val] 9))
        have F1 : Hid (p + 2 ≤ maxLen) := Lib.hid (by unfold maxLen; omega)
        have F2 : Hid ((p + 2) * 16 ≤ 140737488355328) := Lib.hid (by omega)
        have HX := Lib.hid (And.intro hx hp2)
        clear BX hs hp2 hown hb hx
        go_wp2_with (at_builtin; refine wpList_append_texts rfl _ _ rfl w.heap.size _ p _ rfl HO.out _ 2 [x.key, x.val] rfl rfl HC.out (p + 2) rfl F1 F2 HBB.out.size ?_; intro ao5 c5 w5 hown5 hb5; have H5 := Lib.hid (And.intro hown5 hb5); clear hown5 hb5)
        refine ⟨⟨i1 + 1, p + 2, c5, ao5, by simp, by omega, rfl, Lib.hid ⟨by have := HX.out.2; omega, by rw [flatP_next HX.out.1]; exact H5.out.1, HBB.out.trans H5.out.2⟩⟩, by simp only [RowKit.intOf]; omega⟩
      · have h3 : ¬ (i1 : Int) < (n : Int) := by omega
        obtain ⟨hp2, hown, hb⟩ := hs.out
        rw [List.take_of_length_le (by have := HR.out.1.1; omega)] at hown
        have hpm : p ≤ maxLen := by unfold maxLen; omega
        have HTX := hown.texts hpm (fun s hs => by
          obtain ⟨o, ho, h⟩ := flatP_mem hs
          have := HR.out.1.2.2.2 o ho
          rcases h with rfl | rfl
          · exact this.1
          · exact this.2)
        have EN := Lib.hid (encode_any _ p (flatP L) wr HTX (by have := flatP_bulk L; have := HR.out.2.1; omega))
        have hel : (enc (flatP L)).length ≤ 900000 := by
          exact HR.out.2.2
        obtain ⟨el, hel2⟩ : ∃ el, (enc (flatP L)).length = el := ⟨_, rfl⟩
        rw [hel2] at EN hel
        have HB := Lib.hid hb
        have HEL := Lib.hid hel2
        clear hp2 hown hb hs HTX hel2
        go_wp2_with (go_at_call 128; refine EN.out.mono ?_; rintro e w2 ⟨a2, c2, rfl, hown2, hb2⟩; have FR := Lib.hid (frame_any (.slice a2 el c2) el (enc (flatP L)) w2 hown2.reads HEL.out.symm (by omega)); have HB2 := Lib.hid (HB.out.trans (hb2.mono HB.out.size)); clear hown2 hb2)
        go_wp2_with (go_at_call 127; refine FR.out.mono ?_; rintro e w3 ⟨a3, c3, rfl, hown3, hb3⟩; have H3 := Lib.hid (And.intro hown3 hb3); clear hown3 hb3)
        go_ret2
        refine ⟨a3, el + 8, c3, by unfold errT; rw [if_pos HRL.out]; rfl, ?_, HB2.out.trans (H3.out.2.mono HB2.out.size)⟩
        unfold bytesT
        rw [if_pos HRL.out]
        exact H3.out.1.base HB2.out.size
  · rw [decide_eq_false hR] at T
    have T := Lib.hid T
    have HRL := Lib.hid hR
    clear hR
    go_enter Tryz.func81, Tryz.ntmps81
    go_wp2_with (go_at_call 106; refine T.out.mono ?_; rintro e w1 ⟨rfl, hb1⟩; have HB1 := Lib.hid hb1; clear hb1)
    go_ret2
    refine ⟨none, 0, 0, by unfold errT; rw [if_neg HRL.out]; rfl, by unfold bytesT; rw [if_neg HRL.out]; exact ⟨rfl, World.ownsRow_nil _ _ _ _⟩, HB1.out⟩
end Go.Proofs.YthcdkggkoanjpaaGreatDoor
namespace Go.Proofs.YthcdkggkoanjpaaGreatDoor
open Go.RowKit Go.Lib Go.Sort
def listF (b : List UInt8) : List Prm := (unP b).getD []
def errF (b : List UInt8) : Int := if (unP b).isSome then 0 else 2
theorem FromDone.fresh {b : List UInt8} {w w' : World} {e : Ending} (h : FromDone b w e w') : ∃ ao q c, e = .returned (.tuple #[.slice ao q c, .int .i64 (errF b)]) ∧ Prr w' (.slice ao q c) q (listF b) ∧ Below w.heap.size w w' ∧ ∀ a, (Value.slice ao q c).ownBlock = some a → w.heap.size ≤ a := by
  obtain ⟨hb, ⟨L, ao, q, c, hu, rfl, hp, hf⟩ | ⟨hu, rfl⟩⟩ := h
  · exact ⟨ao, q, c, by simp [errF, hu], by simp only [listF, hu, Option.getD_some]; exact hp, hb, hf⟩
  · exact ⟨none, 0, 0, by simp [errF, hu], by simp only [listF, hu, Option.getD_none]; exact Prr.nil _, hb, fun a h => by cases h⟩
end Go.Proofs.YthcdkggkoanjpaaGreatDoor
namespace Go.Proofs.YthcdkggkoanjpaaGreatDoor
open Go.RowKit Go.Lib
theorem bytesT_slim {L : List Prm} (hb : Slim L) : (bytesT L).length ≤ 900008 := by
  unfold bytesT
  split
  · rw [frm_length]
    have := hb.2
    omega
  · exact Nat.zero_le _
def ldL (k : Int) (x : List UInt8) : List Prm := if k = 0 then listF x else []
def ldE (k : Int) (x : List UInt8) : Int := if k = 0 then errF x else if k = 3 then 0 else k
def loadL (M : MD) : List Prm := ldL (loadP M).2 (loadP M).1
def loadE (M : MD) : Int := ldE (loadP M).2 (loadP M).1
def saveT (M : MD) (L : List Prm) : Int × MD := if Rise L then saveP M (bytesT L) else (1, M)
theorem well_saveT {K : Nat} {M : MD} {j : Nat} (h : Well K M j) {L : List Prm} (hx : (bytesT L).length ≤ K) : Well K (saveT M L).2 (j + 5) := by
  unfold saveT
  split
  · exact well_save h hx
  · exact well_more h (by omega)
end Go.Proofs.YthcdkggkoanjpaaGreatDoor
namespace Go.Proofs.YthcdkggkoanjpaaGreatDoor
open Go.RowKit Go.Maps Go.Sort Go.WideMaps
def synced (g : FM) : FM := { g with sy := g.bytes.length }
def AllSynced (w : World) (base b : Nat) (S : DM) (s : DS) (ca : Int) (name : List UInt8) (k : Int) (w' : World) : Prop :=
  k = 0 ∧ ∃ s', Rep w' base b { S with ca := ca, files := mapF name synced S.files } s' ∧ s'.sz = s.sz ∧ Turn (foot b S) w w'
theorem sync_walk (pd pn b fb : Nat) (name : ByteArray) (fs : Value) (ao : Option Addr) (n c : Nat) (sy : Int) (w : World)
    (hd : w.cell? ⟨pd, 0, none⟩ = some (.pointer (some ⟨b, 0, none⟩))) (hn : w.cell? ⟨pn, 0, none⟩ = some (.string name)) (c5 : w.cell? ⟨b, 5, none⟩ = some fs)
    (f0 : w.cell? ⟨fb, 0, none⟩ = some (.slice ao n c)) (f1 : w.cell? ⟨fb, 1, none⟩ = some (.int .i64 sy)) (g1 : w.frozen? ⟨fb, 1, none⟩ = false)
    (hlk : ∀ n, (Instr.lookup 74 fs (.string name) false).run Tryz.prog (w.drewN n) = .ok (.pointer (some ⟨fb, 0, none⟩)) (w.drewN n)) :
    Calls Tryz.prog 111 #[.pointer (some ⟨pd, 0, none⟩), .pointer (some ⟨pn, 0, none⟩)] w fun e w' => e = .returned (.int .i64 0) ∧ ∃ n1, w' = (w.setCell ⟨fb, 1, none⟩ (.int .i64 n)).drewN n1 := by
  go_enter Tryz.func111, Tryz.ntmps111
  go_wp2
  go_quiet (fail)
  go_wp2
  go_ret
  exact ⟨rfl, _, rfl⟩
theorem sync_clo (pd pn base b : Nat) (S : DM) (s : DS) (name : ByteArray) (f : FM) (w : World) (hR : Rep w base b S s)
    (hd : w.cell? ⟨pd, 0, none⟩ = some (theDisk b)) (hn : w.cell? ⟨pn, 0, none⟩ = some (.string name))
    (hf : S.files.find? (named name.data.toList) = some f) (hl : name.size ≤ maxLen) (hbase : base ≤ w.heap.size) :
    Calls Tryz.prog 111 #[.pointer (some ⟨pd, 0, none⟩), .pointer (some ⟨pn, 0, none⟩)] w (Left (AllSynced w base b S s S.ca name.data.toList)) := by
  obtain ⟨hmem, hnm⟩ := find_mem hf
  obtain ⟨ao, c, hfc, hown, hrow, hsy⟩ := (hR.files f hmem).own
  obtain ⟨hbf, hmf, hnd⟩ := hR.apart2 f hmem
  have hsub : ∀ x ∈ f.foot, x ∈ foot b S := fun x hx => by simp only [foot, List.mem_cons, List.mem_append, List.mem_flatMap]; exact .inr (.inr ⟨f, hmem, hx⟩)
  have hblk : f.blk ∈ f.foot := by simp [FM.foot]
  have hbb : b ≠ f.blk := fun e => hbf (e ▸ hblk)
  have hlk : ∀ n, (Instr.lookup 74 s.fs (.string name) false).run Tryz.prog (w.drewN n) = .ok (.pointer (some ⟨f.blk, 0, none⟩)) (w.drewN n) := by
    intro n
    have := (hR.new ((Turn.refl [] w).drewN n)).look name hl
    rw [this]; simp [ptrOf, hf]
  refine (sync_walk pd pn b f.blk name s.fs ao f.bytes.length c f.sy w hd hn hR.disk.c5 hfc.c0 hfc.c1 (hfc.free 1) hlk).mono ?_
  rintro e w' ⟨rfl, n1, rfl⟩
  have t : Turn [f.blk] w (w.setCell ⟨f.blk, 1, none⟩ (.int .i64 f.bytes.length)) := (Turn.refl _ w).set (.inl (by simp)) 1 _
  have hrb : ∀ g, f.row = some g → g ≠ f.blk := by
    rintro g hg rfl
    simp [FM.foot, hg] at hnd
  refine ⟨0, rfl, rfl, s, ?_, rfl, (t.mono (by intro x hx; simp at hx; subst hx; exact hsub _ hblk)).drewN n1⟩
  have := hR.file t f (by rw [hnm]; exact hf) synced (fun _ => rfl) (fun _ => rfl) (by intro x hx; simp at hx; subst hx; exact .inr hblk)
    ⟨ao, c, hfc.set1 _, owns_turn hown t (fun g hg => by simpa using hrb g (hrow.symm.trans hg)), hrow, Nat.le_refl _⟩ (.inl rfl) s.sz (hR.disk.turn t (by simpa using hbb)) hbase
  rw [hnm] at this
  exact this.new ((Turn.refl [] _).drewN n1)
end Go.Proofs.YthcdkggkoanjpaaGreatDoor
namespace Go.Proofs.YthcdkggkoanjpaaGreatDoor
open Go.RowKit Go.Maps Go.Sort Go.WideMaps
theorem without_none {k : List UInt8} {files : List FM} (h : files.find? (named k) = none) : without k files = files := by
  refine List.filter_eq_self.2 fun g hg => ?_
  have := List.find?_eq_none.1 h g hg
  simpa using this
theorem drop_any (base b : Nat) (S : DM) (s : DS) (name : ByteArray) (w : World) (hR : Rep w base b S s) (hl : name.size ≤ maxLen) (hsz : s.sz = total S.files) (hs1 : total S.files < 1000000000) (hbase : base ≤ w.heap.size) :
    Calls Tryz.prog 171 #[theDisk b, .string name] w fun e w' => e = .returned (.tuple #[]) ∧ ∃ s', Rep w' base b { S with files := without name.data.toList S.files } s' ∧ s'.sz = total (without name.data.toList S.files) ∧ Turn (foot b S) w w' := by
  cases hf : S.files.find? (named name.data.toList) with
  | some f => exact drop_some base b S s name f w hR hf hl hsz hs1 hbase
  | none =>
    refine (drop_none base b S s name w hR hf hl).mono ?_
    rintro e w' ⟨rfl, t⟩
    rw [without_none hf]
    exact ⟨rfl, s, hR.new t, hsz, t.mono (by simp)⟩
def renamed (src dst : List UInt8) (f : FM) (files : List FM) : List FM := without src (without dst files) ++ [{ f with name := dst }]
def MovedAt (w : World) (base b : Nat) (S : DM) (ca : Int) (src dst : List UInt8) (f : FM) (k : Int) (w' : World) : Prop :=
  k = 0 ∧ ∃ m s', (S.mp = some m ∨ w.heap.size ≤ m) ∧ Rep w' base b { S with ca := ca, files := renamed src dst f S.files, mp := some m } s' ∧ s'.sz = total (without dst S.files) ∧ Turn (foot b S) w w'
theorem find_keep {k x : List UInt8} {files : List FM} {f : FM} (h : files.find? (named k) = some f) (hne : k ≠ x) : (without x files).find? (named k) = some f := by
  rw [find_without, if_neg hne]; exact h
theorem apart_without {w : World} {base b : Nat} {S : DM} {s : DS} (h : Rep w base b S s) {f : FM} {k : List UInt8} (hf : S.files.find? (named k) = some f) : ∀ x ∈ f.foot, x ∉ foot b { S with files := without k S.files } := by
  obtain ⟨hmem, hnm⟩ := find_mem hf
  obtain ⟨hbf, hmf, hnd⟩ := h.apart2 f hmem
  intro x hx hm
  simp only [foot, List.mem_cons, List.mem_append, List.mem_flatMap, Option.mem_toList] at hm
  rcases hm with rfl | hm | ⟨g, hg, hgx⟩
  · exact hbf hx
  · exact hmf x hm hx
  · obtain ⟨hgm, hgn⟩ := mem_without hg
    have hne : g ≠ f := fun e => hgn (e ▸ hnm)
    have hp : ∀ (l : List FM), l.Pairwise (fun f g => ∀ k ∈ f.foot, k ∉ g.foot) → f ∈ l → g ∈ l → False := by
      intro l hl
      induction l with
      | nil => intro h; cases h
      | cons a t ih =>
        intro h1 h2
        obtain ⟨ha, ht⟩ := List.pairwise_cons.1 hl
        rcases List.mem_cons.1 h1 with rfl | h1'
        · rcases List.mem_cons.1 h2 with rfl | h2'
          · exact hne rfl
          · exact ha g h2' x hx hgx
        · rcases List.mem_cons.1 h2 with rfl | h2'
          · exact ha f h1' x hgx hx
          · exact ih ht h1' h2'
    exact hp _ h.apart3 hmem hgm
theorem step_delete {ops : Array Oper} {o : Oper} {a : Act} {w : World} {K : Act → World → Prop} {Q : Exit → Act → World → Prop} {E : Prop} (hgd : o.guard = none) (m x : Operand)
    (hop : o.op = Op.call { callee := Callee.builtin Builtin.delete, args := #[m, x], argTypes := #[74, 9] })
    (b n : Nat) (D : DataW Unit) (hm : a.eval m = .map (some b)) (hown : w.ownsMap Tryz.prog 9 Rp b n D) (key : Value) (kl : Lit) (hx : a.eval x = key) (hkey : keyOf Tryz.prog 9 key = some kl)
    (hK : ∀ w', w'.ownsMap Tryz.prog 9 Rp b n (D.del kl) → w.mapTurned w' b → K (a.put o.dst (.tuple #[])) w') :
    if Region.wanted o (yielded ops a.tmps) = true then Oper.wp Tryz.prog o a w K Q else E := by
  have hw : Region.wanted o (yielded ops a.tmps) = true := by simp [Region.wanted, hgd]
  rw [if_pos hw]
  obtain ⟨w', hrun, r1, r2⟩ := hown.drop law Tryz.underlying74 hkey o.type
  unfold Oper.wp execOp
  simp only [hop, resolve, invoke, builtin, Sem.run_bind, Sem.run_pure, Result.andThen_ok, List.map_toArray, List.map_cons, List.map_nil, hm, hx, hrun]
  exact hK w' r1 r2
theorem cell_turn {w w' : World} {F : List Nat} (t : Turn F w w') {p : Nat} (hp : p ∉ F) {v : Value} (h : w.cell? ⟨p, 0, none⟩ = some v) : w'.cell? ⟨p, 0, none⟩ = some v :=
  (World.cell?_of_block (t.block p (World.block_lt_of_cell? w _ h) hp)).trans h
theorem rename_mid {w2 w3 : World} {base b : Nat} {S : DM} {s : DS} {src : List UInt8} {f : FM} {m : Nat} (hR : Rep w2 base b S s) (hm : S.mp = some m) (hf : S.files.find? (named src) = some f) (t3 : Turn [m] w2 w3) (hM3 : MapAt w3 m (without src S.files)) (dst : ByteArray) (hl : dst.size ≤ maxLen)
    (hno : S.files.any (named dst.data.toList) = false) (hlen : S.files.length < maxLen) (hbase : base ≤ w2.heap.size) :
    Calls Tryz.prog 108 #[theDisk b, .string dst, .pointer (some ⟨f.blk, 0, none⟩)] w3 fun e w' => e = .returned (.tuple #[]) ∧ ∃ m' s', (S.mp = some m' ∨ w3.heap.size ≤ m') ∧ Rep w' base b { S with files := without src S.files ++ [{ f with name := dst.data.toList }], mp := some m' } s' ∧ s'.sz = s.sz ∧ Turn (b :: S.mp.toList) w3 w' := by
  obtain ⟨hmem, hnm⟩ := find_mem hf
  obtain ⟨hbf, hmf, hnd⟩ := hR.apart2 f hmem
  have hR3 := hR.without src m hm t3 hM3
  have hsub : ∀ x ∈ f.foot, x ∈ foot b S := fun x hx => by simp only [foot, List.mem_cons, List.mem_append, List.mem_flatMap]; exact .inr (.inr ⟨f, hmem, hx⟩)
  have hF3 : FileAt w3 base f := (hR.files f hmem).keep t3 (fun x hx => by simp only [List.mem_singleton]; rintro rfl; exact hmf _ hm hx)
  obtain ⟨ao, c, ao', c', g1, g2, g3, g4, g5, g6, g7, g8⟩ := hR.lists
  refine put_new_at base b { S with files := without src S.files } s dst { f with name := dst.data.toList } w3 hR3 rfl hl ?_ ?_ hF3 hnd (fun k hk => apart_without hR hf k hk) (fun k hk => hR.low k (hsub k hk)) (fun g hg hk => g7 g hg (hsub g hk)) (fun g hg hk => g8 g hg (hsub g hk)) (Nat.le_trans hbase t3.size)
  · exact Nat.lt_of_le_of_lt (List.length_filter_le _ _) hlen
  · show (without src S.files).any (named dst.data.toList) = false
    rw [any_without]
    split
    · rfl
    · exact hno
set_option maxRecDepth 100000 in
theorem rename_clo_at (pd pn pt base b : Nat) (S : DM) (s : DS) (src dst : ByteArray) (f : FM) (w : World) (hR : Rep w base b S s)
    (hd : w.cell? ⟨pd, 0, none⟩ = some (theDisk b)) (hn : w.cell? ⟨pn, 0, none⟩ = some (.string src)) (ht : w.cell? ⟨pt, 0, none⟩ = some (.string dst)) (hpd : pd ∉ foot b S) (hpn : pn ∉ foot b S) (hpt : pt ∉ foot b S)
    (hf : S.files.find? (named src.data.toList) = some f) (hne : dst.toList.isEmpty = false) (hst : (src.toList == dst.toList) = false) (hst2 : src.data.toList ≠ dst.data.toList) (hl : src.size ≤ maxLen) (hl2 : dst.size ≤ maxLen) (hsz : s.sz = total S.files) (hs1 : total S.files < 1000000000) (hbase : base ≤ w.heap.size) (hlen : S.files.length < maxLen) :
    Calls Tryz.prog 172 #[.pointer (some ⟨pd, 0, none⟩), .pointer (some ⟨pn, 0, none⟩), .pointer (some ⟨pt, 0, none⟩)] w (Left (MovedAt w base b S S.ca src.data.toList dst.data.toList f)) := by
  obtain ⟨hmem, hnm⟩ := find_mem hf
  obtain ⟨m, hm⟩ : ∃ m, S.mp = some m := by
    cases e : S.mp with
    | none => rw [hR.mapN e] at hmem; cases hmem
    | some m => exact ⟨m, rfl⟩
  have hlk : ∀ n, (Instr.lookup 74 s.fs (.string src) false).run Tryz.prog (w.drewN n) = .ok (.pointer (some ⟨f.blk, 0, none⟩)) (w.drewN n) := by
    intro n
    have := (hR.new ((Turn.refl [] w).drewN n)).look src hl
    rw [this]; simp [ptrOf, hf]
  have c5 := hR.disk.c5
  have hkey := keyOf_string_mk Tryz.underlying9 hl
  have HM := Lib.hid (And.intro hR (And.intro hm (And.intro hsz (And.intro hs1 (And.intro hbase (And.intro hf (And.intro hlen (And.intro hpd (And.intro hpn hpt)))))))))
  unfold theDisk at hd
  clear hR hm hsz hs1 hbase hf hlen hpd hpn hpt hmem hnm hl
  go_enter Tryz.func172, Tryz.ntmps172
  go_wp2_with fail
  go_quiet (fail)
  go_wp2_with fail
  have hRq := HM.out.1.new ((Turn.refl [] w).drewN nq)
  refine (drop_any base b S s dst (w.drewN nq) hRq hl2 HM.out.2.2.1 HM.out.2.2.2.1 HM.out.2.2.2.2.1).mono ?_
  rintro e w2 ⟨rfl, s2, hR2, hsz2, t2⟩
  have t02 : Turn (foot b S) w w2 := ((Turn.refl _ w).drewN nq).trans t2
  have kd : w2.cell? ⟨pd, 0, none⟩ = some (.pointer (some ⟨b, 0, none⟩)) := cell_turn t02 HM.out.2.2.2.2.2.2.2.1 hd
  have kn : w2.cell? ⟨pn, 0, none⟩ = some (.string src) := cell_turn t02 HM.out.2.2.2.2.2.2.2.2.1 hn
  have kt : w2.cell? ⟨pt, 0, none⟩ = some (.string dst) := cell_turn t02 HM.out.2.2.2.2.2.2.2.2.2 ht
  obtain ⟨D, hown2, h1, h2, h3⟩ := hR2.mapS m HM.out.2.1
  have d5 := hR2.disk.c5
  rw [hR2.fs] at d5
  rw [show ({ S with files := without dst.data.toList S.files } : DM).mp = some m from HM.out.2.1] at d5
  have HR2 := Lib.hid (And.intro hR2 (And.intro hsz2 (And.intro t02 (And.intro h1 (And.intro h2 h3)))))
  clear hRq hR2 hsz2 t2 t02 h1 h2 h3 hd hn ht c5 hlk
  go_wp2_with fail
  go_region_law (refine step_delete rfl (.tmp 24) (.tmp 25) rfl m _ D (by simp [Act.eval]) hown2 (.string src) _ (by simp [Act.eval]) hkey ?_; intro w3 hown3 hturn3)
  all_goals
    have t3 : Turn [m] w2 w3 := by
      have t := Turn.of_grown (F := [m]) hturn3.grown (by intro k e; cases e; simp)
      exact ⟨t.os, t.tape, t.output, t.size, t.block⟩
    obtain ⟨hR2, hsz2, t02, h1, h2, h3⟩ := HR2.out
    have hM3 : MapAt w3 m (without src.data.toList (without dst.data.toList S.files)) := MapAt.del _ hR2.names h1 h2 h3 (hown2.tidy law) hown3
    have hno : (without dst.data.toList S.files).any (named dst.data.toList) = false := by rw [any_without, if_pos rfl]
    have HP := Lib.hid (rename_mid hR2 HM.out.2.1 (find_keep HM.out.2.2.2.2.2.1 hst2) t3 hM3 dst hl2 hno (Nat.lt_of_le_of_lt (List.length_filter_le _ _) HM.out.2.2.2.2.2.2.1) (Nat.le_trans HM.out.2.2.2.2.1 t02.size))
    have hmS : m ∈ foot b S := by simp [foot, HM.out.2.1]
    have HT := Lib.hid (t02.trans (t3.mono (by intro x hx; simp at hx; subst hx; exact hmS)))
    have HZ := Lib.hid hsz2
    have kd3 : w3.cell? ⟨pd, 0, none⟩ = some (.pointer (some ⟨b, 0, none⟩)) := cell_turn t3 (by simp; rintro rfl; exact HM.out.2.2.2.2.2.2.2.1 hmS) kd
    have kt3 : w3.cell? ⟨pt, 0, none⟩ = some (.string dst) := cell_turn t3 (by simp; rintro rfl; exact HM.out.2.2.2.2.2.2.2.2.2 hmS) kt
    unfold theDisk at HP
    clear hown2 hown3 hturn3 hR2 hsz2 t02 h1 h2 h3 hM3 hno hmS t3 HR2 d5 kd kn kt hkey hne hst hst2 hl2
    go_wp2_with fail
    refine HP.out.mono ?_
    rintro e w4 ⟨rfl, m', s', r0, hR4, hs4, t4⟩
    have HE : Hid (MovedAt w base b S S.ca src.data.toList dst.data.toList f 0 w4) := Lib.hid ⟨rfl, m', s', r0.imp id (fun h => Nat.le_trans HT.out.size h), hR4, by rw [hs4]; exact HZ.out, HT.out.trans (t4.mono (by
      intro x hx
      simp only [List.mem_cons, Option.mem_toList] at hx
      simp only [foot, List.mem_cons, List.mem_append, Option.mem_toList]
      exact hx.imp id .inl))⟩
    clear r0 hR4 hs4 t4 HP HZ HT kd3 kt3 HM
    go_wp2_with fail
    go_ret
    exact ⟨0, rfl, HE.out⟩
end Go.Proofs.YthcdkggkoanjpaaGreatDoor
