/- appendNumber, U32. Numbers and types by name. -/
import Derived.Test.YthcdkggkoanjpaaGreatDoorFrp
import Derived.Test.YthcdkggkoanjpaaGreatDoorOpr
import Derived.Test.YthcdkggkoanjpaaGreatDoorScr
import Derived.Test.YthcdkggkoanjpaaGreatDoorPun
import Derived.Test.YthcdkggkoanjpaaGreatDoorMov
import Derived.Laws.BitsLemmas
namespace Go.Proofs.YthcdkggkoanjpaaGreatDoor
set_option maxRecDepth 100000
open Go.RowKit Go.Lib
def DecodedR (l : List UInt8) (w : World) (e : Ending) (w' : World) : Prop :=
  Below w.heap.size w w' ∧ ((∃ L ao c, dec l = some L ∧ e = .returned (.tuple #[.slice ao L.length c, .int .i64 0]) ∧ Texts w' (.slice ao L.length c) L.length L) ∨
    (dec l = none ∧ e = .returned (.tuple #[.slice none 0 0, .int .i64 2])))
set_option maxHeartbeats 4000000 in
theorem ref_decodeL (v : Value) (m : Nat) (l : List UInt8) (w : World) (hr : Reads w v (bv l)) (hm : m = l.length) (hl : Hid (m ≤ maxLen)) :
    Calls Tryz.prog 116 #[v] w (DecodedR l w) := by
  obtain ⟨ao, c, hv'⟩ : ∃ ao c, v = .slice ao m c := by obtain ⟨ao, c, rfl, _⟩ := hr; exact ⟨ao, c, by rw [bv_length, hm]⟩
  subst hv'
  have HR := Lib.hid hr
  have HM := Lib.hid hm
  clear hr hm
  by_cases h4 : 4 ≤ m
  · obtain ⟨n, hn⟩ : ∃ n : Nat, numOf ((l.drop 0).take 4) = n := ⟨_, (Int.toNat_of_nonneg (numOf_bound _).1).symm⟩
    have hnum := num_drop (l := l) (k := 0) (by have := HM.out; omega)
    rw [hn, Int.toNat_natCast, List.drop_zero] at hnum
    have hlist : list? l = texts? n (l.drop 4) := by unfold list?; rw [hnum]
    have HLI := Lib.hid hlist
    have G := ref_get_inL _ m l 0 w HR.out HM.out hl (by omega)
    rw [hn] at G
    have HN32 : Hid (n < 4294967296) := Lib.hid (by have h := num_under (l := (l.drop 0).take 4) (by simp; omega); omega)
    clear hnum hlist hn
    obtain ⟨a, rfl⟩ : ∃ a, ao = some a := by
      obtain ⟨ao', c', e, _, hn0, _⟩ := HR.out
      cases ao with
      | some a => exact ⟨a, rfl⟩
      | none =>
        simp only [Value.slice.injEq] at e
        have := (hn0 e.1.symm).1
        have : l = [] := by simpa [bv] using this
        have hm := HM.out
        subst this; simp at hm; omega
    have hmc : m ≤ c := by
      obtain ⟨_, _, e, h0, _⟩ := HR.out
      simp only [Value.slice.injEq, bv_length] at e h0
      have := HM.out
      omega
    go_enter Tryz.func116, Tryz.ntmps116
    go_wp2_with fail
    refine G.mono ?_
    rintro e w1 ⟨rfl, jj, hw1⟩
    have B1 : Hid (Below w.heap.size w w1) := Lib.hid (by rw [hw1]; exact below_drewN (Below.refl _ _) jj)
    clear hw1 G
    go_wp2_with fail
    go_loopw [6, 7, 8] (fun av lv i wr => ∃ j k : Nat, j ≤ n ∧ i = .int .i64 j ∧ av = .int .i64 k ∧ k ≤ m ∧ 4 * j + 4 ≤ k ∧ Hid (∃ ao' c' L, lv = .slice ao' j c' ∧ Ss wr w.heap.size (.slice ao' j c') j L ∧ Below w.heap.size w wr ∧ (∀ s ∈ L, s.size ≤ m) ∧ list? l = (texts? (n - j) (l.drop k)).map fun x => (L ++ x.1, x.2)))
      (fun _ _ i _ => n - (RowKit.intOf i).toNat)
    case atStart =>
      exact ⟨0, 4, Nat.zero_le _, rfl, rfl, h4, by omega, Lib.hid ⟨none, 0, [], rfl, ⟨rfl, World.ownsRow_nil _ _ _ _⟩, B1.out, (fun s hs => by cases hs), by rw [HLI.out, Nat.sub_zero]; cases texts? n (l.drop 4) <;> rfl⟩⟩
    case round =>
      obtain ⟨j, k, hj, rfl, rfl, hk, hjk, hrel⟩ := hrel
      obtain ⟨ao', c', L, rfl, hown, hbel, hall, hli⟩ := hrel.out
      have HJB : Hid (j ≤ 4294967296 ∧ k ≤ m ∧ 4 * j + 4 ≤ k) := Lib.hid ⟨by have := HN32.out; omega, hk, hjk⟩
      clear hrel B1 HLI
      have HK := Lib.hid (And.intro hown (And.intro hbel (And.intro hall hli)))
      have hrr := Lib.hid (HR.out.later hbel)
      clear hown hbel hall hli
      by_cases h1 : j < n
      · have h3 : (j : Int) < (n : Int) := by omega
        by_cases hk4 : k + 4 ≤ m
        · obtain ⟨q, hq⟩ : ∃ q : Nat, numOf ((l.drop k).take 4) = q := ⟨_, (Int.toNat_of_nonneg (numOf_bound _).1).symm⟩
          have hts := text_split (l := l) (k := k) (by have := HM.out; omega) q hq
          rw [← HM.out] at hts
          have G := ref_get_inL _ m l k wr hrr.out HM.out hl hk4
          rw [hq] at G
          clear hq
          obtain ⟨p4, hp4⟩ : ∃ p4, p4 = k + 4 := ⟨_, rfl⟩
          rw [← hp4] at hts hk4
          obtain ⟨r, hmr⟩ : ∃ r, m = p4 + r := ⟨m - p4, by omega⟩
          have hmr2 : m - p4 = r := by omega
          rw [hmr2] at hts
          have HTS := Lib.hid hts
          clear hts
          have hl' : m ≤ 9223372036854775807 := by have := hl.out; unfold maxLen at this; omega
          have HU : Hid (wrap64 ((m : Int) - (k : Int)) = (r : Int) + 4 ∧ wrap64 (r : Int) = (r : Int) ∧ wrap64 ((k : Int) + 4) = (p4 : Int)) :=
            Lib.hid ⟨by rw [wrap64_id _ (by omega)]; omega, wrap64_id _ (by omega), by rw [wrap64_id _ (by omega)]; omega⟩
          have HMR := Lib.hid hmr
          have HP4 := Lib.hid hp4
          by_cases hle : q ≤ r
          · have h5 : ¬ ((r : Nat) : Int) < (q : Int) := by omega
            have HU4 := Lib.hid (wrap64_add_nat p4 q (by omega))
            have x1 : ((p4 + q : Nat) : Int) ≤ (c : Int) := by omega
            have x2 : p4 ≤ p4 + q := by omega
            have x3 : p4 + q ≤ c := by omega
            clear hmr2 hmr hl' hp4
            obtain ⟨bz, hbz, jz⟩ : ∃ bz, (if c = p4 then some a else some (a.add p4)) = some bz ∧ (bz = a.add p4 ∨ l.length = p4) := by
              by_cases h : c = p4
              · exact ⟨a, if_pos h, .inr (by have := HM.out; have := HMR.out; omega)⟩
              · exact ⟨a.add p4, if_neg h, .inl rfl⟩
            have HJ := Lib.hid jz
            have HLE := Lib.hid hle
            have HMC := Lib.hid hmc
            clear jz hle hmc hk hjk h4 hk4
            go_wp2_with fail
            refine G.mono ?_
            rintro e w2 ⟨rfl, j2, hw2⟩
            have hr2 : Reads w2 (.slice (some a) m c) (bv l) := by rw [hw2]; exact hrr.out
            have hcv := conv_reads ((hr2.drop p4 (by have := HMR.out; omega) bz HJ.out).take q (by have := HMR.out; have := HLE.out; omega))
            have HO2 : Hid (Ss w2 w.heap.size (.slice ao' j c') j L ∧ Below w.heap.size w w2) := Lib.hid (by rw [hw2]; exact ⟨HK.out.1, below_drewN HK.out.2.1 j2⟩)
            have F1 : Hid (j + 1 ≤ maxLen) := Lib.hid (by have := HJB.out; unfold maxLen; omega)
            have F2 : Hid ((j + 1) * 16 ≤ 140737488355328) := Lib.hid (by have := HJB.out; omega)
            clear hw2 hr2 G
            obtain ⟨u1, u2, u3⟩ := HU.out
            have u4 := HU4.out
            go_wp2_with (at_builtin; refine wpList_append_texts rfl (.tmp 40) (.tmp 50) rfl w.heap.size (.slice ao' j c') j L rfl (HO2.out.1.alloc _) (.slice (some ⟨w2.heap.size, 0, none⟩) 1 1) 1 [⟨((l.drop p4).take q).toArray⟩] rfl rfl (Reads.lit w2 (sv [⟨((l.drop p4).take q).toArray⟩]) _ (0, 0) 1 rfl) (j + 1) rfl F1 F2 (Nat.le_trans HO2.out.2.size (by simp)) ?_; intro ao7 c7 w7 hown7 hb7)
            rw [u4]
            clear u1 u2 u3 u4
            have hmr := HMR.out
            have hp4 := HP4.out
            have hle := HLE.out
            have hb3 := HJB.out
            have hj1 : wrap64 ((j : Int) + 1) = ((j + 1 : Nat) : Int) := wrap64_add_nat j 1 (by omega)
            rw [hj1]
            clear hj1
            have hsz : ((l.drop p4).take q).toArray.size ≤ m := by have := HM.out; simp; omega
            refine ⟨⟨j + 1, p4 + q, by omega, rfl, rfl, by omega, by omega, Lib.hid ⟨ao7, c7, _, rfl, hown7, HO2.out.2.trans (((Below.refl _ w2).alloc HO2.out.2.size _).trans hb7), fun s hs => ?_, ?_⟩⟩, ?_⟩
            · rcases List.mem_append.1 hs with h | h
              · exact HK.out.2.2.1 s h
              · simp only [List.mem_singleton] at h
                subst h
                exact hsz
            · rw [HK.out.2.2.2, show n - j = (n - (j + 1)) + 1 by omega, texts?, HTS.out, if_pos hle]
              simp only
              cases texts? (n - (j + 1)) (l.drop (p4 + q)) with
              | none => rfl
              | some x => obtain ⟨M, z⟩ := x; simp
            · simp only [RowKit.intOf]; omega
          · have h5 : ((r : Nat) : Int) < (q : Int) := by omega
            have hd : dec l = none := by
              unfold dec
              rw [HK.out.2.2.2, show n - j = (n - (j + 1)) + 1 by omega, texts?, HTS.out, if_neg hle]
              rfl
            have HD := Lib.hid hd
            clear hmr2 hmr hl' hp4 hd hle hmc hk hjk h4 hk4
            go_wp2_with fail
            refine G.mono ?_
            rintro e w2 ⟨rfl, j2, hw2⟩
            have HO2 : Hid (Below w.heap.size w w2) := Lib.hid (by rw [hw2]; exact below_drewN HK.out.2.1 j2)
            clear hw2 G
            obtain ⟨u1, u2, u3⟩ := HU.out
            go_wp2_with fail
            go_ret2
            exact ⟨HO2.out, .inr ⟨HD.out, rfl⟩⟩
        · have G := ref_get_outL _ m l (k : Int) wr hrr.out HM.out hl (by omega)
          have hd : dec l = none := by
            unfold dec
            rw [HK.out.2.2.2, show n - j = (n - (j + 1)) + 1 by omega, texts?, text_split_no (by have := HM.out; omega)]
            rfl
          have HD := Lib.hid hd
          clear hd hmc hk hjk h4 hk4
          go_wp2_with fail
          refine G.mono ?_
          rintro e w2 ⟨rfl, hw2⟩
          have HO2 : Hid (Below w.heap.size w w2) := Lib.hid (by rw [hw2]; exact HK.out.2.1)
          clear hw2 G
          go_wp2_with fail
          go_ret2
          exact ⟨HO2.out, .inr ⟨HD.out, rfl⟩⟩
      · have h3 : ¬ (j : Int) < (n : Int) := by omega
        obtain rfl : j = n := by omega
        have hli := HK.out.2.2.2
        rw [Nat.sub_self] at hli
        have hli2 : list? l = some (L, l.drop k) := by rw [hli]; simp [texts?]
        clear hli
        by_cases hkm : k = m
        · have hd : dec l = some L := by
            have : l.drop k = [] := List.drop_eq_nil_of_le (by have := HM.out; omega)
            unfold dec
            rw [hli2, this]
          have HD := Lib.hid (And.intro HK.out.2.1 (And.intro hd (HK.out.1.texts (by have := HJB.out; unfold maxLen; omega) (fun s hs => Nat.le_trans (HK.out.2.2.1 s hs) (by have := hl.out; unfold maxLen at this ⊢; omega)))))
          have hL := HK.out.1.1
          subst hkm hL
          clear hli2 hd hmc hk hjk h4
          go_wp2_with fail
          go_ret2
          exact ⟨HD.out.1, .inl ⟨L, ao', c', HD.out.2.1, rfl, HD.out.2.2⟩⟩
        · have hd : dec l = none := by
            have : l.drop k ≠ [] := by
              intro e
              have := congrArg List.length e
              have hm := HM.out
              simp at this
              omega
            unfold dec
            rw [hli2]
            cases hx : l.drop k with
            | nil => exact absurd hx this
            | cons x xs => rfl
          have HD := Lib.hid (And.intro HK.out.2.1 hd)
          have hne : ¬ (k : Int) = (m : Int) := by omega
          clear hli2 hd hmc hk hjk h4 hkm
          go_wp2_with fail
          go_ret2
          exact ⟨HD.out.1, .inr ⟨HD.out.2, rfl⟩⟩
  · have G := ref_get_outL _ m l 0 w HR.out HM.out hl (by omega)
    have hd : dec l = none := by
      have := num_drop_no (l := l) (k := 0) (by have := HM.out; omega)
      rw [List.drop_zero] at this
      unfold dec list?
      rw [this]
    have HD := Lib.hid hd
    clear hd
    go_enter Tryz.func116, Tryz.ntmps116
    go_wp2_with fail
    refine G.mono ?_
    rintro e w2 ⟨rfl, rfl⟩
    clear G
    go_wp2_with fail
    go_ret2
    exact ⟨Below.refl _ _, .inr ⟨HD.out, rfl⟩⟩
end Go.Proofs.YthcdkggkoanjpaaGreatDoor
namespace Go.Proofs.YthcdkggkoanjpaaGreatDoor
open Go.RowKit Go.Lib Go.Sort
theorem pv_one (o : Prm) : ∀ u ∈ pv o, u.oneCell' = true := by
  intro u hu
  simp only [pv, List.mem_cons, List.not_mem_nil, or_false] at hu
  rcases hu with rfl | rfl <;> rfl
def FromDone (b : List UInt8) (w : World) (e : Ending) (w' : World) : Prop :=
  Below w.heap.size w w' ∧ ((∃ L ao q c, unP b = some L ∧ e = .returned (.tuple #[.slice ao q c, .int .i64 0]) ∧ Prr w' (.slice ao q c) q L ∧ ∀ a, (Value.slice ao q c).ownBlock = some a → w.heap.size ≤ a) ∨
    (unP b = none ∧ e = .returned (.tuple #[.slice none 0 0, .int .i64 2])))
theorem OwnP.prr {w : World} {base : Nat} {v : Value} {L : List Prm} (h : OwnP w base v L) (hn : L.length ≤ maxLen) (hs : ∀ o ∈ L, o.key.size ≤ maxLen ∧ o.val.size ≤ maxLen) : Prr w v L.length L := by
  exact ⟨rfl, hn, Cells.own (show w.ownsRow base 90 2 v L.length (pvs L) from h) (by decide), hs⟩
theorem pairNext {T : List ByteArray} {k : Nat} {o : Prm} (h : (pairUp T)[k]? = some o) : (pairUp T).take (k + 1) = (pairUp T).take k ++ [o] := take_next h
theorem pvs_snoc (L : List Prm) (o : Prm) : pvs (L ++ [o]) = pvs L ++ pv o := by simp [pvs]
set_option maxHeartbeats 1000000 in
set_option maxRecDepth 20000 in
theorem ref_from (v : Value) (m : Nat) (b : List UInt8) (w : World) (hr : Reads w v (bv b)) (hm : m = b.length) (hl : m ≤ 1000000) :
    Calls Tryz.prog 73 #[v] w (FromDone b w) := by
  obtain ⟨ao, c, rfl⟩ : ∃ ao c, v = .slice ao m c := by obtain ⟨ao, c, rfl, _⟩ := hr; exact ⟨ao, c, by rw [bv_length, hm]⟩
  have HR := Lib.hid hr
  have HM := Lib.hid hm
  have S := ref_scan _ m b w hr hm (Lib.hid (by omega))
  clear hr hm
  go_enter Tryz.func73, Tryz.ntmps73
  go_wp2_with fail
  refine S.mono ?_
  rintro e w1 ⟨hb1, l, n, al, cl, hs, hnb, rfl, ho⟩
  have HS := Lib.hid hs
  have HB1 := Lib.hid hb1
  by_cases hone : ¬ (l.length = 1 ∧ n = b.length)
  · have HU := Lib.hid (scan_not hs hone)
    have hcase : (¬ (l.length : Int) = 1) ∨ ((l.length : Int) = 1 ∧ ¬ (n : Int) = (m : Int)) := by
      have := HM.out
      omega
    generalize l.length = ll at *
    clear hs hone S ho hb1 hnb
    rcases hcase with x1 | ⟨x1, x2⟩
    · have z1 : ((ll : Int) != 1) = true := by simpa using x1
      go_wp2_with fail
      go_ret2
      exact ⟨HB1.out, .inr ⟨HU.out, rfl⟩⟩
    · have z1 : ((ll : Int) != 1) = false := by simpa using x1
      have z2 : ((n : Int) != (m : Int)) = true := by simpa using x2
      go_wp2_with fail
      go_ret2
      exact ⟨HB1.out, .inr ⟨HU.out, rfl⟩⟩
  have hone := Classical.not_not.1 hone
  obtain ⟨p, rfl⟩ : ∃ p, l = [p] := List.length_eq_one_iff.1 hone.1
  have HO := Lib.hid (scan_one hs hone.2)
  have HU := Lib.hid (unP_of HO.out)
  have hnm : (n : Int) = (m : Int) := by have := HM.out; omega
  rw [hnm]
  have hp9 : p.length ≤ m := by have := one_size HO.out; have := HM.out; omega
  obtain ⟨a, p', ap, cp, rfl, hp, hc, hrd, hpl⟩ := (ho.rows (by rw [List.length_singleton]; unfold maxLen; decide)).at (k := 0) (by simp)
  obtain rfl : p = p' := by simpa using hp
  rw [show a.add 0 = a by simp [Addr.add]] at hc
  have D := ref_decodeL _ p.length p w1 hrd rfl (Lib.hid hpl)
  obtain ⟨pl, hpl2⟩ : ∃ pl, pl = p.length := ⟨_, rfl⟩
  rw [← hpl2] at D hc hp9
  rw [List.length_singleton]
  have HPL := Lib.hid hpl2
  clear S hs ho hnb hnm hp hrd hpl hb1 hpl2 hone
  go_wp2_with fail
  refine D.mono ?_
  rintro e w2 ⟨hb2, ⟨T, at_, ct, hT, rfl, hTx⟩ | ⟨hT, rfl⟩⟩
  rotate_left
  · have HB2 := Lib.hid (And.intro hT (HB1.out.trans (hb2.mono HB1.out.size)))
    clear hT hb2 D hc
    go_wp2_with fail
    go_ret2
    refine ⟨HB2.out.2, .inr ⟨?_, rfl⟩⟩
    rw [HU.out, HB2.out.1]
  have HB2 := Lib.hid (And.intro hT (HB1.out.trans (hb2.mono HB1.out.size)))
  rw [hT] at HU
  have HT := Lib.hid hTx
  obtain ⟨tn, htn⟩ : ∃ tn, tn = T.length := ⟨_, rfl⟩
  have htl : tn ≤ 1000000 := by
    have h1 := dec_length_le hT
    have h2 := HPL.out
    omega
  rw [← htn] at hTx HT ⊢
  have HTN := Lib.hid htn
  clear hT hb2 D hc hTx htn
  by_cases hev : tn % 2 = 0
  · obtain ⟨h, hh⟩ : ∃ h, tn = 2 * h := ⟨tn / 2, by omega⟩
    have z1 : (tn : Int) % 2 = 0 := by omega
    have HH := Lib.hid hh
    clear hh
    go_wp2_with fail
    clear z1
    go_loopw [8, 9] (fun lv iv wr => ∃ (k i c : Nat) (ao : Option Addr), i ≤ tn ∧ iv = .int .i64 (i : Int) ∧ lv = .slice ao k c ∧ Hid (i = 2 * k ∧ OwnP wr w2.heap.size (.slice ao k c) ((pairUp T).take k) ∧ k = ((pairUp T).take k).length ∧ Grow w2 wr))
      (fun _ iv _ => tn + 1 - (RowKit.intOf iv).toNat)
    case atStart => exact ⟨0, 0, 0, none, Nat.zero_le _, rfl, rfl, Lib.hid ⟨rfl, OwnP.nil _ _, rfl, Grow.refl _⟩⟩
    case round =>
      obtain ⟨k, i, cc, a8, hi, rfl, rfl, hrel⟩ := hrel
      have hpl := pairUp_length h T (by rw [← HTN.out]; exact HH.out)
      have HPU := Lib.hid hpl
      by_cases hlt : i < tn
      · have i0 : (i : Int) < (tn : Int) := by omega
        obtain ⟨i1, hi1⟩ : ∃ i1, i1 = i + 1 := ⟨_, rfl⟩
        have hlt1 : i1 < tn := by have := hrel.out.1; omega
        have i2 : (i1 : Int) < (tn : Int) := by omega
        have w0 : IntKind.i64.wrap ((i : Int) + 1) = (i1 : Int) := by rw [IntKind.wrap_i64]; omega
        have hT2 := HT.out.later hrel.out.2.2.2
        obtain ⟨a0, s, rfl, e1, c0, s1⟩ := hT2.at hlt
        obtain ⟨a0', u, e0, e2, c1, s2⟩ := hT2.at hlt1
        obtain rfl : a0 = a0' := by simpa using e0
        have hk : (pairUp T)[k]? = some ⟨s, u⟩ := pairUp_at k T s u (by rw [← hrel.out.1]; exact e1) (by rw [← hrel.out.1, ← hi1]; exact e2)
        have HK := Lib.hid (And.intro hk hi1)
        have d0 : wr.drew.cell? (a0.add i) = some (.string s) := c0
        have d1 : wr.drew.cell? (a0.add i1) = some (.string u) := c1
        have HB3 := Lib.hid (show OwnP wr.drew w2.heap.size (.slice a8 k cc) ((pairUp T).take k) ∧ Below w2.heap.size w2 wr.drew from ⟨hrel.out.2.1, below_drewN hrel.out.2.2.2 1⟩)
        have HC : Hid (Cells (wr.drew.alloc (.cells #[.string s, .string u] 90)) (.slice (some ⟨wr.drew.heap.size, 0, none⟩) 1 1) 2 1 (pv ⟨s, u⟩)) := Lib.hid (Cells.lit wr.drew (pv ⟨s, u⟩) 90 (0, 0) 2 1 rfl)
        have HOW : Hid ((wr.drew.alloc (.cells #[.string s, .string u] 90)).ownsRow w2.heap.size 90 2 (.slice a8 k cc) k (pvs ((pairUp T).take k))) := Lib.hid (by
          have := HB3.out.1
          unfold OwnP at this
          rw [← hrel.out.2.2.1] at this
          exact this.alloc _)
        have HBB := Lib.hid (HB3.out.2.alloc HB3.out.2.size (.cells #[.string s, .string u] 90))
        have F := Lib.hid (show k + 1 ≤ 1000000 by have := hrel.out.1; omega)
        clear hT2 e0 e1 e2 c0 c1 s1 s2 hk hi1 hpl
        go_wp2_with fail
        go_region_law (refine step_append_gen elemPair rfl (.tmp 45) (.tmp 56) rfl w2.heap.size _ k (pvs ((pairUp T).take k)) (by simp [Act.eval]) HOW.out _ 1 (pv ⟨s, u⟩) (by simp [Act.eval]) HC.out (pv_one ⟨s, u⟩) (k + 1) rfl F (by decide) HBB.out.size ?_; intro ao8 c8 w8 hown8 hb8 hg8 ho8)
        all_goals
          have HX := Lib.hid (And.intro hown8 (And.intro hb8 (And.intro hg8 ho8)))
          clear hown8 hb8 hg8 ho8
          go_wp2_with fail
          have hnx := pairNext HK.out.1
          have hlen : ((pairUp T).take (k + 1)).length = k + 1 := by rw [hnx, List.length_append, ← hrel.out.2.2.1]; rfl
          have HN : Hid (i + 2 = 2 * (k + 1) ∧ OwnP w8 w2.heap.size (.slice ao8 (k + 1) c8) ((pairUp T).take (k + 1)) ∧ k + 1 = ((pairUp T).take (k + 1)).length ∧ Grow w2 w8) := Lib.hid ⟨by have := hrel.out.1; omega, by unfold OwnP; rw [hlen, hnx, pvs_snoc]; exact HX.out.1, hlen.symm, HBB.out.trans HX.out.2.1⟩
          have hi2 : i + 2 ≤ tn := by have := HK.out.2; have := HH.out; have := hrel.out.1; omega
          exact ⟨⟨k + 1, i + 2, c8, ao8, hi2, by simp, rfl, HN⟩, by simp only [RowKit.intOf]; omega⟩
      · have i0 : ¬ (i : Int) < (tn : Int) := by omega
        have hkh : k = h := by have := hrel.out.1; have := HH.out; omega
        have htk : (pairUp T).take k = pairUp T := List.take_of_length_le (by omega)
        rw [htk] at hrel
        have hsz : ∀ o ∈ pairUp T, o.key.size ≤ maxLen ∧ o.val.size ≤ maxLen := fun o ho => ⟨HT.out.2.2.2 _ (pairUp_mem ho).1, HT.out.2.2.2 _ (pairUp_mem ho).2⟩
        have hprr := hrel.out.2.1.prr (by unfold maxLen; have := hrel.out.2.2.1; have := hrel.out.1; omega) hsz
        rw [← hrel.out.2.2.1] at hprr
        have R := right_pairs _ k (pairUp T) wr hprr
        have HPR := Lib.hid hprr
        have HFR := Lib.hid (show ∀ a, (Value.slice a8 k cc).ownBlock = some a → w.heap.size ≤ a from fun a ha => Nat.le_trans HB2.out.2.size (World.ownsRow.lt hrel.out.2.1 a ha).1)
        have HTE : Hid (T.length % 2 = 0) := Lib.hid (by rw [← HTN.out]; exact hev)
        clear hpl hkh htk hsz hprr hev
        go_wp2_with fail
        refine R.mono ?_
        rintro e w5 ⟨q, rfl, hw5⟩
        have HG5 := Lib.hid (show Grow wr w5 by rw [hw5]; exact below_drewN (Below.refl _ wr) q)
        have HP5 := Lib.hid (HPR.out.later HG5.out)
        have HB5 := Lib.hid (HB2.out.2.trans ((Grow.trans hrel.out.2.2.2 HG5.out).mono HB2.out.2.size))
        clear hw5 R
        by_cases hR : Rise (pairUp T)
        · have HRR := Lib.hid hR
          rw [decide_eq_true hR]
          clear hR
          go_wp2_with fail
          go_ret2
          refine ⟨HB5.out, .inl ⟨pairUp T, a8, k, cc, ?_, rfl, HP5.out, HFR.out⟩⟩
          rw [HU.out, if_pos ⟨HTE.out, HRR.out⟩]
        · have HRR := Lib.hid hR
          rw [decide_eq_false hR]
          clear hR
          go_wp2_with fail
          go_ret2
          refine ⟨HB5.out, .inr ⟨?_, rfl⟩⟩
          rw [HU.out, if_neg (fun h => HRR.out h.2)]
  · have z1 : (tn : Int) % 2 = 1 := by omega
    go_wp2_with fail
    go_ret2
    refine ⟨HB2.out.2, .inr ⟨?_, rfl⟩⟩
    rw [HU.out]
    rw [if_neg (fun h => hev (by rw [HTN.out]; exact h.1))]
end Go.Proofs.YthcdkggkoanjpaaGreatDoor
namespace Go.Proofs.YthcdkggkoanjpaaGreatDoor
open Go.RowKit Go.Lib
theorem append_number (base : Nat) (v : Value) (m : Nat) (l : List UInt8) (n : Int) (w : World) (hown : Bs w base v m l) (hl : m < 100000000) (hbase : base ≤ w.heap.size) :
    Calls Tryz.prog 168 #[v, .int .i64 n] w fun e w' => ∃ ao c, e = .returned (.slice ao (m + 4) c) ∧ Bs w' base (.slice ao (m + 4) c) (m + 4) (l ++ be4 n) ∧ Below base w w' := by
  obtain ⟨ao, c, rfl⟩ := hown.shape
  have H1 : Hid (m + 4 ≤ maxLen) := Lib.hid (by unfold maxLen; omega)
  have H2 : Hid ((m + 4) * 1 ≤ 140737488355328) := Lib.hid (by omega)
  have HB := Lib.hid (bv_be4 n)
  clear hl
  go_enter Tryz.func168, Tryz.ntmps168
  go_wp2_with (at_builtin; refine wpList_append_bytes rfl (.tmp 5) (.tmp 17) rfl base (.slice ao m c) m l rfl (hown.alloc _) (.slice (some ⟨w.heap.size, 0, none⟩) 4 4) 4 (be4 n) rfl rfl (by rw [HB.out]; exact Reads.lit w _ _ (0, 0) 4 rfl) (m + 4) rfl H1 H2 (by simp; omega) ?_; intro ao' c' w1 hown1 hb1)
  go_ret
  exact ⟨ao', c', rfl, hown1, ((Below.refl base w).alloc hbase _).trans hb1⟩
theorem u32_any (n : Int) (w : World) :
    Calls Tryz.prog 167 #[.int .i64 n] w fun e w' => ∃ ao c, e = .returned (.slice ao 4 c) ∧ Bs w' w.heap.size (.slice ao 4 c) 4 (be4 n) ∧ Below w.heap.size w w' := by
  go_enter Tryz.func167, Tryz.ntmps167
  have H4 : Hid (4 ≤ 140737488355328) := Lib.hid (by decide)
  go_wp2_with (first | (at_make; refine wpList_make_bytes rfl _ _ rfl w.heap.size 4 4 rfl rfl rfl H4 (Nat.le_refl _) ?_; intro w1 hown1 hb1 hs1) | (go_at_call 168; refine (append_number w.heap.size _ 0 [] n _ hown1 (by decide) hb1.size).mono ?_; rintro e w2 ⟨ao, c, rfl, hown2, hb2⟩))
  go_ret
  exact ⟨ao, c, rfl, hown2, hb1.trans hb2⟩
theorem or8 (n y : Int) (h0 : 0 ≤ n) (h1 : n < 1099511627776) (y0 : 0 ≤ y) (y1 : y < 256) : bits .or .i64 (wrap64 (n * 256)) y = n * 256 + y := by
  rw [wrap64_id _ (by omega)]
  have hp : (2 : Int) ^ 62 = 4611686018427387904 := by decide
  exact bits_join .i64 62 (by decide) (fun m _ _ => by rw [IntKind.wrap_i64]; omega) 8 (n * 256) y (by omega) (by simp) (by omega) y0 (by simpa using y1) (by omega)
theorem get_any (v : Value) (m : Nat) (l : List UInt8) (k : Int) (w : World) (hr : Reads w v (bv l)) (hm : m = l.length) (hl : Hid (m ≤ maxLen)) :
    Calls Tryz.prog 154 #[v, .int .i64 k] w fun e w' => w' = w ∧ ((0 ≤ k ∧ k + 4 ≤ m ∧ e = .returned (.tuple #[.int .i64 (numOf ((l.drop k.toNat).take 4)), .bool true])) ∨ (¬ (0 ≤ k ∧ k + 4 ≤ m) ∧ e = .returned (.tuple #[.int .i64 0, .bool false]))) := by
  subst hm
  have hL := hl.out
  obtain ⟨ao, cap, rfl, hcap, hn, hc⟩ := hr
  rw [bv_length] at hcap ⊢
  have n3 : wrap64 ((l.length : Int) - 4) = (l.length : Int) - 4 := wrap64_id _ (by unfold maxLen at hL; omega)
  by_cases hin : 0 ≤ k ∧ k + 4 ≤ (l.length : Int)
  · obtain ⟨k, rfl⟩ := Int.eq_ofNat_of_zero_le hin.1
    obtain ⟨a, rfl⟩ : ∃ a, ao = some a := by
      cases ao with
      | some a => exact ⟨a, rfl⟩
      | none => have := (hn rfl).1; have : l = [] := by simpa [bv] using this
                subst this; simp at hin; omega
    have hkl : k + 4 ≤ l.length := by omega
    have hcell : ∀ j (x : UInt8), l[j]? = some x → w.cell? (a.add j) = some (.int .u8 (x.toNat : Int)) := fun j x hx => hc a rfl j _ (by simp [bv, hx])
    clear hc hn
    have n1 : ¬ ((k : Int) < 0) := by omega
    have n2 : ¬ ((l.length : Int) - 4 < (k : Int)) := by omega
    have n4 : wrap64 ((k : Int) + 4) = ((k + 4 : Nat) : Int) := by rw [wrap64_id _ (by unfold maxLen at hL; omega)]; omega
    have n5 : ((k + 4 : Nat) : Int) ≤ (cap : Int) := by omega
    have n6 : k ≤ k + 4 := by omega
    have n7 : k + 4 ≤ cap := by omega
    go_enter Tryz.func154, Tryz.ntmps154
    go_wp2_with fail
    clear n1 n2 n3 n4 n5 n6 n7 hcap hL hl hin
    go_loopw [6, 24] (fun nv i wr => ∃ j : Nat, j ≤ 4 ∧ i = .int .i64 j ∧ nv = .int .i64 (numOf ((l.drop k).take j)) ∧ w = wr)
      (fun _ i _ => 4 - (intOf i).toNat)
    case atStart => exact ⟨0, by omega, rfl, rfl, rfl⟩
    case round =>
      obtain ⟨j, hj, rfl, rfl, rfl⟩ := hrel
      by_cases hlt : j < 4
      · have hlt3 : (j : Int) < 4 := by omega
        obtain ⟨x, hx⟩ : ∃ x, l[k + j]? = some x := ⟨l[k + j], List.getElem?_eq_getElem (by omega)⟩
        have hc1 := hcell _ _ hx
        have hx256 : x.toNat < 256 := x.toNat_lt
        have hc2 : w.cell? ((a.add k).add j) = some (.int .u8 (x.toNat : Int)) := by rw [Addr.add_add]; exact hc1
        have HX := Lib.hid hx
        clear hx hcell
        go_wp2_with fail
        have hx := HX.out
        have hb := numOf_bound ((l.drop k).take j)
        have hlen : ((l.drop k).take j).length = j := by simp; omega
        have hsn : (l.drop k).take (j + 1) = (l.drop k).take j ++ [x] := by rw [List.take_add_one]; simp [hx]
        have hpow : (256 : Int) ^ j ≤ 16777216 := by
          have : j = 0 ∨ j = 1 ∨ j = 2 ∨ j = 3 := by omega
          rcases this with rfl | rfl | rfl | rfl <;> decide
        rw [hlen] at hb
        refine ⟨⟨j + 1, by omega, by simp, ?_, trivial⟩, by simp [intOf]; omega⟩
        rw [or8 _ _ hb.1 (by omega) (by omega) (by omega), hsn, numOf_snoc]
      · obtain rfl : j = 4 := by omega
        go_wp2_with fail
        go_ret2
        exact ⟨rfl, .inl ⟨by omega, by omega, rfl⟩⟩
  · have HIN := Lib.hid hin
    by_cases n1 : k < 0
    · clear hin n3
      go_enter Tryz.func154, Tryz.ntmps154
      go_wp2_with fail
      go_ret2
      first | exact ⟨rfl, .inr ⟨HIN.out, rfl⟩⟩ | exact ⟨rfl, .inr rfl⟩
    · have n2 : (l.length : Int) - 4 < k := by omega
      clear hin
      go_enter Tryz.func154, Tryz.ntmps154
      go_wp2_with fail
      go_ret2
      exact ⟨rfl, .inr ⟨by omega, rfl⟩⟩
theorem get_in (v : Value) (m : Nat) (l : List UInt8) (k : Nat) (w : World) (hr : Reads w v (bv l)) (hm : m = l.length) (hl : Hid (m ≤ maxLen)) (hk : k + 4 ≤ m) :
    Calls Tryz.prog 154 #[v, .int .i64 k] w fun e w' => e = .returned (.tuple #[.int .i64 (numOf ((l.drop k).take 4)), .bool true]) ∧ w' = w := by
  refine (get_any v m l k w hr hm hl).mono ?_
  rintro e w' ⟨rfl, h⟩
  rcases h with ⟨_, _, rfl⟩ | ⟨h, _⟩
  · exact ⟨rfl, rfl⟩
  · exact absurd ⟨by omega, by omega⟩ h
theorem get_out (v : Value) (m : Nat) (l : List UInt8) (k : Int) (w : World) (hr : Reads w v (bv l)) (hm : m = l.length) (hl : Hid (m ≤ maxLen)) (hk : ¬ (0 ≤ k ∧ k + 4 ≤ m)) :
    Calls Tryz.prog 154 #[v, .int .i64 k] w fun e w' => e = .returned (.tuple #[.int .i64 0, .bool false]) ∧ w' = w := by
  refine (get_any v m l k w hr hm hl).mono ?_
  rintro e w' ⟨rfl, h⟩
  rcases h with ⟨h0, h1, _⟩ | ⟨_, rfl⟩
  · exact absurd ⟨h0, h1⟩ hk
  · exact ⟨rfl, rfl⟩
end Go.Proofs.YthcdkggkoanjpaaGreatDoor
