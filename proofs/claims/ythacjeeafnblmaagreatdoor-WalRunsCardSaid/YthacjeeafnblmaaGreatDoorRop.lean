/- The reference's Ops. Numbers and types by name. -/
import Derived.Test.YthacjeeafnblmaaGreatDoorOws
import Derived.Test.YthacjeeafnblmaaGreatDoorTxt
import Derived.Test.YthacjeeafnblmaaGreatDoorDig
import Derived.Test.YthacjeeafnblmaaGreatDoorBeg
import Derived.StillTailTactics
/- Lists of lists of bytes: append of a whole one; records of a list. Numbers and types by name. -/
namespace Go.Proofs.YthacjeeafnblmaaGreatDoor
open Go.RowKit Go.Lib

/-- The cells of a list of lists of bytes. -/
def Vals (w : World) (vs : List Value) (ps : List (List UInt8)) : Prop :=
  vs.length = ps.length ∧ ∀ (j : Nat) (p : List UInt8), ps[j]? = some p → ∃ ao c, vs[j]? = some (Value.slice ao p.length c) ∧ Reads w (.slice ao p.length c) (bv p) ∧ p.length ≤ maxLen

theorem Vals.later {w w' : World} {vs : List Value} {ps : List (List UInt8)} (h : Vals w vs ps) (hg : Grow w w') : Vals w' vs ps :=
  ⟨h.1, fun j p hj => by obtain ⟨ao, c, e1, e2, e3⟩ := h.2 j p hj; exact ⟨ao, c, e1, e2.later hg, e3⟩⟩
theorem Vals.one {w : World} {vs : List Value} {ps : List (List UInt8)} (h : Vals w vs ps) : ∀ u ∈ vs, u.oneCell' = true := by
  intro u hu
  obtain ⟨j, hj, rfl⟩ := List.getElem_of_mem hu
  obtain ⟨ao, c, e, _⟩ := h.2 j (ps[j]'(by have := h.1; omega)) (List.getElem?_eq_getElem _)
  rw [List.getElem?_eq_getElem hj] at e
  rw [Option.some.inj e]
  rfl
theorem Vals.append {w : World} {vs us : List Value} {ps qs : List (List UInt8)} (h : Vals w vs ps) (k : Vals w us qs) : Vals w (vs ++ us) (ps ++ qs) := by
  refine ⟨by rw [List.length_append, List.length_append, h.1, k.1], fun j p hj => ?_⟩
  by_cases hl : j < ps.length
  · rw [List.getElem?_append_left hl] at hj
    rw [List.getElem?_append_left (by rw [h.1]; exact hl)]
    exact h.2 j p hj
  · rw [List.getElem?_append_right (by omega)] at hj
    rw [List.getElem?_append_right (by rw [h.1]; omega), h.1]
    exact k.2 _ p hj
theorem Rws.vals {w : World} {v : Value} {n : Nat} {ps : List (List UInt8)} (h : Rws w v n ps) : ∃ vs, Reads w v vs ∧ vs.length = n ∧ Vals w vs ps := by
  obtain ⟨h1, _, vs, hr, hl, hp⟩ := h
  exact ⟨vs, hr, hl, by rw [hl, h1], hp⟩
theorem Rws.of_vals {w : World} {v : Value} {n : Nat} {vs : List Value} {ps : List (List UInt8)} (h : Reads w v vs) (hl : vs.length = n) (k : Vals w vs ps) (hm : n ≤ maxLen) : Rws w v n ps :=
  ⟨by rw [← hl, k.1], hm, vs, h, hl, k.2⟩

/-- append of whatever list of one cell each that can be read, to an own one. -/
theorem run_append_vals (ty : TypeId) (base : Nat) (v : Value) (n : Nat) (xs : List Value) (w : World) (hown : w.ownsRow base 24 1 v n xs) (vb : Value) (news : List Value) (hr : Reads w vb news) (h1 : ∀ u ∈ news, u.oneCell' = true)
    (h63 : n + news.length ≤ maxLen) (hbytes : (n + news.length) * 24 ≤ 140737488355328) (hbase : base ≤ w.heap.size) :
    ∃ ao c w', (Builtin.append_ #[58, 58] ty #[v, vb]).run Tryz.prog w = .ok (.slice ao (n + news.length) c) w' ∧ w'.ownsRow base 24 1 (.slice ao (n + news.length) c) (n + news.length) (xs ++ news) ∧ w.grownBy w' v.ownBlock := by
  obtain ⟨i0, hi, hz0, hz1, hz2⟩ := info_parts info_row
  obtain ⟨ao, cap, rfl, _, hn, hc⟩ := hr
  cases ao with
  | none =>
    obtain ⟨rfl, rfl⟩ := hn rfl
    obtain ⟨ao, c, rfl⟩ := owns_shape hown
    have := run_append_owned_none (P := Tryz.prog) w base 58 ty 24 i0 1 Tryz.underlying58 hi (.slice ao n c) n xs hown
    exact ⟨ao, c, w, this, by simpa using hown, grown_refl _ _⟩
  | some a =>
    obtain ⟨v', w', hr, h2, h3, _, h5⟩ := run_append_own_at (P := Tryz.prog) w base 58 ty 24 i0 (.slice none 0 0) 1 24 Tryz.underlying58 hi hz0 hz1 hz2 rfl (by decide) v n xs hown a news.length cap news (by simp) (hc a rfl) h1 h63 hbytes hbase
    obtain ⟨ao, c, rfl⟩ := owns_shape h2
    exact ⟨ao, c, w', hr, h2, h3⟩

theorem wpList_append_vals {ops : Array Oper} {rest : List Oper} {o : Oper} {a : Act} {w : World} {Q : Exit → Act → World → Prop} (hgd : o.guard = none) (s x : Operand)
    (ho : o.op = .call { callee := .builtin .append, args := #[s, x], argTypes := #[58, 58] })
    (base : Nat) (v : Value) (n : Nat) (xs : List Value) (hs : a.eval s = v) (hown : w.ownsRow base 24 1 v n xs) (vb : Value) (news : List Value) (m : Nat) (hx : a.eval x = vb) (hr : Reads w vb news) (hm : m = news.length) (h1 : ∀ u ∈ news, u.oneCell' = true)
    (p : Nat) (hp : p = n + m) (h63 : Hid (p ≤ 1000000)) (hbase : base ≤ w.heap.size)
    (h : ∀ ao c w', w'.ownsRow base 24 1 (.slice ao p c) p (xs ++ news) → Below base w w' → wpList Tryz.prog ops Q rest (a.put o.dst (.slice ao p c)) w') : wpList Tryz.prog ops Q (o :: rest) a w := by
  subst hm hp
  have hb := h63.out
  refine wpList_plain hgd fun K hK => ?_
  obtain ⟨ao, c, w', hr', h2, h3⟩ := run_append_vals o.type base v n xs w hown vb news hr h1 (by unfold maxLen; omega) (by omega) hbase
  unfold Oper.wp execOp
  simp only [ho, resolve, invoke, builtin, Sem.run_bind, Sem.run_pure, Result.andThen_ok, List.map_toArray, List.map_cons, List.map_nil, hs, hx, hr']
  exact hK _ _ (h ao c w' h2 (below_grown_own hown h3 hbase))

theorem vals_empty (w : World) (base z : Nat) (hz : z = w.heap.size) (hb : base ≤ w.heap.size) : (w.alloc (.cells #[] 24)).ownsRow base 24 1 (.slice (some ⟨z, 0, none⟩) 0 0) 0 [] := by
  subst hz
  exact ⟨rfl, .inr ⟨w.heap.size, 0, #[], rfl, hb, heap_alloc_new w _, Nat.le_refl _, Nat.zero_le _, rfl, rfl⟩⟩

theorem frms_bulk (l : List (List UInt8)) : (frms l).length ≤ 8 * bulkR l := by
  induction l with
  | nil => simp [frms, bulkR]
  | cons p l ih =>
    have e : frms (p :: l) = frm p ++ frms l := by simp [frms]
    rw [e, List.length_append, frm_length, bulkR_cons]
    omega
theorem frms_snoc (l : List (List UInt8)) (p : List UInt8) : frms (l ++ [p]) = frms l ++ frm p := by simp [frms]
theorem bulk_take {l : List (List UInt8)} (k : Nat) : bulkR (l.take k) ≤ bulkR l := by
  have := congrArg bulkR (List.take_append_drop k l)
  rw [bulkR_append] at this
  omega

end Go.Proofs.YthacjeeafnblmaaGreatDoor

/- The reference's Encode. Numbers and types by name. -/
namespace Go.Proofs.YthacjeeafnblmaaGreatDoor
open Go.RowKit Go.Lib

theorem ref_encode (v : Value) (n : Nat) (L : List ByteArray) (w : World) (hr : Texts w v n L) (hb : bulk L ≤ 4000000) :
    Calls Tryz.prog 52 #[v] w fun e w' => ∃ ao c, e = .returned (.slice ao (enc L).length c) ∧ Bs w' w.heap.size (.slice ao (enc L).length c) (enc L).length (enc L) ∧ Below w.heap.size w w' := by
  obtain ⟨ao, c, rfl⟩ := hr.shape
  have HR := Lib.hid hr
  have hn := hr.1
  have hlen := encs_length L
  have hnb := bulk_length L
  have HL : Hid ((encs L).length ≤ 20000000 ∧ n = L.length ∧ (enc L).length = 4 + (encs L).length ∧ n ≤ 4000000) := Lib.hid ⟨by omega, hn, by simp [enc, be4_length], by omega⟩
  have hn1 : n ≤ 4000000 := HL.out.2.2.2
  clear hr hlen hnb hb hn
  go_enter Tryz.func52, Tryz.ntmps52
  go_wp2_with fail
  refine (ref_u32 _ _).mono ?_
  rintro e w1 ⟨ao1, c1, rfl, hown1, hb1⟩
  have HB := Lib.hid (And.intro hown1 hb1)
  clear hown1 hb1
  go_wp2_with fail
  go_loopw [3, 4] (fun v i wr => ∃ j : Nat, j ≤ n ∧ i = .int .i64 j ∧ Hid (∃ ao m c, v = .slice ao m c ∧ Bs wr w.heap.size (.slice ao m c) m (be4 n ++ encs (L.take j)) ∧ Below w.heap.size w wr))
    (fun _ i _ => n - (intOf i).toNat)
  case atStart => exact ⟨0, Nat.zero_le _, rfl, Lib.hid ⟨_, _, _, rfl, by simpa [encs] using HB.out.1, HB.out.2⟩⟩
  case round =>
    obtain ⟨j, hj, rfl, hrel⟩ := hrel
    obtain ⟨ao2, m, c2, rfl, hown, hbel⟩ := hrel.out
    clear HB hrel
    have hm : m = 4 + (encs (L.take j)).length := by rw [hown.1]; simp [be4_length]
    have hle := encs_take_le L j
    by_cases h1 : j < n
    · have h3 : (j : Int) < (n : Int) := by omega
      obtain ⟨a, s, rfl, hs, hc0, hsz⟩ := HR.out.at h1
      have HCELL : Hid (∀ w', Below w.heap.size w w' → w'.cell? (a.add j) = some (.string s)) := Lib.hid fun w' hg => by
        rw [World.cell?_of_block (hg.block _ (World.block_lt_of_cell? w _ hc0))]
        exact hc0
      have hc := HCELL.out wr hbel
      clear hc0
      have hT := encs_take hs
      have hle3 := encs_take_le L (j + 1)
      have hsz2 : (encs (L.take (j + 1))).length = (encs (L.take j)).length + 4 + s.size := by rw [hT]; simp [be4_length]; omega
      have hl5 := HL.out.1
      have HT := Lib.hid hT
      have F1 : Hid (m + 4 ≤ maxLen) := Lib.hid (by unfold maxLen; omega)
      have F2 : Hid ((m + 4) * 1 ≤ 140737488355328) := Lib.hid (by omega)
      have HM : Hid (m + 4 + s.size ≤ maxLen) := Lib.hid (by unfold maxLen; omega)
      have HM2 : Hid (m + 4 + s.size ≤ 140737488355328) := Lib.hid (by omega)
      have HO := Lib.hid (And.intro hown hbel)
      clear hs hT hsz hown hbel hle hle3 hsz2 hm hl5
      go_wp2_with (first | (go_at_call 79; refine (ref_u32 _ _).mono ?_; rintro e w2 ⟨ao3, c3, rfl, hown3, hb3⟩) | (at_builtin; refine wpList_append_bytes rfl (.tmp 14) (.tmp 20) rfl w.heap.size (.slice ao2 m c2) m _ rfl (HO.out.1.below hb3 (Nat.le_refl _)) (.slice ao3 4 c3) 4 _ rfl rfl hown3.reads (m + 4) rfl F1 F2 (Nat.le_trans HO.out.2.size hb3.size) ?_; intro ao4 c4 w4 hown4 hb4; have hc4 := HCELL.out w4 ((HO.out.2.trans (hb3.mono HO.out.2.size)).trans hb4)) | (at_builtin; refine wpList_append_text rfl (.tmp 22) (.tmp 26) rfl w.heap.size (.slice ao4 (m + 4) c4) (m + 4) _ rfl hown4 s rfl (m + 4 + s.size) rfl HM HM2 ((HO.out.2.trans (hb3.mono HO.out.2.size)).trans hb4).size ?_; intro ao5 c5 w5 hown5 hb5))
      refine ⟨⟨j + 1, by omega, by simp, Lib.hid ⟨ao5, _, c5, rfl, ?_, ((HO.out.2.trans (hb3.mono HO.out.2.size)).trans hb4).trans hb5⟩⟩, by simp [intOf]; omega⟩
      rw [HT.out]
      simpa [List.append_assoc] using hown5
    · have h3 : ¬ (j : Int) < (n : Int) := by omega
      obtain rfl : j = n := by omega
      have hkL : L.take j = L := List.take_of_length_le (by have := HL.out.2.1; omega)
      rw [hkL] at hown hm hle
      go_wp2_with fail
      go_ret
      have hE := HL.out.2.2.1
      have hjl : j = L.length := HL.out.2.1
      rw [← hE] at hm
      subst hm
      refine ⟨ao2, c2, ?_, ?_, hbel⟩
      · simp [hE]
      · show Bs wr _ _ _ (be4 L.length ++ encs L)
        rw [← hjl]
        exact hown

end Go.Proofs.YthacjeeafnblmaaGreatDoor

namespace Go.Proofs.YthacjeeafnblmaaGreatDoor
set_option maxRecDepth 100000
open Go.RowKit Go.Lib

/-- The payload of an op, of an end. -/
def pay (o : Opm) : List UInt8 := if o.del then 100 :: enc [o.key] else 112 :: enc [o.key, o.val]
def fin (n : Nat) : List UInt8 := 99 :: enc [txt (digs n)]
/-- A batch's payloads. -/
def recs (L : List Opm) : List (List UInt8) := L.map pay ++ [fin L.length]

theorem enc1_length (s : ByteArray) : (enc [s]).length = 8 + s.size := by
  have := enc_length [s]; simp only [bulk, List.map_cons, List.map_nil, List.sum_cons, List.sum_nil, List.length_cons, List.length_nil] at this; omega
theorem enc2_length (s t : ByteArray) : (enc [s, t]).length = 12 + s.size + t.size := by
  have := enc_length [s, t]; simp only [bulk, List.map_cons, List.map_nil, List.sum_cons, List.sum_nil, List.length_cons, List.length_nil] at this; omega
theorem pay_length (o : Opm) : (pay o).length ≤ 13 + o.key.size + o.val.size := by
  unfold pay
  split
  · rw [List.length_cons, enc1_length]; omega
  · rw [List.length_cons, enc2_length]; omega
theorem fin_length {n : Nat} (h : n < 1000000000) : (fin n).length ≤ 18 := by
  unfold fin
  rw [List.length_cons, enc1_length]
  have := digs_length 8 n (by omega)
  have e : (txt (digs n)).size = (digs n).length := by simp [txt, ByteArray.size]
  omega

theorem pays_bulk (L : List Opm) : (frms (L.map pay)).length ≤ 21 * bulkO L := by
  induction L with
  | nil => simp [frms, bulkO]
  | cons o L ih =>
    have e : frms ((o :: L).map pay) = frm (pay o) ++ frms (L.map pay) := by simp [frms]
    have := pay_length o
    rw [e, List.length_append, frm_length, bulkO_cons]
    omega
theorem pays_take {L : List Opm} {k : Nat} {o : Opm} (h : L[k]? = some o) : frms ((L.take (k + 1)).map pay) = frms ((L.take k).map pay) ++ frm (pay o) := by
  rw [take_next h, List.map_append, List.map_cons, List.map_nil, frms_snoc]
theorem bulkO_take (L : List Opm) (k : Nat) : bulkO (L.take k) ≤ bulkO L := by
  have := congrArg bulkO (List.take_append_drop k L)
  rw [bulkO_append] at this
  omega

theorem grow_cell {w w' : World} (hg : Grow w w') {p : Addr} {v : Value} (h : w.cell? p = some v) : w'.cell? p = some v := (World.cell?_of_block (hg.block _ (World.block_lt_of_cell? w _ h))).trans h

/-- What Ops tells of right ops of a bulk that may be too long for one record. -/
def OpsTold (L : List Opm) (w : World) (e : Ending) (w' : World) : Prop :=
  ∃ ao m c z, e = .returned (.tuple #[.slice ao m c, .int .i64 z]) ∧ (z = 0 → Bs w' w.heap.size (.slice ao m c) m (frms (recs L))) ∧ ((∀ p ∈ recs L, p.length ≤ 1048576) → z = 0) ∧ Below w.heap.size w w'

set_option maxHeartbeats 2000000 in
theorem ref_ops_upto (v : Value) (n : Nat) (L : List Opm) (w : World) (hr : Opr w v n L) (hok : okOps L = true) (hb : bulkO L ≤ 1200000) :
    Calls Tryz.prog 25 #[v] w fun e w' => OpsTold L w e w' := by
  obtain ⟨ao, c, rfl⟩ := hr.shape
  have HR := Lib.hid hr
  have HB := Lib.hid hb
  have hn5 : n ≤ 1200000 := by have := bulkO_length L; have := hr.1; omega
  have R := right_ref _ n L w hr
  rw [hok] at R
  clear hr hok hb
  go_enter Tryz.func25, Tryz.ntmps25
  go_wp2_with fail
  refine R.mono ?_
  rintro e w1 ⟨rfl, rfl⟩
  clear R
  go_wp2_with fail
  go_loopw [4, 5] (fun xv i wr => ∃ (k r c : Nat) (ao : Option Addr), k ≤ n + 1 ∧ i = .int .i64 k ∧ xv = .slice ao r c ∧ Hid (r ≤ 25300000 ∧ (k ≤ n → Bs wr w1.heap.size (.slice ao r c) r (frms ((L.take k).map pay))) ∧ (n < k → Bs wr w1.heap.size (.slice ao r c) r (frms (recs L))) ∧ Below w1.heap.size w1 wr))
    (fun _ i _ => n + 1 - (intOf i).toNat)
  case atStart => exact ⟨0, 0, 0, none, Nat.zero_le _, rfl, rfl, Lib.hid ⟨by omega, fun _ => ⟨rfl, World.ownsRow_nil _ _ _ _⟩, fun h => by omega, Below.refl _ _⟩⟩
  case round =>
    obtain ⟨k, r, c, ao2, hk, rfl, rfl, hrel⟩ := hrel
    by_cases hend : n < k
    · have h3 : ¬ (k : Int) ≤ (n : Int) := by omega
      go_wp2_with fail
      go_ret2
      exact ⟨ao2, r, c, 0, rfl, fun _ => hrel.out.2.2.1 hend, fun _ => rfl, hrel.out.2.2.2⟩
    · have h3 : (k : Int) ≤ (n : Int) := by omega
      have D := fun w => digits_ref n w (by omega)
      have hcase : (k < n ∧ ∃ o, L[k]? = some o ∧ o.del = true) ∨ (k < n ∧ ∃ o, L[k]? = some o ∧ o.del = false) ∨ k = n := by
        by_cases hlt : k < n
        · have hx : L[k]? = some (L[k]'(by have := HR.out.1; omega)) := List.getElem?_eq_getElem (by have := HR.out.1; omega)
          cases hd : (L[k]'(by have := HR.out.1; omega)).del with
          | true => exact .inl ⟨hlt, _, hx, hd⟩
          | false => exact .inr (.inl ⟨hlt, _, hx, hd⟩)
        · exact .inr (.inr (by omega))
      have HA := Lib.hid (hrel.out.2.1 (by omega))
      have HBE := Lib.hid hrel.out.2.2.2
      have hrb := hrel.out.1
      clear hrel hend
      rcases hcase with ⟨hlt, o, ho, hd⟩ | ⟨hlt, o, ho, hd⟩ | hkn
      case' inl =>
        have h4 : (k : Int) < (n : Int) := by omega
        go_wp2_with fail
        refine (D _).mono ?_
        rintro e w2 ⟨rfl, hb2⟩
        clear D
        have G2 := Lib.hid (Grow.trans ((Below.refl _ wr).alloc (Nat.le_refl _) _) hb2)
        clear hb2
        have RR := (HR.out.later HBE.out).later G2.out
        obtain ⟨a, o', rfl, ho', q0, q1, q2, s1, s2⟩ := RR.at hlt
        obtain rfl : o = o' := by rw [ho] at ho'; exact Option.some.inj ho'
        rw [hd] at q0
        have HO := Lib.hid (And.intro ho hd)
        have HS := Lib.hid (And.intro s1 s2)
        have hlb := World.block_lt_of_cell? w2 _ q0
        unfold maxLen at s1 s2
        clear ho hd ho' RR
        go_wp2_with fail
        obtain ⟨X, hX⟩ : ∃ X, X = (w2.alloc (.cells #[.string (txt (digs n))] 9)).alloc (.cells #[.int .u8 112] 5) := ⟨_, rfl⟩
        rw [← hX]
        have gX : Grow w2 X := by rw [hX]; exact Grow.trans ((Below.refl _ w2).alloc (Nat.le_refl _) _) ((Below.refl _ _).alloc (Nat.le_refl _) _)
        have gY : Grow w2 X.drew := below_drewN gX 1
        have x0 := grow_cell gY q0
        have x1 := grow_cell gY q1
        have x2 := grow_cell gY q2
        have hlX : (a.add (k * 3)).block < X.drew.heap.size := World.block_lt_of_cell? X.drew _ x0
        have GY := Lib.hid gY
        have HW : Hid (Grow X X.drew) := Lib.hid (below_drewN (Below.refl _ X) 1)
        clear q0 q1 q2 hlb hX gX gY
        go_still_tail 10, (by kernel_rfl)
        change wpList _ _ _ _ _ X.drew
        generalize X.drew = Y at *
        go_wp2_with fail
        obtain ⟨Z, hZ⟩ : ∃ Z, Z = (Y.alloc (.cells #[.string o.key, .string o.val] 9)).alloc (.cells #[.int .u8 100] 5) := ⟨_, rfl⟩
        have hzs : Y.heap.size + 1 + 1 = Z.heap.size := by rw [hZ]; simp
        rw [← hZ, hzs]
        have gZ : Grow Y Z := by rw [hZ]; exact Grow.trans ((Below.refl _ Y).alloc (Nat.le_refl _) _) ((Below.refl _ _).alloc (Nat.le_refl _) _)
        have HPZ : Hid (Bs Z wr.heap.size (.slice (some ⟨Y.heap.size + 1, 0, none⟩) 1 1) 1 [100]) := Lib.hid (by
          have h := bs_lit (Y.alloc (.cells #[.string o.key, .string o.val] 9)) wr.heap.size [100] 1 rfl (Nat.le_trans (Nat.le_trans G2.out.size GY.out.size) (by simp)) (by unfold maxLen; omega)
          rw [show (Y.alloc (.cells #[.string o.key, .string o.val] 9)).heap.size = Y.heap.size + 1 by simp] at h
          rw [hZ]
          exact h)
        have GZ := Lib.hid (Grow.trans (Grow.trans G2.out GY.out) gZ)
        have hob := bulkO_mem (List.mem_of_getElem? HO.out.1)
        have hbb := HB.out
        refine (ref_encode _ 1 [o.key] _ (Texts.lit Z [o.key] (0, 0) 1 rfl (by unfold maxLen; omega) ?_) ?_).mono ?_
        · intro s hs
          simp only [List.mem_cons, List.not_mem_nil, or_false] at hs
          subst hs; have := HS.out.1; exact this
        · simp only [bulk, List.map_cons, List.map_nil, List.sum_cons, List.sum_nil]; omega
        rintro e w5 ⟨a5, c5, rfl, h5, hb5⟩
        have HP := Lib.hid ((HPZ.out.alloc (.cells (sv [o.key]).toArray 9)).below hb5 (Nat.le_refl _))
        have G5 := Lib.hid (Grow.trans GZ.out (Grow.trans ((Below.refl _ Z).alloc (Nat.le_refl _) (.cells (sv [o.key]).toArray 9)) hb5))
        obtain ⟨pl, hpl⟩ : ∃ pl, pl = pay o := ⟨_, rfl⟩
        obtain ⟨kk, hkk⟩ : ∃ kk : UInt8, kk = 100 := ⟨_, rfl⟩
        obtain ⟨T, hT⟩ : ∃ T, T = [o.key] := ⟨_, rfl⟩
        rw [← hkk] at HP
        rw [← hT] at h5 ⊢
        have hpo := pay_length o
        have HT : Hid (pl = kk :: enc T ∧ pl.length ≤ 1200020) := Lib.hid ⟨by rw [hpl, hkk, hT]; unfold pay; rw [HO.out.2]; rfl, by rw [hpl]; omega⟩
        have HIN : Hid (pl ∈ recs L) := Lib.hid (by rw [hpl]; unfold recs; exact List.mem_append.2 (.inl (List.mem_map.2 ⟨o, List.mem_of_getElem? HO.out.1, rfl⟩)))
        have HN : Hid ((frms ((L.take k).map pay) ++ frm pl).length ≤ 25300000 ∧ (k < n → frms ((L.take k).map pay) ++ frm pl = frms ((L.take (k + 1)).map pay)) ∧ (k = n → frms ((L.take k).map pay) ++ frm pl = frms (recs L))) := Lib.hid (by
          rw [hpl, ← pays_take HO.out.1]
          refine ⟨?_, fun _ => rfl, fun h => by omega⟩
          have h1 := pays_bulk (L.take (k + 1))
          have h2 := bulkO_take L (k + 1)
          omega)
        clear hpl hkk hT hpo hob hbb hZ gZ x0 x1 x2 hlX s1 s2
      case' inr.inl =>
        have h4 : (k : Int) < (n : Int) := by omega
        go_wp2_with fail
        refine (D _).mono ?_
        rintro e w2 ⟨rfl, hb2⟩
        clear D
        have G2 := Lib.hid (Grow.trans ((Below.refl _ wr).alloc (Nat.le_refl _) _) hb2)
        clear hb2
        have RR := (HR.out.later HBE.out).later G2.out
        obtain ⟨a, o', rfl, ho', q0, q1, q2, s1, s2⟩ := RR.at hlt
        obtain rfl : o = o' := by rw [ho] at ho'; exact Option.some.inj ho'
        rw [hd] at q0
        have HO := Lib.hid (And.intro ho hd)
        have HS := Lib.hid (And.intro s1 s2)
        have hlb := World.block_lt_of_cell? w2 _ q0
        unfold maxLen at s1 s2
        clear ho hd ho' RR
        go_wp2_with fail
        obtain ⟨X, hX⟩ : ∃ X, X = (w2.alloc (.cells #[.string (txt (digs n))] 9)).alloc (.cells #[.int .u8 112] 5) := ⟨_, rfl⟩
        rw [← hX]
        have gX : Grow w2 X := by rw [hX]; exact Grow.trans ((Below.refl _ w2).alloc (Nat.le_refl _) _) ((Below.refl _ _).alloc (Nat.le_refl _) _)
        have HPX : Hid (Bs X wr.heap.size (.slice (some ⟨w2.heap.size + 1, 0, none⟩) 1 1) 1 [112]) := Lib.hid (by
          have h := bs_lit (w2.alloc (.cells #[.string (txt (digs n))] 9)) wr.heap.size [112] 1 rfl (Nat.le_trans G2.out.size (by simp)) (by unfold maxLen; omega)
          rw [show (w2.alloc (.cells #[.string (txt (digs n))] 9)).heap.size = w2.heap.size + 1 by simp] at h
          rw [hX]
          exact h)
        have gY : Grow w2 X.drew := below_drewN gX 1
        have x0 := grow_cell gY q0
        have x1 := grow_cell gY q1
        have x2 := grow_cell gY q2
        have hlX : (a.add (k * 3)).block < X.drew.heap.size := World.block_lt_of_cell? X.drew _ x0
        have GY := Lib.hid gY
        have HW : Hid (Grow X X.drew) := Lib.hid (below_drewN (Below.refl _ X) 1)
        clear q0 q1 q2 hlb hX gX gY
        go_still_tail 10, (by kernel_rfl)
        change wpList _ _ _ _ _ X.drew
        generalize X.drew = Y at *
        go_wp2_with fail
        obtain ⟨Z, hZ⟩ : ∃ Z, Z = Y := ⟨_, rfl⟩
        rw [← hZ]
        have gZ : Grow Y Z := by rw [hZ]; exact Below.refl _ _
        have HPZ : Hid (Bs Z wr.heap.size (.slice (some ⟨w2.heap.size + 1, 0, none⟩) 1 1) 1 [112]) := Lib.hid (by
          rw [hZ]
          exact HPX.out.below HW.out (Nat.le_refl _))
        have GZ := Lib.hid (Grow.trans (Grow.trans G2.out GY.out) gZ)
        have hob := bulkO_mem (List.mem_of_getElem? HO.out.1)
        have hbb := HB.out
        refine (ref_encode _ 2 [o.key, o.val] _ (Texts.lit Z [o.key, o.val] (0, 0) 2 rfl (by unfold maxLen; omega) ?_) ?_).mono ?_
        · intro s hs
          simp only [List.mem_cons, List.not_mem_nil, or_false] at hs
          rcases hs with rfl | rfl
          · exact HS.out.1
          · exact HS.out.2
        · simp only [bulk, List.map_cons, List.map_nil, List.sum_cons, List.sum_nil]; omega
        rintro e w5 ⟨a5, c5, rfl, h5, hb5⟩
        have HP := Lib.hid ((HPZ.out.alloc (.cells (sv [o.key, o.val]).toArray 9)).below hb5 (Nat.le_refl _))
        have G5 := Lib.hid (Grow.trans GZ.out (Grow.trans ((Below.refl _ Z).alloc (Nat.le_refl _) (.cells (sv [o.key, o.val]).toArray 9)) hb5))
        obtain ⟨pl, hpl⟩ : ∃ pl, pl = pay o := ⟨_, rfl⟩
        obtain ⟨kk, hkk⟩ : ∃ kk : UInt8, kk = 112 := ⟨_, rfl⟩
        obtain ⟨T, hT⟩ : ∃ T, T = [o.key, o.val] := ⟨_, rfl⟩
        rw [← hkk] at HP
        rw [← hT] at h5 ⊢
        have hpo := pay_length o
        have HT : Hid (pl = kk :: enc T ∧ pl.length ≤ 1200020) := Lib.hid ⟨by rw [hpl, hkk, hT]; unfold pay; rw [HO.out.2]; rfl, by rw [hpl]; omega⟩
        have HIN : Hid (pl ∈ recs L) := Lib.hid (by rw [hpl]; unfold recs; exact List.mem_append.2 (.inl (List.mem_map.2 ⟨o, List.mem_of_getElem? HO.out.1, rfl⟩)))
        have HN : Hid ((frms ((L.take k).map pay) ++ frm pl).length ≤ 25300000 ∧ (k < n → frms ((L.take k).map pay) ++ frm pl = frms ((L.take (k + 1)).map pay)) ∧ (k = n → frms ((L.take k).map pay) ++ frm pl = frms (recs L))) := Lib.hid (by
          rw [hpl, ← pays_take HO.out.1]
          refine ⟨?_, fun _ => rfl, fun h => by omega⟩
          have h1 := pays_bulk (L.take (k + 1))
          have h2 := bulkO_take L (k + 1)
          omega)
        clear hpl hkk hT hpo hob hbb hZ gZ x0 x1 x2 hlX s1 s2
      case' inr.inr =>
        have h4 : ¬ (k : Int) < (n : Int) := by omega
        have HK := Lib.hid hkn
        clear hkn
        go_wp2_with fail
        refine (D _).mono ?_
        rintro e w2 ⟨rfl, hb2⟩
        clear D
        have HP2 := Lib.hid ((bs_lit wr wr.heap.size [99] 1 rfl (Nat.le_refl _) (by unfold maxLen; omega)).below hb2 (by simp))
        have G2 := Lib.hid (Grow.trans ((Below.refl _ wr).alloc (Nat.le_refl _) _) hb2)
        clear hb2
        have hfl := fin_length (n := n) (by omega)
        have hsz : 8 + (txt (digs n)).size = (enc [txt (digs n)]).length := (enc1_length _).symm
        go_wp2_with fail
        refine (ref_encode _ 1 [txt (digs n)] _ (Texts.lit w2 [txt (digs n)] (0, 0) 1 rfl (by unfold maxLen; omega) ?_) ?_).mono ?_
        · intro s hs
          simp only [List.mem_singleton] at hs
          subst hs
          unfold fin at hfl; rw [List.length_cons] at hfl
          unfold maxLen; omega
        · unfold fin at hfl; rw [List.length_cons] at hfl
          simp only [bulk, List.map_cons, List.map_nil, List.sum_cons, List.sum_nil]; omega
        rintro e w5 ⟨a5, c5, rfl, h5, hb5⟩
        have HP := Lib.hid ((HP2.out.alloc (.cells (sv [txt (digs n)]).toArray 9)).below hb5 (Nat.le_refl _))
        have G5 := Lib.hid (Grow.trans G2.out (Grow.trans ((Below.refl _ w2).alloc (Nat.le_refl _) (.cells (sv [txt (digs n)]).toArray 9)) hb5))
        obtain ⟨pl, hpl⟩ : ∃ pl, pl = fin n := ⟨_, rfl⟩
        obtain ⟨kk, hkk⟩ : ∃ kk : UInt8, kk = 99 := ⟨_, rfl⟩
        obtain ⟨T, hT⟩ : ∃ T, T = [txt (digs n)] := ⟨_, rfl⟩
        rw [← hkk] at HP
        rw [← hT] at h5 ⊢
        have HT : Hid (pl = kk :: enc T ∧ pl.length ≤ 1200020) := Lib.hid ⟨by rw [hpl, hkk, hT]; rfl, by rw [hpl]; omega⟩
        have HIN : Hid (pl ∈ recs L) := Lib.hid (by rw [hpl, HR.out.1]; unfold recs; exact List.mem_append.2 (.inr (List.mem_singleton.2 rfl)))
        have HN : Hid ((frms ((L.take k).map pay) ++ frm pl).length ≤ 25300000 ∧ (k < n → frms ((L.take k).map pay) ++ frm pl = frms ((L.take (k + 1)).map pay)) ∧ (k = n → frms ((L.take k).map pay) ++ frm pl = frms (recs L))) := Lib.hid (by
          have e : L.take k = L := List.take_of_length_le (by have := HK.out; have := HR.out.1; omega)
          refine ⟨?_, fun h => by have := HK.out; omega, fun _ => ?_⟩
          · have := pays_bulk L; have := HB.out; rw [e, List.length_append, frm_length, hpl]; omega
          · rw [e, hpl, recs, frms_snoc, ← HR.out.1])
        clear hpl hkk hT hfl hsz HP2 HK
      all_goals
        have hlT : (enc T).length + 1 = pl.length := by rw [HT.out.1]; simp
        have hlT2 := HT.out.2
        obtain ⟨q, hq⟩ : ∃ q, q = (enc T).length := ⟨_, rfl⟩
        have HQ := Lib.hid (And.intro hq hlT)
        rw [← hq] at h5 ⊢
        have hq6 : q ≤ 1200020 := by omega
        have F1 : Hid (q + 1 ≤ maxLen) := Lib.hid (by unfold maxLen; omega)
        have F2 : Hid ((q + 1) * 1 ≤ 140737488355328) := Lib.hid (by omega)
        have H5 := Lib.hid h5.reads
        have hsz5 : wr.heap.size ≤ w5.heap.size := G5.out.size
        clear h5 hq hlT hlT2 hb5
        go_wp2_with (at_builtin; refine wpList_append_bytes rfl (.tmp 52) (.tmp 54) rfl wr.heap.size _ 1 [kk] rfl HP.out (.slice a5 q c5) q (enc T) HQ.out.1 rfl H5.out (q + 1) (Nat.add_comm q 1) F1 F2 hsz5 ?_; intro ao6 c6 w6 hown6 hb6)
        have G6 : Hid (Grow wr w6) := Lib.hid (Below.trans (show Below wr.heap.size wr w5 from G5.out) hb6)
        have hpl : [kk] ++ enc T = pl := HT.out.1.symm
        rw [hpl] at hown6
        have H6 := Lib.hid hown6.reads
        clear hown6 hb6 hpl
        by_cases hlong : ¬ q + 1 ≤ 1048576
        · refine (ref_frame_long _ (q + 1) pl w6 H6.out (by rw [HQ.out.1]; exact HQ.out.2) hlong).mono ?_
          rintro e w7 ⟨rfl, rfl⟩
          have G7 := Lib.hid (Below.trans HBE.out (G6.out.mono HBE.out.size))
          have HLO : Hid (¬ pl.length ≤ 1048576) := Lib.hid (by have := HQ.out.2; have := HQ.out.1; omega)
          clear hlong F1 F2
          go_wp2_with fail
          go_ret2
          exact ⟨none, 0, 0, 9, rfl, (fun h => by cases h), fun h => absurd (h pl HIN.out) HLO.out, G7.out⟩
        have hshort : q + 1 ≤ 1048576 := by omega
        clear hlong
        refine (ref_frame _ (q + 1) pl w6 H6.out (by rw [HQ.out.1]; exact HQ.out.2) hshort).mono ?_
        rintro e w7 ⟨ao7, c7, rfl, hown7, hb7⟩
        have H7 := Lib.hid hown7
        have G7 := Lib.hid (Grow.trans G6.out hb7)
        have HA7 := Lib.hid (HA.out.below G7.out (Nat.le_refl _))
        have B7 := Lib.hid (HBE.out.trans (G7.out.mono HBE.out.size))
        obtain ⟨s, hs⟩ : ∃ s, s = r + (q + 1 + 8) := ⟨_, rfl⟩
        have F3 : Hid (s ≤ maxLen) := Lib.hid (by unfold maxLen; omega)
        have F4 : Hid (s * 1 ≤ 140737488355328) := Lib.hid (by omega)
        have HSS := Lib.hid hs
        clear hown7 hb7 hs F1 F2 hshort
        go_wp2_with (at_builtin; refine wpList_append_bytes rfl (.tmp 64) (.tmp 65) rfl w1.heap.size _ r _ rfl HA7.out (.slice ao7 (q + 1 + 8) c7) (q + 1 + 8) (frm pl) H7.out.1 rfl H7.out.reads s HSS.out F3 F4 B7.out.size ?_; intro ao8 c8 w8 hown8 hb8)
        refine ⟨⟨k + 1, s, c8, ao8, by omega, by simp, rfl, Lib.hid ⟨?_, fun h => ?_, fun h => ?_, B7.out.trans hb8⟩⟩, by simp only [intOf]; omega⟩
        · have := HN.out.1; rw [← hown8.1] at this; exact this
        · rw [← HN.out.2.1 (by omega)]; exact hown8
        · rw [← HN.out.2.2 (by omega)]; exact hown8

theorem recs_few {L : List Opm} (hb : bulkO L ≤ 5000) : ∀ p ∈ recs L, p.length ≤ 1048576 := by
  intro p hp
  unfold recs at hp
  rcases List.mem_append.1 hp with h | h
  · obtain ⟨o, ho, rfl⟩ := List.mem_map.1 h
    have := pay_length o
    have := bulkO_mem ho
    omega
  · rw [List.mem_singleton.1 h]
    have := fin_length (n := L.length) (by have := bulkO_length L; omega)
    omega
theorem ref_ops (v : Value) (n : Nat) (L : List Opm) (w : World) (hr : Opr w v n L) (hok : okOps L = true) (hb : bulkO L ≤ 5000) :
    Calls Tryz.prog 25 #[v] w fun e w' => ∃ ao m c, e = .returned (.tuple #[.slice ao m c, .int .i64 0]) ∧ Bs w' w.heap.size (.slice ao m c) m (frms (recs L)) ∧ Below w.heap.size w w' := by
  refine (ref_ops_upto v n L w hr hok (by omega)).mono ?_
  rintro e w' ⟨ao, m, c, z, rfl, h1, h2, h3⟩
  obtain rfl := h2 (recs_few hb)
  exact ⟨ao, m, c, rfl, h1 rfl, h3⟩

theorem ref_ops_bad (v : Value) (n : Nat) (L : List Opm) (w : World) (hr : Opr w v n L) (hok : okOps L = false) :
    Calls Tryz.prog 25 #[v] w fun e w' => e = .returned (.tuple #[.slice none 0 0, .int .i64 1]) ∧ w' = w := by
  have R := right_ref _ n L w hr
  rw [hok] at R
  clear hr hok
  go_enter Tryz.func25, Tryz.ntmps25
  go_wp2_with fail
  refine R.mono ?_
  rintro e w1 ⟨rfl, rfl⟩
  clear R
  go_wp2_with fail
  go_ret2
  exact ⟨rfl, rfl⟩

end Go.Proofs.YthacjeeafnblmaaGreatDoor
