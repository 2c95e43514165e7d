/- The reference's Encode. Numbers and types by name. -/
import Derived.Test.YthacjeeafnblmaaDoorOws
import Derived.Test.YthacjeeafnblmaaDoorTxt
/- Lists of lists of bytes: append of a whole one; records of a list. Numbers and types by name. -/
namespace Go.Proofs.YthacjeeafnblmaaDoor
open Go.RowKit Go.Lib

/-- The cells of a list of lists of bytes. -/
def Vals (w : World) (vs : List Value) (ps : List (List UInt8)) : Prop :=
  vs.length = ps.length ∧ ∀ (j : Nat) (p : List UInt8), ps[j]? = some p → ∃ ao c, vs[j]? = some (Value.slice ao p.length c) ∧ Reads w (.slice ao p.length c) (bv p) ∧ p.length ≤ maxLen

theorem Vals.later {w w' : World} {vs : List Value} {ps : List (List UInt8)} (h : Vals w vs ps) (hg : Grow w w') : Vals w' vs ps :=
  ⟨h.1, fun j p hj => by obtain ⟨ao, c, e1, e2, e3⟩ := h.2 j p hj; exact ⟨ao, c, e1, e2.later hg, e3⟩⟩
theorem Vals.one {w : World} {vs : List Value} {ps : List (List UInt8)} (h : Vals w vs ps) : ∀ u ∈ vs, u.oneCell' = true := by
  intro u hu
  obtain ⟨j, hj, rfl⟩ := List.getElem_of_mem hu
  obtain ⟨ao, c, e, _⟩ := h.2 j (ps[j]'(by have := h.1; omega)) (List.getElem?_eq_getElem _)
  rw [List.getElem?_eq_getElem hj] at e
  rw [Option.some.inj e]
  rfl
theorem Vals.append {w : World} {vs us : List Value} {ps qs : List (List UInt8)} (h : Vals w vs ps) (k : Vals w us qs) : Vals w (vs ++ us) (ps ++ qs) := by
  refine ⟨by rw [List.length_append, List.length_append, h.1, k.1], fun j p hj => ?_⟩
  by_cases hl : j < ps.length
  · rw [List.getElem?_append_left hl] at hj
    rw [List.getElem?_append_left (by rw [h.1]; exact hl)]
    exact h.2 j p hj
  · rw [List.getElem?_append_right (by omega)] at hj
    rw [List.getElem?_append_right (by rw [h.1]; omega), h.1]
    exact k.2 _ p hj
theorem Rws.vals {w : World} {v : Value} {n : Nat} {ps : List (List UInt8)} (h : Rws w v n ps) : ∃ vs, Reads w v vs ∧ vs.length = n ∧ Vals w vs ps := by
  obtain ⟨h1, _, vs, hr, hl, hp⟩ := h
  exact ⟨vs, hr, hl, by rw [hl, h1], hp⟩
theorem Rws.of_vals {w : World} {v : Value} {n : Nat} {vs : List Value} {ps : List (List UInt8)} (h : Reads w v vs) (hl : vs.length = n) (k : Vals w vs ps) (hm : n ≤ maxLen) : Rws w v n ps :=
  ⟨by rw [← hl, k.1], hm, vs, h, hl, k.2⟩

/-- append of whatever list of one cell each that can be read, to an own one. -/
theorem run_append_vals (ty : TypeId) (base : Nat) (v : Value) (n : Nat) (xs : List Value) (w : World) (hown : w.ownsRow base 26 1 v n xs) (vb : Value) (news : List Value) (hr : Reads w vb news) (h1 : ∀ u ∈ news, u.oneCell' = true)
    (h63 : n + news.length ≤ maxLen) (hbytes : (n + news.length) * 24 ≤ 140737488355328) (hbase : base ≤ w.heap.size) :
    ∃ ao c w', (Builtin.append_ #[78, 78] ty #[v, vb]).run Tryd.prog w = .ok (.slice ao (n + news.length) c) w' ∧ w'.ownsRow base 26 1 (.slice ao (n + news.length) c) (n + news.length) (xs ++ news) ∧ w.grownBy w' v.ownBlock := by
  obtain ⟨i0, hi, hz0, hz1, hz2⟩ := info_parts info_row
  obtain ⟨ao, cap, rfl, _, hn, hc⟩ := hr
  cases ao with
  | none =>
    obtain ⟨rfl, rfl⟩ := hn rfl
    obtain ⟨ao, c, rfl⟩ := owns_shape hown
    have := run_append_owned_none (P := Tryd.prog) w base 78 ty 26 i0 1 Tryd.underlying78 hi (.slice ao n c) n xs hown
    exact ⟨ao, c, w, this, by simpa using hown, grown_refl _ _⟩
  | some a =>
    obtain ⟨v', w', hr, h2, h3, _, h5⟩ := run_append_own_at (P := Tryd.prog) w base 78 ty 26 i0 (.slice none 0 0) 1 24 Tryd.underlying78 hi hz0 hz1 hz2 rfl (by decide) v n xs hown a news.length cap news (by simp) (hc a rfl) h1 h63 hbytes hbase
    obtain ⟨ao, c, rfl⟩ := owns_shape h2
    exact ⟨ao, c, w', hr, h2, h3⟩

theorem wpList_append_vals {ops : Array Oper} {rest : List Oper} {o : Oper} {a : Act} {w : World} {Q : Exit → Act → World → Prop} (hgd : o.guard = none) (s x : Operand)
    (ho : o.op = .call { callee := .builtin .append, args := #[s, x], argTypes := #[78, 78] })
    (base : Nat) (v : Value) (n : Nat) (xs : List Value) (hs : a.eval s = v) (hown : w.ownsRow base 26 1 v n xs) (vb : Value) (news : List Value) (m : Nat) (hx : a.eval x = vb) (hr : Reads w vb news) (hm : m = news.length) (h1 : ∀ u ∈ news, u.oneCell' = true)
    (p : Nat) (hp : p = n + m) (h63 : Hid (p ≤ 1000000)) (hbase : base ≤ w.heap.size)
    (h : ∀ ao c w', w'.ownsRow base 26 1 (.slice ao p c) p (xs ++ news) → Below base w w' → wpList Tryd.prog ops Q rest (a.put o.dst (.slice ao p c)) w') : wpList Tryd.prog ops Q (o :: rest) a w := by
  subst hm hp
  have hb := h63.out
  refine wpList_plain hgd fun K hK => ?_
  obtain ⟨ao, c, w', hr', h2, h3⟩ := run_append_vals o.type base v n xs w hown vb news hr h1 (by unfold maxLen; omega) (by omega) hbase
  unfold Oper.wp execOp
  simp only [ho, resolve, invoke, builtin, Sem.run_bind, Sem.run_pure, Result.andThen_ok, List.map_toArray, List.map_cons, List.map_nil, hs, hx, hr']
  exact hK _ _ (h ao c w' h2 (below_grown_own hown h3 hbase))

theorem vals_empty (w : World) (base z : Nat) (hz : z = w.heap.size) (hb : base ≤ w.heap.size) : (w.alloc (.cells #[] 26)).ownsRow base 26 1 (.slice (some ⟨z, 0, none⟩) 0 0) 0 [] := by
  subst hz
  exact ⟨rfl, .inr ⟨w.heap.size, 0, #[], rfl, hb, heap_alloc_new w _, Nat.le_refl _, Nat.zero_le _, rfl, rfl⟩⟩

theorem frms_bulk (l : List (List UInt8)) : (frms l).length ≤ 8 * bulkR l := by
  induction l with
  | nil => simp [frms, bulkR]
  | cons p l ih =>
    have e : frms (p :: l) = frm p ++ frms l := by simp [frms]
    rw [e, List.length_append, frm_length, bulkR_cons]
    omega
theorem frms_snoc (l : List (List UInt8)) (p : List UInt8) : frms (l ++ [p]) = frms l ++ frm p := by simp [frms]
theorem bulk_take {l : List (List UInt8)} (k : Nat) : bulkR (l.take k) ≤ bulkR l := by
  have := congrArg bulkR (List.take_append_drop k l)
  rw [bulkR_append] at this
  omega

end Go.Proofs.YthacjeeafnblmaaDoor

namespace Go.Proofs.YthacjeeafnblmaaDoor
open Go.RowKit Go.Lib

theorem ref_encode (v : Value) (n : Nat) (L : List ByteArray) (w : World) (hr : Texts w v n L) (hb : bulk L ≤ 4000000) :
    Calls Tryd.prog 20 #[v] w fun e w' => ∃ ao c, e = .returned (.slice ao (enc L).length c) ∧ Bs w' w.heap.size (.slice ao (enc L).length c) (enc L).length (enc L) ∧ Below w.heap.size w w' := by
  obtain ⟨ao, c, rfl⟩ := hr.shape
  have HR := Lib.hid hr
  have hn := hr.1
  have hlen := encs_length L
  have hnb := bulk_length L
  have HL : Hid ((encs L).length ≤ 20000000 ∧ n = L.length ∧ (enc L).length = 4 + (encs L).length ∧ n ≤ 4000000) := Lib.hid ⟨by omega, hn, by simp [enc, be4_length], by omega⟩
  have hn1 : n ≤ 4000000 := HL.out.2.2.2
  clear hr hlen hnb hb hn
  go_enter Tryd.func20, Tryd.ntmps20
  go_wp2_with fail
  refine (ref_u32 _ _).mono ?_
  rintro e w1 ⟨ao1, c1, rfl, hown1, hb1⟩
  have HB := Lib.hid (And.intro hown1 hb1)
  clear hown1 hb1
  go_wp2_with fail
  go_loopw [3, 4] (fun v i wr => ∃ j : Nat, j ≤ n ∧ i = .int .i64 j ∧ Hid (∃ ao m c, v = .slice ao m c ∧ Bs wr w.heap.size (.slice ao m c) m (be4 n ++ encs (L.take j)) ∧ Below w.heap.size w wr))
    (fun _ i _ => n - (intOf i).toNat)
  case atStart => exact ⟨0, Nat.zero_le _, rfl, Lib.hid ⟨_, _, _, rfl, by simpa [encs] using HB.out.1, HB.out.2⟩⟩
  case round =>
    obtain ⟨j, hj, rfl, hrel⟩ := hrel
    obtain ⟨ao2, m, c2, rfl, hown, hbel⟩ := hrel.out
    clear HB hrel
    have hm : m = 4 + (encs (L.take j)).length := by rw [hown.1]; simp [be4_length]
    have hle := encs_take_le L j
    by_cases h1 : j < n
    · have h3 : (j : Int) < (n : Int) := by omega
      obtain ⟨a, s, rfl, hs, hc0, hsz⟩ := HR.out.at h1
      have HCELL : Hid (∀ w', Below w.heap.size w w' → w'.cell? (a.add j) = some (.string s)) := Lib.hid fun w' hg => by
        rw [World.cell?_of_block (hg.block _ (World.block_lt_of_cell? w _ hc0))]
        exact hc0
      have hc := HCELL.out wr hbel
      clear hc0
      have hT := encs_take hs
      have hle3 := encs_take_le L (j + 1)
      have hsz2 : (encs (L.take (j + 1))).length = (encs (L.take j)).length + 4 + s.size := by rw [hT]; simp [be4_length]; omega
      have hl5 := HL.out.1
      have HT := Lib.hid hT
      have F1 : Hid (m + 4 ≤ maxLen) := Lib.hid (by unfold maxLen; omega)
      have F2 : Hid ((m + 4) * 1 ≤ 140737488355328) := Lib.hid (by omega)
      have HM : Hid (m + 4 + s.size ≤ maxLen) := Lib.hid (by unfold maxLen; omega)
      have HM2 : Hid (m + 4 + s.size ≤ 140737488355328) := Lib.hid (by omega)
      have HO := Lib.hid (And.intro hown hbel)
      clear hs hT hsz hown hbel hle hle3 hsz2 hm hl5
      go_wp2_with (first | (go_at_call 32; refine (ref_u32 _ _).mono ?_; rintro e w2 ⟨ao3, c3, rfl, hown3, hb3⟩) | (at_builtin; refine wpList_append_bytes rfl (.tmp 14) (.tmp 20) rfl w.heap.size (.slice ao2 m c2) m _ rfl (HO.out.1.below hb3 (Nat.le_refl _)) (.slice ao3 4 c3) 4 _ rfl rfl hown3.reads (m + 4) rfl F1 F2 (Nat.le_trans HO.out.2.size hb3.size) ?_; intro ao4 c4 w4 hown4 hb4; have hc4 := HCELL.out w4 ((HO.out.2.trans (hb3.mono HO.out.2.size)).trans hb4)) | (at_builtin; refine wpList_append_text rfl (.tmp 22) (.tmp 26) rfl w.heap.size (.slice ao4 (m + 4) c4) (m + 4) _ rfl hown4 s rfl (m + 4 + s.size) rfl HM HM2 ((HO.out.2.trans (hb3.mono HO.out.2.size)).trans hb4).size ?_; intro ao5 c5 w5 hown5 hb5))
      refine ⟨⟨j + 1, by omega, by simp, Lib.hid ⟨ao5, _, c5, rfl, ?_, ((HO.out.2.trans (hb3.mono HO.out.2.size)).trans hb4).trans hb5⟩⟩, by simp [intOf]; omega⟩
      rw [HT.out]
      simpa [List.append_assoc] using hown5
    · have h3 : ¬ (j : Int) < (n : Int) := by omega
      obtain rfl : j = n := by omega
      have hkL : L.take j = L := List.take_of_length_le (by have := HL.out.2.1; omega)
      rw [hkL] at hown hm hle
      go_wp2_with fail
      go_ret
      have hE := HL.out.2.2.1
      have hjl : j = L.length := HL.out.2.1
      rw [← hE] at hm
      subst hm
      refine ⟨ao2, c2, ?_, ?_, hbel⟩
      · simp [hE]
      · show Bs wr _ _ _ (be4 L.length ++ encs L)
        rw [← hjl]
        exact hown

end Go.Proofs.YthacjeeafnblmaaDoor
