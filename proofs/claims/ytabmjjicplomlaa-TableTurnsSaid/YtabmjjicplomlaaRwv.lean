/- Lists of lists of bytes: append of a whole one; records of a list. Numbers and types by name. -/
import Derived.Test.YtabmjjicplomlaaOws
namespace Go.Proofs.Ytabmjjicplomlaa
open Go.RowKit Go.Lib

/-- The cells of a list of lists of bytes. -/
def Vals (w : World) (vs : List Value) (ps : List (List UInt8)) : Prop :=
  vs.length = ps.length ∧ ∀ (j : Nat) (p : List UInt8), ps[j]? = some p → ∃ ao c, vs[j]? = some (Value.slice ao p.length c) ∧ Reads w (.slice ao p.length c) (bv p) ∧ p.length ≤ maxLen

theorem Vals.later {w w' : World} {vs : List Value} {ps : List (List UInt8)} (h : Vals w vs ps) (hg : Grow w w') : Vals w' vs ps :=
  ⟨h.1, fun j p hj => by obtain ⟨ao, c, e1, e2, e3⟩ := h.2 j p hj; exact ⟨ao, c, e1, e2.later hg, e3⟩⟩
theorem Vals.one {w : World} {vs : List Value} {ps : List (List UInt8)} (h : Vals w vs ps) : ∀ u ∈ vs, u.oneCell' = true := by
  intro u hu
  obtain ⟨j, hj, rfl⟩ := List.getElem_of_mem hu
  obtain ⟨ao, c, e, _⟩ := h.2 j (ps[j]'(by have := h.1; omega)) (List.getElem?_eq_getElem _)
  rw [List.getElem?_eq_getElem hj] at e
  rw [Option.some.inj e]
  rfl
theorem Vals.append {w : World} {vs us : List Value} {ps qs : List (List UInt8)} (h : Vals w vs ps) (k : Vals w us qs) : Vals w (vs ++ us) (ps ++ qs) := by
  refine ⟨by rw [List.length_append, List.length_append, h.1, k.1], fun j p hj => ?_⟩
  by_cases hl : j < ps.length
  · rw [List.getElem?_append_left hl] at hj
    rw [List.getElem?_append_left (by rw [h.1]; exact hl)]
    exact h.2 j p hj
  · rw [List.getElem?_append_right (by omega)] at hj
    rw [List.getElem?_append_right (by rw [h.1]; omega), h.1]
    exact k.2 _ p hj
theorem Rws.vals {w : World} {v : Value} {n : Nat} {ps : List (List UInt8)} (h : Rws w v n ps) : ∃ vs, Reads w v vs ∧ vs.length = n ∧ Vals w vs ps := by
  obtain ⟨h1, _, vs, hr, hl, hp⟩ := h
  exact ⟨vs, hr, hl, by rw [hl, h1], hp⟩
theorem Rws.of_vals {w : World} {v : Value} {n : Nat} {vs : List Value} {ps : List (List UInt8)} (h : Reads w v vs) (hl : vs.length = n) (k : Vals w vs ps) (hm : n ≤ maxLen) : Rws w v n ps :=
  ⟨by rw [← hl, k.1], hm, vs, h, hl, k.2⟩

/-- append of whatever list of one cell each that can be read, to an own one. -/
theorem run_append_vals (ty : TypeId) (base : Nat) (v : Value) (n : Nat) (xs : List Value) (w : World) (hown : w.ownsRow base 24 1 v n xs) (vb : Value) (news : List Value) (hr : Reads w vb news) (h1 : ∀ u ∈ news, u.oneCell' = true)
    (h63 : n + news.length ≤ maxLen) (hbytes : (n + news.length) * 24 ≤ 140737488355328) (hbase : base ≤ w.heap.size) :
    ∃ ao c w', (Builtin.append_ #[55, 55] ty #[v, vb]).run Try.prog w = .ok (.slice ao (n + news.length) c) w' ∧ w'.ownsRow base 24 1 (.slice ao (n + news.length) c) (n + news.length) (xs ++ news) ∧ w.grownBy w' v.ownBlock := by
  obtain ⟨i0, hi, hz0, hz1, hz2⟩ := info_parts info_row
  obtain ⟨ao, cap, rfl, _, hn, hc⟩ := hr
  cases ao with
  | none =>
    obtain ⟨rfl, rfl⟩ := hn rfl
    obtain ⟨ao, c, rfl⟩ := owns_shape hown
    have := run_append_owned_none (P := Try.prog) w base 55 ty 24 i0 1 Try.underlying55 hi (.slice ao n c) n xs hown
    exact ⟨ao, c, w, this, by simpa using hown, grown_refl _ _⟩
  | some a =>
    obtain ⟨v', w', hr, h2, h3, _, h5⟩ := run_append_own_at (P := Try.prog) w base 55 ty 24 i0 (.slice none 0 0) 1 24 Try.underlying55 hi hz0 hz1 hz2 rfl (by decide) v n xs hown a news.length cap news (by simp) (hc a rfl) h1 h63 hbytes hbase
    obtain ⟨ao, c, rfl⟩ := owns_shape h2
    exact ⟨ao, c, w', hr, h2, h3⟩

theorem wpList_append_vals {ops : Array Oper} {rest : List Oper} {o : Oper} {a : Act} {w : World} {Q : Exit → Act → World → Prop} (hgd : o.guard = none) (s x : Operand)
    (ho : o.op = .call { callee := .builtin .append, args := #[s, x], argTypes := #[55, 55] })
    (base : Nat) (v : Value) (n : Nat) (xs : List Value) (hs : a.eval s = v) (hown : w.ownsRow base 24 1 v n xs) (vb : Value) (news : List Value) (m : Nat) (hx : a.eval x = vb) (hr : Reads w vb news) (hm : m = news.length) (h1 : ∀ u ∈ news, u.oneCell' = true)
    (p : Nat) (hp : p = n + m) (h63 : Hid (p ≤ 1000000)) (hbase : base ≤ w.heap.size)
    (h : ∀ ao c w', w'.ownsRow base 24 1 (.slice ao p c) p (xs ++ news) → Below base w w' → wpList Try.prog ops Q rest (a.put o.dst (.slice ao p c)) w') : wpList Try.prog ops Q (o :: rest) a w := by
  subst hm hp
  have hb := h63.out
  refine wpList_plain hgd fun K hK => ?_
  obtain ⟨ao, c, w', hr', h2, h3⟩ := run_append_vals o.type base v n xs w hown vb news hr h1 (by unfold maxLen; omega) (by omega) hbase
  unfold Oper.wp execOp
  simp only [ho, resolve, invoke, builtin, Sem.run_bind, Sem.run_pure, Result.andThen_ok, List.map_toArray, List.map_cons, List.map_nil, hs, hx, hr']
  exact hK _ _ (h ao c w' h2 (below_grown_own hown h3 hbase))

theorem vals_empty (w : World) (base z : Nat) (hz : z = w.heap.size) (hb : base ≤ w.heap.size) : (w.alloc (.cells #[] 24)).ownsRow base 24 1 (.slice (some ⟨z, 0, none⟩) 0 0) 0 [] := by
  subst hz
  exact ⟨rfl, .inr ⟨w.heap.size, 0, #[], rfl, hb, heap_alloc_new w _, Nat.le_refl _, Nat.zero_le _, rfl, rfl⟩⟩

theorem frms_bulk (l : List (List UInt8)) : (frms l).length ≤ 8 * bulkR l := by
  induction l with
  | nil => simp [frms, bulkR]
  | cons p l ih =>
    have e : frms (p :: l) = frm p ++ frms l := by simp [frms]
    rw [e, List.length_append, frm_length, bulkR_cons]
    omega
theorem frms_snoc (l : List (List UInt8)) (p : List UInt8) : frms (l ++ [p]) = frms l ++ frm p := by simp [frms]
theorem bulk_take {l : List (List UInt8)} (k : Nat) : bulkR (l.take k) ≤ bulkR l := by
  have := congrArg bulkR (List.take_append_drop k l)
  rw [bulkR_append] at this
  omega

end Go.Proofs.Ytabmjjicplomlaa
