/- An own list of lists of bytes, and append to it. Numbers and types by name. -/
import Derived.Test.YtabmjjicplomlaaRws
namespace Go.Proofs.Ytabmjjicplomlaa
open Go.RowKit Go.Lib

theorem info_row : (Try.prog.info? 24).map (fun i => (i.zero, i.size, i.bytes)) = some (some (.slice none 0 0), 1, 24) := by kernel_rfl

/-- A list of lists of bytes of the call's own; what its elements hold lies in other blocks than it. -/
def Ows (w : World) (base : Nat) (v : Value) (n : Nat) (ps : List (List UInt8)) : Prop :=
  n = ps.length ∧ ∃ vs : List Value, w.ownsRow base 24 1 v n vs ∧ ∀ (j : Nat) (p : List UInt8), ps[j]? = some p → ∃ ao c, vs[j]? = some (Value.slice ao p.length c) ∧ Reads w (.slice ao p.length c) (bv p) ∧ p.length ≤ maxLen ∧ (∀ a, ao = some a → some a.block ≠ v.ownBlock ∧ a.block < w.heap.size)

theorem Ows.rows {w : World} {base : Nat} {v : Value} {n : Nat} {ps : List (List UInt8)} (h : Ows w base v n ps) (hn : n ≤ maxLen) : Rws w v n ps := by
  obtain ⟨h1, vs, h2, h3⟩ := h
  have hl : vs.length = n := by simpa using h2.1
  refine ⟨h1, hn, vs, Reads.own (by rw [hl]; exact h2), hl, fun j p hj => ?_⟩
  obtain ⟨ao, c, e1, e2, e3, _⟩ := h3 j p hj
  exact ⟨ao, c, e1, e2, e3⟩

theorem Ows.nil (w : World) (base : Nat) : Ows w base (.slice none 0 0) 0 [] := ⟨rfl, [], World.ownsRow_nil _ _ _ _, fun j p h => by cases h⟩

theorem Ows.shape {w : World} {base : Nat} {v : Value} {n : Nat} {ps : List (List UInt8)} (h : Ows w base v n ps) : ∃ ao c, v = .slice ao n c := by
  obtain ⟨_, vs, h2, _⟩ := h
  exact owns_shape h2

/-- Behind work that lets its blocks be. -/
theorem Ows.later {w w' : World} {base : Nat} {v : Value} {n : Nat} {ps : List (List UInt8)} (h : Ows w base v n ps) (hg : Grow w w') : Ows w' base v n ps := by
  obtain ⟨h1, vs, h2, h3⟩ := h
  refine ⟨h1, vs, ⟨h2.1, h2.2.imp id ?_⟩, fun j p hj => ?_⟩
  · rintro ⟨g, cap, cur, e1, e2, e3, e4⟩
    refine ⟨g, cap, cur, e1, e2, ?_, e4⟩
    rw [hg.block g (by have := (h2.lt g (by rw [e1]; rfl)).2; omega)]
    exact e3
  · obtain ⟨ao, c, e1, e2, e3, e4⟩ := h3 j p hj
    exact ⟨ao, c, e1, e2.later hg, e3, fun a ha => ⟨(e4 a ha).1, Nat.lt_of_lt_of_le (e4 a ha).2 hg.size⟩⟩

/-- append(list, row). -/
theorem wpList_append_row {ops : Array Oper} {rest : List Oper} {o : Oper} {a : Act} {w : World} {Q : Exit → Act → World → Prop} (hgd : o.guard = none) (s x : Operand)
    (ho : o.op = .call { callee := .builtin .append, args := #[s, x], argTypes := #[55, 55] })
    (base : Nat) (v : Value) (n : Nat) (ps : List (List UInt8)) (hs : a.eval s = v) (hown : Ows w base v n ps) (ad : Addr) (p : List UInt8) (m : Nat) (ap : Option Addr) (cp : Nat) (hm : m = p.length) (hx : a.eval x = .slice (some ad) 1 1)
    (hc : w.cell? ad = some (.slice ap m cp)) (hr : Reads w (.slice ap m cp) (bv p)) (hap : ∀ a, ap = some a → some a.block ≠ v.ownBlock ∧ a.block < w.heap.size) (hpl : Hid (m ≤ maxLen))
    (q : Nat) (hq : q = n + 1) (h63 : Hid (q ≤ 1000000000)) (hbase : base ≤ w.heap.size)
    (h : ∀ ao c w', Ows w' base (.slice ao q c) q (ps ++ [p]) → Below base w w' → wpList Try.prog ops Q rest (a.put o.dst (.slice ao q c)) w') : wpList Try.prog ops Q (o :: rest) a w := by
  subst hm hq
  obtain ⟨hn, vs, h2, h3⟩ := hown
  obtain ⟨i0, hi, hz0, hz1, hz2⟩ := info_parts info_row
  have hvl : vs.length = n := by simpa using h2.1
  have hb := h63.out
  refine wpList_plain hgd fun K hK => ?_
  obtain ⟨v', w', hr', e2, e3, _, e5⟩ := run_append_own_at (P := Try.prog) w base 55 o.type 24 i0 (.slice none 0 0) 1 24 Try.underlying55 hi hz0 hz1 hz2 rfl (by decide) v n vs h2 ad 1 1 [.slice ap p.length cp] rfl
    (fun j u hj => by
      cases j with
      | zero => simp at hj; subst hj; simpa [Addr.add] using hc
      | succ j => simp at hj) (by intro u hu; simp at hu; subst hu; rfl) (by unfold maxLen; omega) (by omega) hbase
  obtain ⟨ao, c, rfl⟩ := owns_shape e2
  unfold Oper.wp execOp
  simp only [ho, resolve, invoke, builtin, Sem.run_bind, Sem.run_pure, Result.andThen_ok, List.map_toArray, List.map_cons, List.map_nil, hs, hx, hr']
  have keep : ∀ (bo : Option Addr) (k c' : Nat) (l : List UInt8), Reads w (.slice bo k c') (bv l) → (∀ a, bo = some a → some a.block ≠ v.ownBlock ∧ a.block < w.heap.size) →
      Reads w' (.slice bo k c') (bv l) ∧ ∀ a, bo = some a → some a.block ≠ (Value.slice ao (n + 1) c).ownBlock ∧ a.block < w'.heap.size := by
    intro bo k c' l hrd hbo
    refine ⟨hrd.grown e3 (fun a n c e => ?_), fun a ha => ⟨?_, Nat.lt_of_lt_of_le (hbo a ha).2 e3.size⟩⟩
    · simp only [Value.slice.injEq] at e
      exact (hbo a e.1).1
    · rcases e5 with e | e
      · rw [e]; exact (hbo a ha).1
      · rw [e]
        intro e6
        have := (hbo a ha).2
        simp only [Option.some.injEq] at e6
        omega
  refine hK _ _ (h ao c w' ⟨by rw [hn, List.length_append]; rfl, vs ++ [.slice ap p.length cp], e2, fun j q' hj => ?_⟩ (below_grown_own h2 e3 hbase))
  by_cases hjn : j < n
  · rw [List.getElem?_append_left (by omega)] at hj
    obtain ⟨bo, c', f1, f2, f3, f4⟩ := h3 j q' hj
    obtain ⟨g1, g2⟩ := keep bo _ c' q' f2 f4
    exact ⟨bo, c', by rw [List.getElem?_append_left (by omega)]; exact f1, g1, f3, g2⟩
  · have hjl := (List.getElem?_eq_some_iff.1 hj).1
    simp only [List.length_append, List.length_cons, List.length_nil] at hjl
    obtain rfl : j = n := by omega
    rw [List.getElem?_append_right (by omega)] at hj
    have h0 : j - ps.length = 0 := by omega
    rw [h0] at hj
    simp only [List.getElem?_cons_zero, Option.some.injEq] at hj
    subst hj
    obtain ⟨g1, g2⟩ := keep ap _ cp p hr hap
    refine ⟨ap, cp, ?_, g1, hpl.out, g2⟩
    rw [List.getElem?_append_right (by omega), hvl, Nat.sub_self]
    rfl

end Go.Proofs.Ytabmjjicplomlaa
