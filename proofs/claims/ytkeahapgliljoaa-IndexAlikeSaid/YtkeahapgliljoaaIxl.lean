/- The index's lists: get and put. Numbers and types by name. -/
import Derived.Test.YtkeahapgliljoaaIxf
namespace Go.Proofs.Ytkeahapgliljoaa
open Go.RowKit Go.Lib
set_option maxRecDepth 100000

def Ent (w : World) (v : Value) (n : Nat) (E : List Prm) : Prop := n = E.length ∧ w.ownsRow 0 56 2 v n (pvs E)
def Tbl (w : World) (g m : Nat) (sl : List Value) : Prop := w.ownsRow 0 54 1 (.slice (some ⟨g, 0, none⟩) m m) m sl
theorem elemEnt : Elem 54 56 (.agg #[.string ⟨#[]⟩, .string ⟨#[]⟩]) 2 32 := ⟨Try.underlying54, by kernel_rfl, by decide, by decide⟩

theorem row_turn {w w' : World} {F : List Nat} {base e size : Nat} {v : Value} {n : Nat} {xs : List Value} (h : w.ownsRow base e size v n xs) (t : Turn F w w') (hF : ∀ k, v.ownBlock = some k → k ∉ F) : w'.ownsRow base e size v n xs := by
  obtain ⟨h1, h2 | ⟨g, cap, cur, rfl, hb, hg, hr⟩⟩ := h
  · exact ⟨h1, .inl h2⟩
  · exact ⟨h1, .inr ⟨g, cap, cur, rfl, hb, t.heap hg (hF g rfl), hr⟩⟩
theorem Ent.shape {w : World} {v : Value} {n : Nat} {E : List Prm} (h : Ent w v n E) : ∃ ao c, v = .slice ao n c := by
  obtain ⟨_, _, ⟨rfl, rfl⟩ | ⟨g, cap, cur, rfl, _⟩⟩ := h
  · exact ⟨_, _, rfl⟩
  · exact ⟨_, _, rfl⟩
theorem Ent.cells {w : World} {v : Value} {n : Nat} {E : List Prm} (h : Ent w v n E) : Cells w v 2 n (pvs E) := Cells.own h.2 (by decide)
theorem Ent.turn {w w' : World} {F : List Nat} {v : Value} {n : Nat} {E : List Prm} (h : Ent w v n E) (t : Turn F w w') (hF : ∀ k, v.ownBlock = some k → k ∉ F) : Ent w' v n E := ⟨h.1, row_turn h.2 t hF⟩
theorem Tbl.turn {w w' : World} {F : List Nat} {g m : Nat} {sl : List Value} (h : Tbl w g m sl) (t : Turn F w w') (hF : g ∉ F) : Tbl w' g m sl := row_turn h t fun k e => by cases e; exact hF
theorem Tbl.cell {w : World} {g m : Nat} {sl : List Value} (h : Tbl w g m sl) {i : Nat} {v : Value} (hi : sl[i]? = some v) : w.cell? ⟨g, i, none⟩ = some v := by
  have hlt := (List.getElem?_eq_some_iff.1 hi).1
  have := h.1
  exact (World.ownsRow.cellAt h i (by omega)).trans hi
theorem Tbl.free {w : World} {g m : Nat} {sl : List Value} (h : Tbl w g m sl) (i : Nat) : w.frozen? ⟨g, i, none⟩ = false := World.ownsRow.frozenAt h i
theorem Ent.at {w : World} {v : Value} {n : Nat} {E : List Prm} (h : Ent w v n E) {j : Nat} {o : Prm} (ho : E[j]? = some o) :
    ∃ g c, v = .slice (some ⟨g, 0, none⟩) n c ∧ j < n ∧ w.cell? ⟨g, j * 2, none⟩ = some (.string o.key) ∧ w.cell? ⟨g, j * 2 + 1, none⟩ = some (.string o.val) ∧ w.frozen? ⟨g, j * 2 + 1, none⟩ = false := by
  have hlt := (List.getElem?_eq_some_iff.1 ho).1
  obtain ⟨h1, h2⟩ := h
  obtain ⟨hl, ⟨rfl, rfl⟩ | ⟨g, cap, cur, rfl, hr⟩⟩ := id h2
  · omega
  · refine ⟨g, cap, rfl, by omega, ?_, ?_, World.ownsRow.frozenAt h2 _⟩
    · rw [World.ownsRow.cellAt h2 _ (by omega)]
      have := pvs_at ho 0 (by omega)
      rw [Nat.add_zero] at this
      rw [this]; rfl
    · rw [World.ownsRow.cellAt h2 _ (by omega), pvs_at ho 1 (by omega)]; rfl

theorem set_same {α : Type} {L : List α} {i : Nat} {v : α} (h : L[i]? = some v) : L.set i v = L := by
  apply List.ext_getElem?
  intro j
  rw [List.getElem?_set]
  split
  · next e => subst e; split
              · exact h.symm
              · next hl => rw [List.getElem?_eq_none (by omega)]
  · rfl
theorem put_after {w w' w6 : World} {o : Obj} {v : Value} (t : Turn [] w w') (hg : (w'.alloc o).grownBy w6 v.ownBlock) : Turn v.ownBlock.toList w w6 :=
  ((t.alloc o).mono (by simp)).trans (Turn.of_grown hg (by intro q e; rw [e]; simp))
theorem find_of {E : List Prm} {k : ByteArray} {j : Nat} (h : E.findIdx? (hasK k) = some j) : ∃ o, E[j]? = some o ∧ o.key = k ∧ findP E k = (o.val, true) := by
  obtain ⟨h1, h2, h3⟩ := List.findIdx?_eq_some_iff_getElem.1 h
  refine ⟨E[j], List.getElem?_eq_getElem h1, of_decide_eq_true h2, ?_⟩
  unfold findP
  have : E.find? (fun o => decide (o.key = k)) = some E[j] := List.find?_eq_some_iff_getElem.2 ⟨h2, j, h1, rfl, fun i hi => by simpa [hasK] using h3 i hi⟩
  rw [this]
theorem find_no {E : List Prm} {k : ByteArray} (h : E.findIdx? (hasK k) = none) : findP E k = (⟨#[]⟩, false) := by
  unfold findP
  have : E.find? (fun o => decide (o.key = k)) = none := by
    rw [List.find?_eq_none]
    intro x hx
    simpa [hasK] using (List.findIdx?_eq_none_iff.1 h) x hx
  rw [this]

/-- The value of a key. -/
theorem lget_any (p : Addr) (v : Value) (n : Nat) (E : List Prm) (k : ByteArray) (w : World) (hp : w.cell? p = some v) (hr : Ent w v n E) (hl : n ≤ 1000000) :
    Calls Try.prog 20 #[.pointer (some p), .string k] w fun e w' => e = .returned (.tuple #[.string (findP E k).1, .bool (findP E k).2]) ∧ Grow w w' := by
  have P := find_any p v n E k w hp hr.cells hr.1 hl
  have HR := Lib.hid (And.intro hr hp)
  clear hr hp
  cases hf : E.findIdx? (hasK k) with
  | none =>
    rw [hf] at P
    rw [find_no hf]
    unfold posI at P
    simp only at P
    clear hf
    go_enter Try.func20, Try.ntmps20
    go_wp2_with fail
    refine P.mono ?_
    rintro e w' ⟨rfl, h1⟩
    go_wp2_with fail
    go_ret2
    exact ⟨rfl, h1⟩
  | some j =>
    rw [hf] at P
    obtain ⟨o, ho, _, hv⟩ := find_of hf
    rw [hv]
    unfold posI at P
    simp only at P
    clear hf hv
    go_enter Try.func20, Try.ntmps20
    go_wp2_with fail
    refine P.mono ?_
    rintro e w' ⟨rfl, h1⟩
    obtain ⟨g, c, rfl, hjn, c0, c1, _⟩ := HR.out.1.at ho
    have c1' := grow_cell h1 c1
    have p1 := grow_cell h1 HR.out.2
    have h3 : ¬ (j : Int) < 0 := by omega
    have h4 : (j : Int) < (n : Int) := by omega
    clear ho c0 c1 P
    go_wp2_with fail
    go_ret2
    exact ⟨rfl, h1⟩

/-- What Put leaves of a list. -/
def putE (E : List Prm) (k v : ByteArray) : List Prm := match E.findIdx? (hasK k) with | some j => E.set j ⟨k, v⟩ | none => E ++ [⟨k, v⟩]
/-- A list of the table was changed. -/
def LNext (w w' : World) (g m : Nat) (sl : List Value) (i : Nat) (v : Value) (E' : List Prm) : Prop :=
  ∃ v' n', Tbl w' g m (sl.set i v') ∧ Ent w' v' n' E' ∧ Turn (g :: v.ownBlock.toList) w w' ∧ (v'.ownBlock = v.ownBlock ∨ ∃ c, v'.ownBlock = some c ∧ w.heap.size ≤ c)

set_option maxHeartbeats 4000000 in
theorem lput_any (g m i : Nat) (sl : List Value) (v : Value) (n : Nat) (E : List Prm) (k x : ByteArray) (w : World) (hT : Tbl w g m sl) (hi : sl[i]? = some v) (hr : Ent w v n E) (hne : v.ownBlock ≠ some g) (hl : n < 900000) :
    Calls Try.prog 18 #[.pointer (some ⟨g, i, none⟩), .string k, .string x] w fun e w' => e = .returned (.tuple #[]) ∧ LNext w w' g m sl i v (putE E k x) := by
  have P := find_any ⟨g, i, none⟩ v n E k w (hT.cell hi) hr.cells hr.1 (by omega)
  have HR := Lib.hid (And.intro hr (And.intro hT (And.intro hi hne)))
  clear hr hT hi hne
  cases hf : E.findIdx? (hasK k) with
  | some j =>
    rw [hf] at P
    obtain ⟨o, ho, hk, _⟩ := find_of hf
    have HE : Hid (putE E k x = E.set j ⟨k, x⟩) := Lib.hid (by unfold putE; rw [hf])
    unfold posI at P
    simp only at P
    clear hf
    go_enter Try.func18, Try.ntmps18
    go_wp2_with fail
    refine P.mono ?_
    rintro e w' ⟨rfl, h1⟩
    have t1 := (Turn.mono ⟨h1.os, h1.tape, h1.output, h1.size, fun k hk _ => h1.block k hk⟩ (fun _ h => h) : Turn [] w w')
    have hr' := HR.out.1.turn t1 (by simp)
    obtain ⟨g2, c, rfl, hjn, c0, c1, f1⟩ := hr'.at ho
    have hT' := HR.out.2.1.turn t1 (by simp)
    have p1 := hT'.cell HR.out.2.2.1
    have h3 : (0 : Int) ≤ (j : Int) := by omega
    have h4 : (j : Int) < (n : Int) := by omega
    have HX := Lib.hid (And.intro hr' (And.intro hT' (And.intro ho (And.intro hk (And.intro t1 c0)))))
    clear hr' hT' ho hk P h1 t1 c0
    go_wp2_with fail
    (try simp only [Exit.inBlock, Exit.then]); refine bodyPost_ret (results_none rfl _ _ _) rfl ?_
    obtain ⟨hr', hT', ho, hk, t1, c0⟩ := HX.out
    have hne : g2 ≠ g := fun e => HR.out.2.2.2 (by rw [e]; rfl)
    have e1 : sl.set i (.slice (some ⟨g2, 0, none⟩) n c) = sl := set_same HR.out.2.2.1
    refine ⟨rfl, .slice (some ⟨g2, 0, none⟩) n c, n, ?_, ?_, ?_, .inl rfl⟩
    · rw [e1]
      exact hT'.turn (Turn.set (F := [g2]) (Turn.refl _ _) (.inl (by simp)) _ _) (by simp; omega)
    · rw [HE.out]
      have hjl : j < E.length := (List.getElem?_eq_some_iff.1 ho).1
      refine ⟨by rw [List.length_set]; exact hr'.1, ?_⟩
      rw [pvs_set _ hjl]
      have e2 : (pvs E).set (j * 2) (.string k) = pvs E := by
        apply set_same
        have := pvs_at ho 0 (by omega)
        rw [Nat.add_zero] at this
        rw [this]
        simp [pv, hk]
      simp only [e2]
      exact own_set hr'.2 _ _
    · exact (t1.mono (by simp)).set (.inl (by simp [Value.ownBlock])) _ _
  | none =>
    rw [hf] at P
    have HE : Hid (putE E k x = E ++ [⟨k, x⟩]) := Lib.hid (by unfold putE; rw [hf])
    unfold posI at P
    simp only at P
    clear hf
    go_enter Try.func18, Try.ntmps18
    go_wp2_with fail
    refine P.mono ?_
    rintro e w' ⟨rfl, h1⟩
    have t1 := (Turn.mono ⟨h1.os, h1.tape, h1.output, h1.size, fun k hk _ => h1.block k hk⟩ (fun _ h => h) : Turn [] w w')
    have hr' := HR.out.1.turn t1 (by simp)
    have hT' := HR.out.2.1.turn t1 (by simp)
    have p1 := hT'.cell HR.out.2.2.1
    obtain ⟨ao, c, rfl⟩ := hr'.shape
    have FL : Hid (n + 1 ≤ 1000000) := Lib.hid (by omega)
    have e2 : pvs (E ++ [⟨k, x⟩]) = pvs E ++ pv ⟨k, x⟩ := by simp [pvs]
    have HX := Lib.hid (And.intro hr' (And.intro hT' (And.intro t1 e2)))
    clear hr' hT' P h1 t1 e2
    go_wp2_with (at_builtin; (refine wpList_append_gen elemEnt rfl (.tmp 22) (.tmp 26) rfl 0 _ n _ rfl (own_alloc HX.out.1.2 _) _ 1 (pv ⟨k, x⟩) rfl (Cells.lit _ (pv ⟨k, x⟩) 56 (0, 0) 2 1 rfl) (by intro u hu; simp only [pv, List.mem_cons, List.not_mem_nil, or_false] at hu; rcases hu with rfl | rfl <;> rfl) (n + 1) rfl FL (by decide) (Nat.zero_le _) ?_; intro ao6 c6 w6 hown6 hb6 hg6 ho6; have t6 := put_after (v := .slice ao n c) HX.out.2.2.1 hg6; have hT6 := HR.out.2.1.turn t6 (by simpa using fun e => HR.out.2.2.2 e); have p6 := hT6.cell HR.out.2.2.1; have f6 := hT6.free i; have HA := Lib.hid (And.intro hown6 (And.intro t6 (And.intro hT6 ho6))); clear hown6 hb6 hg6 ho6 t6 hT6))
    go_end0
    obtain ⟨hown6, t6, hT6, ho6⟩ := HA.out
    refine ⟨rfl, .slice ao6 (n + 1) c6, n + 1, own_set hT6 _ _, ?_, ?_, ?_⟩
    · rw [HE.out]
      refine ⟨by rw [List.length_append, ← HX.out.1.1]; rfl, ?_⟩
      rw [HX.out.2.2.2]
      refine row_turn hown6 (Turn.set (F := [g]) (Turn.refl _ _) (.inl (by simp)) _ _) (fun q hq e => ?_)
      have e : q = g := by simpa using e
      rw [e] at hq
      rcases ho6 with h | h
      · exact HR.out.2.2.2 (h.symm.trans hq)
      · rw [h] at hq
        have := (HR.out.2.1.lt g rfl).2
        have := HX.out.2.2.1.size
        simp only [Option.some.injEq, World.size_alloc] at hq
        omega
    · exact (t6.mono fun q hq => List.mem_cons_of_mem _ hq).set (.inl (by simp)) _ _
    · rcases ho6 with h | h
      · exact .inl h
      · exact .inr ⟨_, h, by have := HX.out.2.2.1.size; simp; omega⟩

end Go.Proofs.Ytkeahapgliljoaa
