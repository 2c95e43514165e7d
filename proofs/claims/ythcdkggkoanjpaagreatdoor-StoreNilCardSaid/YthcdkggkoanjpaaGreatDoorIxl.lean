/- The index's lists: get and put. Numbers and types by name. -/
import Derived.Test.YthcdkggkoanjpaaGreatDoorDig
import Derived.Test.YthcdkggkoanjpaaGreatDoorPrl
import Derived.Sort.Walk0
import Derived.StillTailTactics
import Derived.Test.YthcdkggkoanjpaaGreatDoorWri
import Derived.Test.YthcdkggkoanjpaaGreatDoorPrf
import Derived.Test.YthcdkggkoanjpaaGreatDoorPuw
/- The index's lists: where the entry of a key stands. Numbers and types by name. -/
namespace Go.Proofs.YthcdkggkoanjpaaGreatDoor
open Go.RowKit Go.Lib
set_option maxRecDepth 100000
def hasK (k : ByteArray) (o : Prm) : Bool := decide (o.key = k)
def posI (r : Option Nat) : Int := match r with | none => -1 | some i => (i : Int)
theorem same_key (o : Prm) (k : ByteArray) (c : Nat) (w : World) (hc : w.cell? ⟨c, 0, none⟩ = some (.string k)) :
    Calls Tryz.prog 161 #[.agg #[.string o.key, .string o.val], .pointer (some ⟨c, 0, none⟩)] w fun e w' => e = .returned (.bool (hasK k o)) ∧ Grow w w' := by
  obtain ⟨ok, ov⟩ := o
  have hlt := World.block_lt_of_cell? w _ hc
  have hc' : (w.alloc (.cells #[.string ok, .string ov] 147)).cell? ⟨c, 0, none⟩ = some (.string k) := grow_cell (Below.alloc (Below.refl _ _) (Nat.le_refl _) _ : Grow w _) hc
  have HB : Hid (Grow w (w.alloc (.cells #[.string ok, .string ov] 147))) := Lib.hid (Below.alloc (Below.refl _ _) (Nat.le_refl _) _)
  have hd : (ok.toList == k.toList) = hasK k ⟨ok, ov⟩ := by
    unfold hasK
    rw [Bool.eq_iff_iff, beq_iff_eq, decide_eq_true_eq]
    exact ⟨fun h => text_inj' h, fun h => by simp only at h; rw [h]⟩
  generalize hasK k ⟨ok, ov⟩ = r at hd ⊢
  go_enter Tryz.func161, Tryz.ntmps161
  go_wp2_with fail
  go_ret
  exact ⟨rfl, HB.out⟩
theorem index_func (v : Value) (n : Nat) (E : List Prm) (k : ByteArray) (c : Nat) (w : World) (hc : w.cell? ⟨c, 0, none⟩ = some (.string k)) (hr : Cells w v 2 n (pvs E)) (hn : n = E.length) (hl : n ≤ 1000000) :
    Calls Tryz.prog 160 #[v, .func (.func 161) #[] #[.pointer (some ⟨c, 0, none⟩)]] w fun e w' => e = .returned (.int .i64 (posI (E.findIdx? (hasK k)))) ∧ Grow w w' := by
  obtain ⟨ao, cap, rfl⟩ : ∃ ao cap, v = .slice ao n cap := by obtain ⟨ao, cap, rfl, _⟩ := hr; exact ⟨ao, cap, rfl⟩
  have HR := Lib.hid (And.intro hr (And.intro hc hn))
  clear hr hc hn
  go_enter Tryz.func160, Tryz.ntmps160
  go_wp2_with fail
  go_loopw [8] (fun i wr => ∃ m : Nat, i = .int .i64 m ∧ m ≤ n ∧ Hid (Grow w wr ∧ ∀ j o, j < m → E[j]? = some o → hasK k o = false))
    (fun i _ => n - (RowKit.intOf i).toNat)
  case atStart => exact ⟨0, rfl, Nat.zero_le _, Lib.hid ⟨Grow.refl _, fun j o h _ => by omega⟩⟩
  case round =>
    obtain ⟨m, rfl, hm, hs⟩ := hrel
    by_cases hlt : m < n
    · have h3 : (m : Int) < (n : Int) := by omega
      obtain ⟨a, o, rfl, ho, c0⟩ : ∃ a o, ao = some a ∧ E[m]? = some o ∧ Hid (∀ j u, (pv o)[j]? = some u → wr.cell? (a.add (m * 2 + j)) = some u) := by
        obtain ⟨ao', cap', e, h0, hnc, hnn, hcc⟩ := HR.out.1.later hs.out.1
        simp only [Value.slice.injEq] at e
        obtain ⟨rfl, _, rfl⟩ := e
        have hx : E[m]? = some (E[m]'(by have := HR.out.2.2; omega)) := List.getElem?_eq_getElem _
        generalize E[m]'(by have := HR.out.2.2; omega) = o at hx
        cases ao with
        | none => have := (hnn rfl).1; omega
        | some a => exact ⟨a, o, rfl, hx, Lib.hid fun j u hj => hcc a rfl _ _ (by rw [pvs_at hx j (by have := (List.getElem?_eq_some_iff.1 hj).1; simpa [pv] using this)]; exact hj)⟩
      have l0 : wr.cell? (a.add (m * 2)) = some (.string o.key) := c0.out 0 _ rfl
      have l1 : wr.cell? ⟨(a.add (m * 2)).block, (a.add (m * 2)).off + 1, none⟩ = some (.string o.val) := by
        have := c0.out 1 _ rfl
        rw [← Addr.add_add] at this
        exact this
      have P := same_key o k c wr (grow_cell hs.out.1 HR.out.2.1)
      have HO := Lib.hid ho
      clear ho c0
      obtain ⟨ok, ov⟩ := o
      simp only at l0 l1 P
      generalize hq : hasK k ⟨ok, ov⟩ = r at P
      have HQ := Lib.hid hq
      clear hq
      go_wp2_with fail
      refine P.mono ?_
      rintro e w' ⟨rfl, h1⟩
      cases r with
      | true =>
        go_wp2_with fail
        go_ret
        refine ⟨?_, hs.out.1.trans h1⟩
        have hf : E.findIdx? (hasK k) = some m := by
          refine List.findIdx?_eq_some_iff_getElem.2 ⟨(List.getElem?_eq_some_iff.1 HO.out).1, ?_, ?_⟩
          · rw [(List.getElem?_eq_some_iff.1 HO.out).2]; exact HQ.out
          · intro j hj
            have := hs.out.2 j _ hj (List.getElem?_eq_getElem (by have := (List.getElem?_eq_some_iff.1 HO.out).1; omega))
            simpa using this
        rw [hf]
        rfl
      | false =>
        go_wp2_with fail
        refine ⟨⟨m + 1, by go_num, by omega, Lib.hid ⟨hs.out.1.trans h1, fun j o hj ho => ?_⟩⟩, by simp [RowKit.intOf]; omega⟩
        by_cases e : j = m
        · subst e
          rw [HO.out] at ho
          cases ho
          exact HQ.out
        · exact hs.out.2 j o (by omega) ho
    · have h3 : ¬ (m : Int) < (n : Int) := by omega
      obtain rfl : m = n := by omega
      go_wp2_with fail
      go_ret
      refine ⟨?_, hs.out.1⟩
      rw [List.findIdx?_eq_none_iff.2 (fun o ho => ?_)]
      · rfl
      · obtain ⟨j, hj⟩ := List.getElem?_of_mem ho
        exact hs.out.2 j o (by have := (List.getElem?_eq_some_iff.1 hj).1; have := HR.out.2.2; omega) hj
theorem find_any (p : Addr) (v : Value) (n : Nat) (E : List Prm) (k : ByteArray) (w : World) (hp : w.cell? p = some v) (hr : Cells w v 2 n (pvs E)) (hn : n = E.length) (hl : n ≤ 1000000) :
    Calls Tryz.prog 113 #[.pointer (some p), .string k] w fun e w' => e = .returned (.int .i64 (posI (E.findIdx? (hasK k)))) ∧ Grow w w' := by
  have HB : Hid (Grow w (w.alloc (.cells #[.string k] 9))) := Lib.hid (Below.alloc (Below.refl _ _) (Nat.le_refl _) _)
  have P := index_func v n E k w.heap.size _ (by simp) (hr.later HB.out) hn hl
  have hp' := grow_cell HB.out hp
  clear hr hp
  generalize posI (E.findIdx? (hasK k)) = r at P ⊢
  go_enter Tryz.func113, Tryz.ntmps113
  go_wp2_with fail
  refine P.mono ?_
  rintro e w' ⟨rfl, h1⟩
  go_wp2_with fail
  go_ret
  exact ⟨rfl, HB.out.trans h1⟩
end Go.Proofs.YthcdkggkoanjpaaGreatDoor

namespace Go.Proofs.YthcdkggkoanjpaaGreatDoor
open Go.RowKit Go.Lib
set_option maxRecDepth 100000
def LEnt (w : World) (v : Value) (n : Nat) (E : List Prm) : Prop := n = E.length ∧ w.ownsRow 0 147 2 v n (pvs E)
def Tbl (w : World) (g m : Nat) (sl : List Value) : Prop := w.ownsRow 0 145 1 (.slice (some ⟨g, 0, none⟩) m m) m sl
theorem elemEnt : Elem 145 147 (.agg #[.string ⟨#[]⟩, .string ⟨#[]⟩]) 2 32 := ⟨Tryz.underlying145, by kernel_rfl, by decide, by decide⟩
theorem row_turnL {w w' : World} {F : List Nat} {base e size : Nat} {v : Value} {n : Nat} {xs : List Value} (h : w.ownsRow base e size v n xs) (t : Turn F w w') (hF : ∀ k, v.ownBlock = some k → k ∉ F) : w'.ownsRow base e size v n xs := by
  obtain ⟨h1, h2 | ⟨g, cap, cur, rfl, hb, hg, hr⟩⟩ := h
  · exact ⟨h1, .inl h2⟩
  · exact ⟨h1, .inr ⟨g, cap, cur, rfl, hb, t.heap hg (hF g rfl), hr⟩⟩
theorem LEnt.shape {w : World} {v : Value} {n : Nat} {E : List Prm} (h : LEnt w v n E) : ∃ ao c, v = .slice ao n c := by
  obtain ⟨_, _, ⟨rfl, rfl⟩ | ⟨g, cap, cur, rfl, _⟩⟩ := h
  · exact ⟨_, _, rfl⟩
  · exact ⟨_, _, rfl⟩
theorem LEnt.cells {w : World} {v : Value} {n : Nat} {E : List Prm} (h : LEnt w v n E) : Cells w v 2 n (pvs E) := Cells.own h.2 (by decide)
theorem LEnt.turn {w w' : World} {F : List Nat} {v : Value} {n : Nat} {E : List Prm} (h : LEnt w v n E) (t : Turn F w w') (hF : ∀ k, v.ownBlock = some k → k ∉ F) : LEnt w' v n E := ⟨h.1, row_turnL h.2 t hF⟩
theorem Tbl.turn {w w' : World} {F : List Nat} {g m : Nat} {sl : List Value} (h : Tbl w g m sl) (t : Turn F w w') (hF : g ∉ F) : Tbl w' g m sl := row_turnL h t fun k e => by cases e; exact hF
theorem Tbl.cell {w : World} {g m : Nat} {sl : List Value} (h : Tbl w g m sl) {i : Nat} {v : Value} (hi : sl[i]? = some v) : w.cell? ⟨g, i, none⟩ = some v := by
  have hlt := (List.getElem?_eq_some_iff.1 hi).1
  have := h.1
  exact (World.ownsRow.cellAt h i (by omega)).trans hi
theorem Tbl.free {w : World} {g m : Nat} {sl : List Value} (h : Tbl w g m sl) (i : Nat) : w.frozen? ⟨g, i, none⟩ = false := World.ownsRow.frozenAt h i
theorem LEnt.at {w : World} {v : Value} {n : Nat} {E : List Prm} (h : LEnt w v n E) {j : Nat} {o : Prm} (ho : E[j]? = some o) :
    ∃ g c, v = .slice (some ⟨g, 0, none⟩) n c ∧ j < n ∧ w.cell? ⟨g, j * 2, none⟩ = some (.string o.key) ∧ w.cell? ⟨g, j * 2 + 1, none⟩ = some (.string o.val) ∧ w.frozen? ⟨g, j * 2 + 1, none⟩ = false := by
  have hlt := (List.getElem?_eq_some_iff.1 ho).1
  obtain ⟨h1, h2⟩ := h
  obtain ⟨hl, ⟨rfl, rfl⟩ | ⟨g, cap, cur, rfl, hr⟩⟩ := id h2
  · omega
  · refine ⟨g, cap, rfl, by omega, ?_, ?_, World.ownsRow.frozenAt h2 _⟩
    · rw [World.ownsRow.cellAt h2 _ (by omega)]
      have := pvs_at ho 0 (by omega)
      rw [Nat.add_zero] at this
      rw [this]; rfl
    · rw [World.ownsRow.cellAt h2 _ (by omega), pvs_at ho 1 (by omega)]; rfl
theorem set_sameL {α : Type} {L : List α} {i : Nat} {v : α} (h : L[i]? = some v) : L.set i v = L := by
  apply List.ext_getElem?
  intro j
  rw [List.getElem?_set]
  split
  · next e => subst e; split
              · exact h.symm
              · next hl => rw [List.getElem?_eq_none (by omega)]
  · rfl
theorem put_after {w w' w6 : World} {o : Obj} {v : Value} (t : Turn [] w w') (hg : (w'.alloc o).grownBy w6 v.ownBlock) : Turn v.ownBlock.toList w w6 :=
  ((t.alloc o).mono (by simp)).trans (Turn.of_grown hg (by intro q e; rw [e]; simp))
theorem find_of {E : List Prm} {k : ByteArray} {j : Nat} (h : E.findIdx? (hasK k) = some j) : ∃ o, E[j]? = some o ∧ o.key = k ∧ findP E k = (o.val, true) := by
  obtain ⟨h1, h2, h3⟩ := List.findIdx?_eq_some_iff_getElem.1 h
  refine ⟨E[j], List.getElem?_eq_getElem h1, of_decide_eq_true h2, ?_⟩
  unfold findP
  have : E.find? (fun o => decide (o.key = k)) = some E[j] := List.find?_eq_some_iff_getElem.2 ⟨h2, j, h1, rfl, fun i hi => by simpa [hasK] using h3 i hi⟩
  rw [this]
theorem find_no {E : List Prm} {k : ByteArray} (h : E.findIdx? (hasK k) = none) : findP E k = (⟨#[]⟩, false) := by
  unfold findP
  have : E.find? (fun o => decide (o.key = k)) = none := by
    rw [List.find?_eq_none]
    intro x hx
    simpa [hasK] using (List.findIdx?_eq_none_iff.1 h) x hx
  rw [this]
theorem lget_any (p : Addr) (v : Value) (n : Nat) (E : List Prm) (k : ByteArray) (w : World) (hp : w.cell? p = some v) (hr : LEnt w v n E) (hl : n ≤ 1000000) :
    Calls Tryz.prog 100 #[.pointer (some p), .string k] w fun e w' => e = .returned (.tuple #[.string (findP E k).1, .bool (findP E k).2]) ∧ Grow w w' := by
  have P := find_any p v n E k w hp hr.cells hr.1 hl
  have HR := Lib.hid (And.intro hr hp)
  clear hr hp
  cases hf : E.findIdx? (hasK k) with
  | none =>
    rw [hf] at P
    rw [find_no hf]
    unfold posI at P
    simp only at P
    clear hf
    go_enter Tryz.func100, Tryz.ntmps100
    go_wp2_with fail
    refine P.mono ?_
    rintro e w' ⟨rfl, h1⟩
    go_wp2_with fail
    go_ret2
    exact ⟨rfl, h1⟩
  | some j =>
    rw [hf] at P
    obtain ⟨o, ho, _, hv⟩ := find_of hf
    rw [hv]
    unfold posI at P
    simp only at P
    clear hf hv
    go_enter Tryz.func100, Tryz.ntmps100
    go_wp2_with fail
    refine P.mono ?_
    rintro e w' ⟨rfl, h1⟩
    obtain ⟨g, c, rfl, hjn, c0, c1, _⟩ := HR.out.1.at ho
    have c1' := grow_cell h1 c1
    have p1 := grow_cell h1 HR.out.2
    have h3 : ¬ (j : Int) < 0 := by omega
    have h4 : (j : Int) < (n : Int) := by omega
    clear ho c0 c1 P
    go_wp2_with fail
    go_ret2
    exact ⟨rfl, h1⟩
def lputE (E : List Prm) (k v : ByteArray) : List Prm := match E.findIdx? (hasK k) with | some j => E.set j ⟨k, v⟩ | none => E ++ [⟨k, v⟩]
def LNext (w w' : World) (g m : Nat) (sl : List Value) (i : Nat) (v : Value) (E' : List Prm) : Prop :=
  ∃ v' n', Tbl w' g m (sl.set i v') ∧ LEnt w' v' n' E' ∧ Turn (g :: v.ownBlock.toList) w w' ∧ (v'.ownBlock = v.ownBlock ∨ ∃ c, v'.ownBlock = some c ∧ w.heap.size ≤ c)
set_option maxHeartbeats 4000000 in
theorem lput_any (g m i : Nat) (sl : List Value) (v : Value) (n : Nat) (E : List Prm) (k x : ByteArray) (w : World) (hT : Tbl w g m sl) (hi : sl[i]? = some v) (hr : LEnt w v n E) (hne : v.ownBlock ≠ some g) (hl : n < 900000) :
    Calls Tryz.prog 70 #[.pointer (some ⟨g, i, none⟩), .string k, .string x] w fun e w' => e = .returned (.tuple #[]) ∧ LNext w w' g m sl i v (lputE E k x) := by
  have P := find_any ⟨g, i, none⟩ v n E k w (hT.cell hi) hr.cells hr.1 (by omega)
  have HR := Lib.hid (And.intro hr (And.intro hT (And.intro hi hne)))
  clear hr hT hi hne
  cases hf : E.findIdx? (hasK k) with
  | some j =>
    rw [hf] at P
    obtain ⟨o, ho, hk, _⟩ := find_of hf
    have HE : Hid (lputE E k x = E.set j ⟨k, x⟩) := Lib.hid (by unfold lputE; rw [hf])
    unfold posI at P
    simp only at P
    clear hf
    go_enter Tryz.func70, Tryz.ntmps70
    go_wp2_with fail
    refine P.mono ?_
    rintro e w' ⟨rfl, h1⟩
    have t1 := (Turn.mono ⟨h1.os, h1.tape, h1.output, h1.size, fun k hk _ => h1.block k hk⟩ (fun _ h => h) : Turn [] w w')
    have hr' := HR.out.1.turn t1 (by simp)
    obtain ⟨g2, c, rfl, hjn, c0, c1, f1⟩ := hr'.at ho
    have hT' := HR.out.2.1.turn t1 (by simp)
    have p1 := hT'.cell HR.out.2.2.1
    have h3 : (0 : Int) ≤ (j : Int) := by omega
    have h4 : (j : Int) < (n : Int) := by omega
    have HX := Lib.hid (And.intro hr' (And.intro hT' (And.intro ho (And.intro hk (And.intro t1 c0)))))
    clear hr' hT' ho hk P h1 t1 c0
    go_wp2_with fail
    (try simp only [Exit.inBlock, Exit.then]); refine bodyPost_ret (results_none rfl _ _ _) rfl ?_
    obtain ⟨hr', hT', ho, hk, t1, c0⟩ := HX.out
    have hne : g2 ≠ g := fun e => HR.out.2.2.2 (by rw [e]; rfl)
    have e1 : sl.set i (.slice (some ⟨g2, 0, none⟩) n c) = sl := set_sameL HR.out.2.2.1
    refine ⟨rfl, .slice (some ⟨g2, 0, none⟩) n c, n, ?_, ?_, ?_, .inl rfl⟩
    · rw [e1]
      exact hT'.turn (Turn.set (F := [g2]) (Turn.refl _ _) (.inl (by simp)) _ _) (by simp; omega)
    · rw [HE.out]
      have hjl : j < E.length := (List.getElem?_eq_some_iff.1 ho).1
      refine ⟨by rw [List.length_set]; exact hr'.1, ?_⟩
      rw [pvs_set _ hjl]
      have e2 : (pvs E).set (j * 2) (.string k) = pvs E := by
        apply set_sameL
        have := pvs_at ho 0 (by omega)
        rw [Nat.add_zero] at this
        rw [this]
        simp [pv, hk]
      simp only [e2]
      exact own_set hr'.2 _ _
    · exact (t1.mono (by simp)).set (.inl (by simp [Value.ownBlock])) _ _
  | none =>
    rw [hf] at P
    have HE : Hid (lputE E k x = E ++ [⟨k, x⟩]) := Lib.hid (by unfold lputE; rw [hf])
    unfold posI at P
    simp only at P
    clear hf
    go_enter Tryz.func70, Tryz.ntmps70
    go_wp2_with fail
    refine P.mono ?_
    rintro e w' ⟨rfl, h1⟩
    have t1 := (Turn.mono ⟨h1.os, h1.tape, h1.output, h1.size, fun k hk _ => h1.block k hk⟩ (fun _ h => h) : Turn [] w w')
    have hr' := HR.out.1.turn t1 (by simp)
    have hT' := HR.out.2.1.turn t1 (by simp)
    have p1 := hT'.cell HR.out.2.2.1
    obtain ⟨ao, c, rfl⟩ := hr'.shape
    have FL : Hid (n + 1 ≤ 1000000) := Lib.hid (by omega)
    have e2 : pvs (E ++ [⟨k, x⟩]) = pvs E ++ pv ⟨k, x⟩ := by simp [pvs]
    have HX := Lib.hid (And.intro hr' (And.intro hT' (And.intro t1 e2)))
    clear hr' hT' P h1 t1 e2
    go_wp2_with (at_builtin; (refine wpList_append_gen elemEnt rfl (.tmp 22) (.tmp 26) rfl 0 _ n _ rfl (own_alloc HX.out.1.2 _) _ 1 (pv ⟨k, x⟩) rfl (Cells.lit _ (pv ⟨k, x⟩) 147 (0, 0) 2 1 rfl) (by intro u hu; simp only [pv, List.mem_cons, List.not_mem_nil, or_false] at hu; rcases hu with rfl | rfl <;> rfl) (n + 1) rfl FL (by decide) (Nat.zero_le _) ?_; intro ao6 c6 w6 hown6 hb6 hg6 ho6; have t6 := put_after (v := .slice ao n c) HX.out.2.2.1 hg6; have hT6 := HR.out.2.1.turn t6 (by simpa using fun e => HR.out.2.2.2 e); have p6 := hT6.cell HR.out.2.2.1; have f6 := hT6.free i; have HA := Lib.hid (And.intro hown6 (And.intro t6 (And.intro hT6 ho6))); clear hown6 hb6 hg6 ho6 t6 hT6))
    go_end0
    obtain ⟨hown6, t6, hT6, ho6⟩ := HA.out
    refine ⟨rfl, .slice ao6 (n + 1) c6, n + 1, own_set hT6 _ _, ?_, ?_, ?_⟩
    · rw [HE.out]
      refine ⟨by rw [List.length_append, ← HX.out.1.1]; rfl, ?_⟩
      rw [HX.out.2.2.2]
      refine row_turnL hown6 (Turn.set (F := [g]) (Turn.refl _ _) (.inl (by simp)) _ _) (fun q hq e => ?_)
      have e : q = g := by simpa using e
      rw [e] at hq
      rcases ho6 with h | h
      · exact HR.out.2.2.2 (h.symm.trans hq)
      · rw [h] at hq
        have := (HR.out.2.1.lt g rfl).2
        have := HX.out.2.2.1.size
        simp only [Option.some.injEq, World.size_alloc] at hq
        omega
    · exact (t6.mono fun q hq => List.mem_cons_of_mem _ hq).set (.inl (by simp)) _ _
    · rcases ho6 with h | h
      · exact .inl h
      · exact .inr ⟨_, h, by have := HX.out.2.2.1.size; simp; omega⟩
end Go.Proofs.YthcdkggkoanjpaaGreatDoor
