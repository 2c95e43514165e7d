/- The index's lists: slices.Delete, del. Numbers and types by name. -/
import Derived.Test.YthcdkggkoanjpaaGreatDoorWft
import Derived.Test.YthcdkggkoanjpaaGreatDoorBtc
import Derived.Test.YthcdkggkoanjpaaGreatDoorRop
import Derived.Test.YthcdkggkoanjpaaGreatDoorFrp
import Derived.Sort.Walk0
import Derived.StillTailTactics
import Derived.Test.YthcdkggkoanjpaaGreatDoorCop
import Derived.Test.YthcdkggkoanjpaaGreatDoorPuw
import Derived.Lib.SliceRun
namespace Go.Proofs.YthcdkggkoanjpaaGreatDoor
open Go.RowKit Go.Lib
def Fit2 (M : MD) (n : Nat) (s : Bool) : Prop := s = false → M.dw = false → Has M n
theorem Fits.two {M : MD} {n : Nat} {s : Bool} (h : Fits M n s) : Fit2 M n s := fun hs _ => h hs
theorem act_up {M : MD} {op : Opn} (h : (M.act op).2.dw = false) : M.dw = false := by
  cases hd : M.dw with
  | false => rfl
  | true =>
    rw [act_down hd] at h
    rw [← hd]
    exact h
theorem act_ok_up {M : MD} {op : Opn} (h : (M.act op).1 = 0) : (M.act op).2.dw = false := by
  cases hd : M.dw with
  | true =>
    rw [act_down hd] at h
    cases h
  | false =>
    rcases act_cases hd op with ⟨a1, _⟩ | ⟨_, a2, _⟩ | ⟨_, a2, _⟩
    · rw [h] at a1
      cases a1
    · exact a2
    · exact a2
theorem run_up : ∀ (l : List Opn) (M : MD), (runOps l M).2.dw = false → M.dw = false
  | [], _, h => h
  | op :: l, M, h => by
    rw [runOps_one] at h
    split at h
    · exact act_up (run_up l _ h)
    · exact act_up h
theorem run_ok_up : ∀ (l : List Opn) (M : MD), (runOps l M).1 = 0 → M.dw = false → (runOps l M).2.dw = false
  | [], _, _, hd => hd
  | op :: l, M, h, _ => by
    rw [runOps_one] at h ⊢
    split at h
    · rename_i h0
      rw [if_pos h0]
      exact run_ok_up l _ h (act_ok_up h0)
    · rename_i h0
      exact absurd h h0
theorem save_up {M : MD} {L : List Prm} (h : (saveT M L).1 = 0) : (saveT M L).2.dw = false := by
  unfold saveT at *
  split at h
  · rename_i hR
    rw [if_pos hR]
    unfold saveP at *
    refine run_ok_up _ _ h ?_
    cases hd : M.dw with
    | false => rfl
    | true =>
      exfalso
      unfold saveOps at h
      split at h
      · rw [List.cons_append, runOps_one, act_down hd, if_neg (show ¬ (7 : Int) = 0 by decide)] at h
        cases h
      · rw [List.nil_append, runOps_one, act_down hd, if_neg (show ¬ (7 : Int) = 0 by decide)] at h
        cases h
  · cases h
theorem fit2_save {M : MD} {n : Nat} {s : Bool} (h : Fit2 M n s) (hr : Rising M.fs) (L : List Prm) : Fit2 (saveT M L).2 n s := by
  intro hs hd
  have hd0 : M.dw = false := by
    unfold saveT at hd
    split at hd
    · exact run_up _ _ hd
    · exact hd
  obtain ⟨_, x, h1, h2⟩ := h hs hd0
  exact ⟨hd, x, (saveT_log hr L).trans h1, h2⟩
theorem fits_save {M : MD} {n : Nat} {s : Bool} (h : Fit2 M n s) (hr : Rising M.fs) {L : List Prm} (h0 : (saveT M L).1 = 0) : Fits (saveT M L).2 n s := fun hs => fit2_save h hr L hs (save_up h0)
theorem fit2_commit {M : MD} {n : Nat} {s : Bool} (h : Fit2 M n s) (L : List Opm) : Fit2 (commitP M n s L).M (commitP M n s L).n (commitP M n s L).s := by
  cases hd : M.dw with
  | false => exact (fits_commit (fun hs => h hs hd) L).two
  | true =>
    unfold commitP
    cases s with
    | true =>
      rw [if_pos rfl]
      intro hs
      cases hs
    | false =>
      rw [if_neg (by simp)]
      split
      · exact h
      · unfold commitA
        rw [act_down hd, if_neg (show ¬ (7 : Int) = 0 by decide)]
        unfold commitC
        rw [if_pos rfl]
        intro hs
        cases hs
end Go.Proofs.YthcdkggkoanjpaaGreatDoor
namespace Go.Proofs.YthcdkggkoanjpaaGreatDoor
open Go.RowKit Go.Lib
set_option maxRecDepth 100000
def hasK (k : ByteArray) (o : Prm) : Bool := decide (o.key = k)
def posI (r : Option Nat) : Int := match r with | none => -1 | some i => (i : Int)
theorem same_key (o : Prm) (k : ByteArray) (c : Nat) (w : World) (hc : w.cell? ⟨c, 0, none⟩ = some (.string k)) :
    Calls Tryz.prog 161 #[.agg #[.string o.key, .string o.val], .pointer (some ⟨c, 0, none⟩)] w fun e w' => e = .returned (.bool (hasK k o)) ∧ Grow w w' := by
  obtain ⟨ok, ov⟩ := o
  have hlt := World.block_lt_of_cell? w _ hc
  have hc' : (w.alloc (.cells #[.string ok, .string ov] 147)).cell? ⟨c, 0, none⟩ = some (.string k) := grow_cell (Below.alloc (Below.refl _ _) (Nat.le_refl _) _ : Grow w _) hc
  have HB : Hid (Grow w (w.alloc (.cells #[.string ok, .string ov] 147))) := Lib.hid (Below.alloc (Below.refl _ _) (Nat.le_refl _) _)
  have hd : (ok.toList == k.toList) = hasK k ⟨ok, ov⟩ := by
    unfold hasK
    rw [Bool.eq_iff_iff, beq_iff_eq, decide_eq_true_eq]
    exact ⟨fun h => text_inj' h, fun h => by simp only at h; rw [h]⟩
  generalize hasK k ⟨ok, ov⟩ = r at hd ⊢
  go_enter Tryz.func161, Tryz.ntmps161
  go_wp2_with fail
  go_ret
  exact ⟨rfl, HB.out⟩
theorem index_func (v : Value) (n : Nat) (E : List Prm) (k : ByteArray) (c : Nat) (w : World) (hc : w.cell? ⟨c, 0, none⟩ = some (.string k)) (hr : Cells w v 2 n (pvs E)) (hn : n = E.length) (hl : n ≤ 1000000) :
    Calls Tryz.prog 160 #[v, .func (.func 161) #[] #[.pointer (some ⟨c, 0, none⟩)]] w fun e w' => e = .returned (.int .i64 (posI (E.findIdx? (hasK k)))) ∧ Grow w w' := by
  obtain ⟨ao, cap, rfl⟩ : ∃ ao cap, v = .slice ao n cap := by obtain ⟨ao, cap, rfl, _⟩ := hr; exact ⟨ao, cap, rfl⟩
  have HR := Lib.hid (And.intro hr (And.intro hc hn))
  clear hr hc hn
  go_enter Tryz.func160, Tryz.ntmps160
  go_wp2_with fail
  go_loopw [8] (fun i wr => ∃ m : Nat, i = .int .i64 m ∧ m ≤ n ∧ Hid (Grow w wr ∧ ∀ j o, j < m → E[j]? = some o → hasK k o = false))
    (fun i _ => n - (RowKit.intOf i).toNat)
  case atStart => exact ⟨0, rfl, Nat.zero_le _, Lib.hid ⟨Grow.refl _, fun j o h _ => by omega⟩⟩
  case round =>
    obtain ⟨m, rfl, hm, hs⟩ := hrel
    by_cases hlt : m < n
    · have h3 : (m : Int) < (n : Int) := by omega
      obtain ⟨a, o, rfl, ho, c0⟩ : ∃ a o, ao = some a ∧ E[m]? = some o ∧ Hid (∀ j u, (pv o)[j]? = some u → wr.cell? (a.add (m * 2 + j)) = some u) := by
        obtain ⟨ao', cap', e, h0, hnc, hnn, hcc⟩ := HR.out.1.later hs.out.1
        simp only [Value.slice.injEq] at e
        obtain ⟨rfl, _, rfl⟩ := e
        have hx : E[m]? = some (E[m]'(by have := HR.out.2.2; omega)) := List.getElem?_eq_getElem _
        generalize E[m]'(by have := HR.out.2.2; omega) = o at hx
        cases ao with
        | none => have := (hnn rfl).1; omega
        | some a => exact ⟨a, o, rfl, hx, Lib.hid fun j u hj => hcc a rfl _ _ (by rw [pvs_at hx j (by have := (List.getElem?_eq_some_iff.1 hj).1; simpa [pv] using this)]; exact hj)⟩
      have l0 : wr.cell? (a.add (m * 2)) = some (.string o.key) := c0.out 0 _ rfl
      have l1 : wr.cell? ⟨(a.add (m * 2)).block, (a.add (m * 2)).off + 1, none⟩ = some (.string o.val) := by
        have := c0.out 1 _ rfl
        rw [← Addr.add_add] at this
        exact this
      have P := same_key o k c wr (grow_cell hs.out.1 HR.out.2.1)
      have HO := Lib.hid ho
      clear ho c0
      obtain ⟨ok, ov⟩ := o
      simp only at l0 l1 P
      generalize hq : hasK k ⟨ok, ov⟩ = r at P
      have HQ := Lib.hid hq
      clear hq
      go_wp2_with fail
      refine P.mono ?_
      rintro e w' ⟨rfl, h1⟩
      cases r with
      | true =>
        go_wp2_with fail
        go_ret
        refine ⟨?_, hs.out.1.trans h1⟩
        have hf : E.findIdx? (hasK k) = some m := by
          refine List.findIdx?_eq_some_iff_getElem.2 ⟨(List.getElem?_eq_some_iff.1 HO.out).1, ?_, ?_⟩
          · rw [(List.getElem?_eq_some_iff.1 HO.out).2]; exact HQ.out
          · intro j hj
            have := hs.out.2 j _ hj (List.getElem?_eq_getElem (by have := (List.getElem?_eq_some_iff.1 HO.out).1; omega))
            simpa using this
        rw [hf]
        rfl
      | false =>
        go_wp2_with fail
        refine ⟨⟨m + 1, by go_num, by omega, Lib.hid ⟨hs.out.1.trans h1, fun j o hj ho => ?_⟩⟩, by simp [RowKit.intOf]; omega⟩
        by_cases e : j = m
        · subst e
          rw [HO.out] at ho
          cases ho
          exact HQ.out
        · exact hs.out.2 j o (by omega) ho
    · have h3 : ¬ (m : Int) < (n : Int) := by omega
      obtain rfl : m = n := by omega
      go_wp2_with fail
      go_ret
      refine ⟨?_, hs.out.1⟩
      rw [List.findIdx?_eq_none_iff.2 (fun o ho => ?_)]
      · rfl
      · obtain ⟨j, hj⟩ := List.getElem?_of_mem ho
        exact hs.out.2 j o (by have := (List.getElem?_eq_some_iff.1 hj).1; have := HR.out.2.2; omega) hj
theorem find_any (p : Addr) (v : Value) (n : Nat) (E : List Prm) (k : ByteArray) (w : World) (hp : w.cell? p = some v) (hr : Cells w v 2 n (pvs E)) (hn : n = E.length) (hl : n ≤ 1000000) :
    Calls Tryz.prog 113 #[.pointer (some p), .string k] w fun e w' => e = .returned (.int .i64 (posI (E.findIdx? (hasK k)))) ∧ Grow w w' := by
  have HB : Hid (Grow w (w.alloc (.cells #[.string k] 9))) := Lib.hid (Below.alloc (Below.refl _ _) (Nat.le_refl _) _)
  have P := index_func v n E k w.heap.size _ (by simp) (hr.later HB.out) hn hl
  have hp' := grow_cell HB.out hp
  clear hr hp
  generalize posI (E.findIdx? (hasK k)) = r at P ⊢
  go_enter Tryz.func113, Tryz.ntmps113
  go_wp2_with fail
  refine P.mono ?_
  rintro e w' ⟨rfl, h1⟩
  go_wp2_with fail
  go_ret
  exact ⟨rfl, HB.out.trans h1⟩
end Go.Proofs.YthcdkggkoanjpaaGreatDoor
namespace Go.Proofs.YthcdkggkoanjpaaGreatDoor
open Go.RowKit Go.Lib
set_option maxRecDepth 100000
def LEnt (w : World) (v : Value) (n : Nat) (E : List Prm) : Prop := n = E.length ∧ w.ownsRow 0 147 2 v n (pvs E)
def Tbl (w : World) (g m : Nat) (sl : List Value) : Prop := w.ownsRow 0 145 1 (.slice (some ⟨g, 0, none⟩) m m) m sl
theorem elemEnt : Elem 145 147 (.agg #[.string ⟨#[]⟩, .string ⟨#[]⟩]) 2 32 := ⟨Tryz.underlying145, by kernel_rfl, by decide, by decide⟩
theorem row_turnL {w w' : World} {F : List Nat} {base e size : Nat} {v : Value} {n : Nat} {xs : List Value} (h : w.ownsRow base e size v n xs) (t : Turn F w w') (hF : ∀ k, v.ownBlock = some k → k ∉ F) : w'.ownsRow base e size v n xs := by
  obtain ⟨h1, h2 | ⟨g, cap, cur, rfl, hb, hg, hr⟩⟩ := h
  · exact ⟨h1, .inl h2⟩
  · exact ⟨h1, .inr ⟨g, cap, cur, rfl, hb, t.heap hg (hF g rfl), hr⟩⟩
theorem LEnt.shape {w : World} {v : Value} {n : Nat} {E : List Prm} (h : LEnt w v n E) : ∃ ao c, v = .slice ao n c := by
  obtain ⟨_, _, ⟨rfl, rfl⟩ | ⟨g, cap, cur, rfl, _⟩⟩ := h
  · exact ⟨_, _, rfl⟩
  · exact ⟨_, _, rfl⟩
theorem LEnt.cells {w : World} {v : Value} {n : Nat} {E : List Prm} (h : LEnt w v n E) : Cells w v 2 n (pvs E) := Cells.own h.2 (by decide)
theorem LEnt.turn {w w' : World} {F : List Nat} {v : Value} {n : Nat} {E : List Prm} (h : LEnt w v n E) (t : Turn F w w') (hF : ∀ k, v.ownBlock = some k → k ∉ F) : LEnt w' v n E := ⟨h.1, row_turnL h.2 t hF⟩
theorem Tbl.turn {w w' : World} {F : List Nat} {g m : Nat} {sl : List Value} (h : Tbl w g m sl) (t : Turn F w w') (hF : g ∉ F) : Tbl w' g m sl := row_turnL h t fun k e => by cases e; exact hF
theorem Tbl.cell {w : World} {g m : Nat} {sl : List Value} (h : Tbl w g m sl) {i : Nat} {v : Value} (hi : sl[i]? = some v) : w.cell? ⟨g, i, none⟩ = some v := by
  have hlt := (List.getElem?_eq_some_iff.1 hi).1
  have := h.1
  exact (World.ownsRow.cellAt h i (by omega)).trans hi
theorem Tbl.free {w : World} {g m : Nat} {sl : List Value} (h : Tbl w g m sl) (i : Nat) : w.frozen? ⟨g, i, none⟩ = false := World.ownsRow.frozenAt h i
theorem LEnt.at {w : World} {v : Value} {n : Nat} {E : List Prm} (h : LEnt w v n E) {j : Nat} {o : Prm} (ho : E[j]? = some o) :
    ∃ g c, v = .slice (some ⟨g, 0, none⟩) n c ∧ j < n ∧ w.cell? ⟨g, j * 2, none⟩ = some (.string o.key) ∧ w.cell? ⟨g, j * 2 + 1, none⟩ = some (.string o.val) ∧ w.frozen? ⟨g, j * 2 + 1, none⟩ = false := by
  have hlt := (List.getElem?_eq_some_iff.1 ho).1
  obtain ⟨h1, h2⟩ := h
  obtain ⟨hl, ⟨rfl, rfl⟩ | ⟨g, cap, cur, rfl, hr⟩⟩ := id h2
  · omega
  · refine ⟨g, cap, rfl, by omega, ?_, ?_, World.ownsRow.frozenAt h2 _⟩
    · rw [World.ownsRow.cellAt h2 _ (by omega)]
      have := pvs_at ho 0 (by omega)
      rw [Nat.add_zero] at this
      rw [this]; rfl
    · rw [World.ownsRow.cellAt h2 _ (by omega), pvs_at ho 1 (by omega)]; rfl
theorem set_sameL {α : Type} {L : List α} {i : Nat} {v : α} (h : L[i]? = some v) : L.set i v = L := by
  apply List.ext_getElem?
  intro j
  rw [List.getElem?_set]
  split
  · next e => subst e; split
              · exact h.symm
              · next hl => rw [List.getElem?_eq_none (by omega)]
  · rfl
theorem put_after {w w' w6 : World} {o : Obj} {v : Value} (t : Turn [] w w') (hg : (w'.alloc o).grownBy w6 v.ownBlock) : Turn v.ownBlock.toList w w6 :=
  ((t.alloc o).mono (by simp)).trans (Turn.of_grown hg (by intro q e; rw [e]; simp))
theorem find_of {E : List Prm} {k : ByteArray} {j : Nat} (h : E.findIdx? (hasK k) = some j) : ∃ o, E[j]? = some o ∧ o.key = k ∧ findP E k = (o.val, true) := by
  obtain ⟨h1, h2, h3⟩ := List.findIdx?_eq_some_iff_getElem.1 h
  refine ⟨E[j], List.getElem?_eq_getElem h1, of_decide_eq_true h2, ?_⟩
  unfold findP
  have : E.find? (fun o => decide (o.key = k)) = some E[j] := List.find?_eq_some_iff_getElem.2 ⟨h2, j, h1, rfl, fun i hi => by simpa [hasK] using h3 i hi⟩
  rw [this]
theorem find_no {E : List Prm} {k : ByteArray} (h : E.findIdx? (hasK k) = none) : findP E k = (⟨#[]⟩, false) := by
  unfold findP
  have : E.find? (fun o => decide (o.key = k)) = none := by
    rw [List.find?_eq_none]
    intro x hx
    simpa [hasK] using (List.findIdx?_eq_none_iff.1 h) x hx
  rw [this]
theorem lget_any (p : Addr) (v : Value) (n : Nat) (E : List Prm) (k : ByteArray) (w : World) (hp : w.cell? p = some v) (hr : LEnt w v n E) (hl : n ≤ 1000000) :
    Calls Tryz.prog 100 #[.pointer (some p), .string k] w fun e w' => e = .returned (.tuple #[.string (findP E k).1, .bool (findP E k).2]) ∧ Grow w w' := by
  have P := find_any p v n E k w hp hr.cells hr.1 hl
  have HR := Lib.hid (And.intro hr hp)
  clear hr hp
  cases hf : E.findIdx? (hasK k) with
  | none =>
    rw [hf] at P
    rw [find_no hf]
    unfold posI at P
    simp only at P
    clear hf
    go_enter Tryz.func100, Tryz.ntmps100
    go_wp2_with fail
    refine P.mono ?_
    rintro e w' ⟨rfl, h1⟩
    go_wp2_with fail
    go_ret2
    exact ⟨rfl, h1⟩
  | some j =>
    rw [hf] at P
    obtain ⟨o, ho, _, hv⟩ := find_of hf
    rw [hv]
    unfold posI at P
    simp only at P
    clear hf hv
    go_enter Tryz.func100, Tryz.ntmps100
    go_wp2_with fail
    refine P.mono ?_
    rintro e w' ⟨rfl, h1⟩
    obtain ⟨g, c, rfl, hjn, c0, c1, _⟩ := HR.out.1.at ho
    have c1' := grow_cell h1 c1
    have p1 := grow_cell h1 HR.out.2
    have h3 : ¬ (j : Int) < 0 := by omega
    have h4 : (j : Int) < (n : Int) := by omega
    clear ho c0 c1 P
    go_wp2_with fail
    go_ret2
    exact ⟨rfl, h1⟩
def lputE (E : List Prm) (k v : ByteArray) : List Prm := match E.findIdx? (hasK k) with | some j => E.set j ⟨k, v⟩ | none => E ++ [⟨k, v⟩]
def LNext (w w' : World) (g m : Nat) (sl : List Value) (i : Nat) (v : Value) (E' : List Prm) : Prop :=
  ∃ v' n', Tbl w' g m (sl.set i v') ∧ LEnt w' v' n' E' ∧ Turn (g :: v.ownBlock.toList) w w' ∧ (v'.ownBlock = v.ownBlock ∨ ∃ c, v'.ownBlock = some c ∧ w.heap.size ≤ c)
set_option maxHeartbeats 4000000 in
theorem lput_any (g m i : Nat) (sl : List Value) (v : Value) (n : Nat) (E : List Prm) (k x : ByteArray) (w : World) (hT : Tbl w g m sl) (hi : sl[i]? = some v) (hr : LEnt w v n E) (hne : v.ownBlock ≠ some g) (hl : n < 900000) :
    Calls Tryz.prog 70 #[.pointer (some ⟨g, i, none⟩), .string k, .string x] w fun e w' => e = .returned (.tuple #[]) ∧ LNext w w' g m sl i v (lputE E k x) := by
  have P := find_any ⟨g, i, none⟩ v n E k w (hT.cell hi) hr.cells hr.1 (by omega)
  have HR := Lib.hid (And.intro hr (And.intro hT (And.intro hi hne)))
  clear hr hT hi hne
  cases hf : E.findIdx? (hasK k) with
  | some j =>
    rw [hf] at P
    obtain ⟨o, ho, hk, _⟩ := find_of hf
    have HE : Hid (lputE E k x = E.set j ⟨k, x⟩) := Lib.hid (by unfold lputE; rw [hf])
    unfold posI at P
    simp only at P
    clear hf
    go_enter Tryz.func70, Tryz.ntmps70
    go_wp2_with fail
    refine P.mono ?_
    rintro e w' ⟨rfl, h1⟩
    have t1 := (Turn.mono ⟨h1.os, h1.tape, h1.output, h1.size, fun k hk _ => h1.block k hk⟩ (fun _ h => h) : Turn [] w w')
    have hr' := HR.out.1.turn t1 (by simp)
    obtain ⟨g2, c, rfl, hjn, c0, c1, f1⟩ := hr'.at ho
    have hT' := HR.out.2.1.turn t1 (by simp)
    have p1 := hT'.cell HR.out.2.2.1
    have h3 : (0 : Int) ≤ (j : Int) := by omega
    have h4 : (j : Int) < (n : Int) := by omega
    have HX := Lib.hid (And.intro hr' (And.intro hT' (And.intro ho (And.intro hk (And.intro t1 c0)))))
    clear hr' hT' ho hk P h1 t1 c0
    go_wp2_with fail
    (try simp only [Exit.inBlock, Exit.then]); refine bodyPost_ret (results_none rfl _ _ _) rfl ?_
    obtain ⟨hr', hT', ho, hk, t1, c0⟩ := HX.out
    have hne : g2 ≠ g := fun e => HR.out.2.2.2 (by rw [e]; rfl)
    have e1 : sl.set i (.slice (some ⟨g2, 0, none⟩) n c) = sl := set_sameL HR.out.2.2.1
    refine ⟨rfl, .slice (some ⟨g2, 0, none⟩) n c, n, ?_, ?_, ?_, .inl rfl⟩
    · rw [e1]
      exact hT'.turn (Turn.set (F := [g2]) (Turn.refl _ _) (.inl (by simp)) _ _) (by simp; omega)
    · rw [HE.out]
      have hjl : j < E.length := (List.getElem?_eq_some_iff.1 ho).1
      refine ⟨by rw [List.length_set]; exact hr'.1, ?_⟩
      rw [pvs_set _ hjl]
      have e2 : (pvs E).set (j * 2) (.string k) = pvs E := by
        apply set_sameL
        have := pvs_at ho 0 (by omega)
        rw [Nat.add_zero] at this
        rw [this]
        simp [pv, hk]
      simp only [e2]
      exact own_set hr'.2 _ _
    · exact (t1.mono (by simp)).set (.inl (by simp [Value.ownBlock])) _ _
  | none =>
    rw [hf] at P
    have HE : Hid (lputE E k x = E ++ [⟨k, x⟩]) := Lib.hid (by unfold lputE; rw [hf])
    unfold posI at P
    simp only at P
    clear hf
    go_enter Tryz.func70, Tryz.ntmps70
    go_wp2_with fail
    refine P.mono ?_
    rintro e w' ⟨rfl, h1⟩
    have t1 := (Turn.mono ⟨h1.os, h1.tape, h1.output, h1.size, fun k hk _ => h1.block k hk⟩ (fun _ h => h) : Turn [] w w')
    have hr' := HR.out.1.turn t1 (by simp)
    have hT' := HR.out.2.1.turn t1 (by simp)
    have p1 := hT'.cell HR.out.2.2.1
    obtain ⟨ao, c, rfl⟩ := hr'.shape
    have FL : Hid (n + 1 ≤ 1000000) := Lib.hid (by omega)
    have e2 : pvs (E ++ [⟨k, x⟩]) = pvs E ++ pv ⟨k, x⟩ := by simp [pvs]
    have HX := Lib.hid (And.intro hr' (And.intro hT' (And.intro t1 e2)))
    clear hr' hT' P h1 t1 e2
    go_wp2_with (at_builtin; (refine wpList_append_gen elemEnt rfl (.tmp 22) (.tmp 26) rfl 0 _ n _ rfl (own_alloc HX.out.1.2 _) _ 1 (pv ⟨k, x⟩) rfl (Cells.lit _ (pv ⟨k, x⟩) 147 (0, 0) 2 1 rfl) (by intro u hu; simp only [pv, List.mem_cons, List.not_mem_nil, or_false] at hu; rcases hu with rfl | rfl <;> rfl) (n + 1) rfl FL (by decide) (Nat.zero_le _) ?_; intro ao6 c6 w6 hown6 hb6 hg6 ho6; have t6 := put_after (v := .slice ao n c) HX.out.2.2.1 hg6; have hT6 := HR.out.2.1.turn t6 (by simpa using fun e => HR.out.2.2.2 e); have p6 := hT6.cell HR.out.2.2.1; have f6 := hT6.free i; have HA := Lib.hid (And.intro hown6 (And.intro t6 (And.intro hT6 ho6))); clear hown6 hb6 hg6 ho6 t6 hT6))
    go_end0
    obtain ⟨hown6, t6, hT6, ho6⟩ := HA.out
    refine ⟨rfl, .slice ao6 (n + 1) c6, n + 1, own_set hT6 _ _, ?_, ?_, ?_⟩
    · rw [HE.out]
      refine ⟨by rw [List.length_append, ← HX.out.1.1]; rfl, ?_⟩
      rw [HX.out.2.2.2]
      refine row_turnL hown6 (Turn.set (F := [g]) (Turn.refl _ _) (.inl (by simp)) _ _) (fun q hq e => ?_)
      have e : q = g := by simpa using e
      rw [e] at hq
      rcases ho6 with h | h
      · exact HR.out.2.2.2 (h.symm.trans hq)
      · rw [h] at hq
        have := (HR.out.2.1.lt g rfl).2
        have := HX.out.2.2.1.size
        simp only [Option.some.injEq, World.size_alloc] at hq
        omega
    · exact (t6.mono fun q hq => List.mem_cons_of_mem _ hq).set (.inl (by simp)) _ _
    · rcases ho6 with h | h
      · exact .inl h
      · exact .inr ⟨_, h, by have := HX.out.2.2.1.size; simp; omega⟩
end Go.Proofs.YthcdkggkoanjpaaGreatDoor
namespace Go.Proofs.YthcdkggkoanjpaaGreatDoor
open Go.RowKit Go.Lib
set_option maxRecDepth 100000
def setL {α : Type} : List α → Nat → List α → List α
  | L, _, [] => L
  | L, o, v :: r => setL (L.set o v) (o + 1) r
theorem setL_eq {α : Type} : ∀ (news L : List α) (o : Nat), o + news.length ≤ L.length → setL L o news = L.take o ++ news ++ L.drop (o + news.length)
  | [], L, o, h => by simp [setL]
  | v :: r, L, o, h => by
    simp only [List.length_cons] at h
    unfold setL
    rw [setL_eq r (L.set o v) (o + 1) (by rw [List.length_set]; omega)]
    have e1 : (L.set o v).take (o + 1) = L.take o ++ [v] := by
      rw [List.take_add_one, List.getElem?_set_self (by omega), List.take_set_of_le (Nat.le_refl _)]
      rfl
    have e2 : (L.set o v).drop (o + 1 + r.length) = L.drop (o + (v :: r).length) := by
      rw [List.drop_set_of_lt (by omega)]
      congr 1
      simp only [List.length_cons]
      omega
    rw [e1, e2]
    simp
theorem own_setCells {base e size g n c : Nat} : ∀ (news : List Value) (o : Nat) {w : World} {xs : List Value}, w.ownsRow base e size (.slice (some ⟨g, 0, none⟩) n c) n xs →
    (w.setCells g o news).ownsRow base e size (.slice (some ⟨g, 0, none⟩) n c) n (setL xs o news)
  | [], _, _, _, h => h
  | _ :: r, o, _, _, h => own_setCells r (o + 1) (own_set h o _)
theorem turn_setCells {F : List Nat} {g : Nat} (hg : g ∈ F) : ∀ (news : List Value) (o : Nat) {a w : World}, Turn F a w → Turn F a (w.setCells g o news)
  | [], _, _, _, h => h
  | _ :: r, o, _, _, h => turn_setCells hg r (o + 1) (h.set (.inl hg) o _)
theorem own_shrink {w : World} {base e size g n c m : Nat} {xs : List Value} (h : w.ownsRow base e size (.slice (some ⟨g, 0, none⟩) n c) n xs) (hm : m ≤ n) :
    w.ownsRow base e size (.slice (some ⟨g, 0, none⟩) m c) m (xs.take (m * size)) := by
  obtain ⟨h1, h2 | ⟨g', cap, cur, e, hb, hg, hnc, hcm, hcs, ht⟩⟩ := h
  · exact absurd h2.1 (by simp)
  · simp only [Value.slice.injEq, Option.some.injEq, Addr.mk.injEq, and_true] at e
    obtain ⟨rfl, _, rfl⟩ := e
    have hle : m * size ≤ n * size := Nat.mul_le_mul_right _ hm
    refine ⟨by rw [List.length_take]; omega, .inr ⟨g, c, cur, rfl, hb, hg, by omega, hcm, hcs, ?_⟩⟩
    rw [← ht, List.take_take, Nat.min_eq_left hle]
theorem pvs_append (A B : List Prm) : pvs (A ++ B) = pvs A ++ pvs B := by simp [pvs]
theorem pvs_oneL (A : List Prm) : ∀ u ∈ pvs A, u.oneCell' = true := by
  intro u hu
  simp only [pvs, List.mem_flatMap, pv, List.mem_cons, List.not_mem_nil, or_false] at hu
  obtain ⟨o, _, rfl | rfl⟩ := hu <;> rfl
theorem pvs_drop (E : List Prm) (j : Nat) : (pvs E).drop (j * 2) = pvs (E.drop j) := by
  by_cases h : j ≤ E.length
  · conv => lhs; rw [← List.take_append_drop j E, pvs_append]
    rw [List.drop_left' (by rw [pvs_length, List.length_take, Nat.min_eq_left h])]
  · rw [List.drop_of_length_le (by rw [pvs_length]; omega), List.drop_of_length_le (by omega)]
    rfl
theorem pvs_take (E : List Prm) (j : Nat) : (pvs E).take (j * 2) = pvs (E.take j) := by
  by_cases h : j ≤ E.length
  · conv => lhs; rw [← List.take_append_drop j E, pvs_append]
    rw [List.take_left' (by rw [pvs_length, List.length_take, Nat.min_eq_left h])]
  · rw [List.take_of_length_le (by rw [pvs_length]; omega), List.take_of_length_le (by omega)]
theorem moved_del {E : List Prm} {j n : Nat} (hn : n = E.length) (hj : j < n) : (setL (pvs E) (j * 2) (pvs (E.drop (j + 1)))).take ((n - 1) * 2) = pvs (E.eraseIdx j) := by
  have hl : (pvs (E.drop (j + 1))).length = (n - 1 - j) * 2 := by rw [pvs_length, List.length_drop]; congr 1; omega
  have hL := pvs_length E
  rw [setL_eq _ _ _ (by rw [hl, hL]; omega), pvs_take, List.eraseIdx_eq_take_drop_succ, pvs_append]
  apply List.take_left'
  rw [List.length_append, hl, pvs_length, List.length_take]
  omega
theorem run_clear_two (w : World) (ty : TypeId) (b o c : Nat) (hc : ∀ j, j < 2 → (w.cell? ⟨b, o + j, none⟩).isSome = true) (hf : ∀ j, j < 2 → w.frozen? ⟨b, o + j, none⟩ = false) :
    (Builtin.clear_ #[145] ty #[.slice (some ⟨b, o, none⟩) 1 c]).run Tryz.prog w = .ok (.tuple #[]) (w.setCells b o [.string ⟨#[]⟩, .string ⟨#[]⟩]) := by
  have hst := run_storeCells_cells (P := Tryz.prog) b o [.string ⟨#[]⟩, .string ⟨#[]⟩] 0 w (by simpa using hc) (by simpa using hf) (by simp [Value.oneCell'])
  simp only [Nat.add_zero] at hst
  have hv : (zeroValue 147).run Tryz.prog w = .ok (.agg #[.string ⟨#[]⟩, .string ⟨#[]⟩]) w := by kernel_rfl
  have hzc : (Builtin.zeroCells (Value.agg #[.string ⟨#[]⟩, .string ⟨#[]⟩]).cells 1).toList = [.string ⟨#[]⟩, .string ⟨#[]⟩] := by kernel_rfl
  simp [Builtin.clear_, run_underlying Tryz.underlying145, hv, hzc, hst]
set_option maxHeartbeats 4000000 in
theorem delete_any (g n c j j1 : Nat) (E : List Prm) (w : World) (hr : LEnt w (.slice (some ⟨g, 0, none⟩) n c) n E) (hj : j < n) (hj1 : j1 = j + 1) (hl : n ≤ 1000000) (hc : n ≤ c) (hcm : c ≤ maxLen) :
    Calls Tryz.prog 162 #[.slice (some ⟨g, 0, none⟩) n c, .int .i64 j, .int .i64 (j1 : Int)] w fun e w' => e = .returned (.slice (some ⟨g, 0, none⟩) (n - 1) c) ∧ LEnt w' (.slice (some ⟨g, 0, none⟩) (n - 1) c) (n - 1) (E.eraseIdx j) ∧ Turn [g] w w' := by
  unfold maxLen at hcm
  obtain ⟨i0, hi0, hz0, hz1, hz2⟩ := info_parts elemEnt.info
  obtain ⟨news, hnews⟩ : ∃ news, news = pvs (E.drop j1) := ⟨_, rfl⟩
  have hlen : news.length = (n - j1) * 2 := by rw [hnews, pvs_length, List.length_drop, hr.1]
  have hpl := pvs_length E
  have hn := hr.1
  have hget : ∀ t u, news[t]? = some u → w.cell? ⟨g, j1 * 2 + t, none⟩ = some u := by
    intro t u hu
    have ht : t < news.length := (List.getElem?_eq_some_iff.1 hu).1
    rw [World.ownsRow.cellAt hr.2 _ (by omega), ← hu, hnews, ← pvs_drop, List.getElem?_drop]
  obtain ⟨A, hA, hsrc⟩ : ∃ A : Addr, (if c = j1 then some (⟨g, 0, none⟩ : Addr) else some ⟨g, j1 * 2, none⟩) = some A ∧ Hid (∀ t u, news[t]? = some u → w.drew.cell? (A.add t) = some u) := by
    by_cases h : c = j1
    · refine ⟨⟨g, 0, none⟩, by simp [h], Lib.hid fun t u hu => ?_⟩
      have h0 : news.length = 0 := by rw [hlen]; omega
      rw [List.length_eq_zero_iff.1 h0] at hu
      simp at hu
    · refine ⟨⟨g, j1 * 2, none⟩, by simp [h], Lib.hid fun t u hu => ?_⟩
      rw [Addr.add_lit]
      exact hget t u hu
  have s1 : Hid (news.length = (n - j1) * 2) := Lib.hid hlen
  have s2 : Hid (∀ u ∈ news, u.oneCell' = true) := Lib.hid (by rw [hnews]; exact pvs_oneL _)
  have s3 : Hid (∀ t, t < news.length → (w.drew.cell? ⟨g, 0 + j * 2 + t, none⟩).isSome = true ∧ w.drew.frozen? ⟨g, 0 + j * 2 + t, none⟩ = false) := Lib.hid (by
    intro t ht
    refine ⟨?_, World.ownsRow.frozenAt hr.2 _⟩
    have : w.cell? ⟨g, 0 + j * 2 + t, none⟩ = (pvs E)[0 + j * 2 + t]? := World.ownsRow.cellAt hr.2 _ (by omega)
    show (w.cell? _).isSome = true
    rw [this, List.getElem?_eq_getElem (by omega)]
    rfl)
  obtain ⟨W1, hW1⟩ : ∃ W1, W1 = w.drew.setCells g (0 + j * 2) news := ⟨_, rfl⟩
  have hO1 : W1.ownsRow 0 147 2 (.slice (some ⟨g, 0, none⟩) n c) n (setL (pvs E) (0 + j * 2) news) := by rw [hW1]; exact own_setCells news _ hr.2.drew
  have hcl : ∀ ty, (Builtin.clear_ #[145] ty #[.slice (some ⟨g, (n - 1) * 2, none⟩) 1 (c - (n - 1))]).run Tryz.prog W1 = .ok (.tuple #[]) (W1.setCells g ((n - 1) * 2) [.string ⟨#[]⟩, .string ⟨#[]⟩]) := by
    intro ty
    refine run_clear_two W1 ty g ((n - 1) * 2) _ (fun t ht => ?_) (fun t ht => World.ownsRow.frozenAt hO1 _)
    have h1 : (setL (pvs E) (0 + j * 2) news).length = n * 2 := hO1.1
    rw [World.ownsRow.cellAt hO1 _ (by omega), List.getElem?_eq_getElem (by omega)]
    rfl
  have HX := Lib.hid (And.intro hO1 (And.intro hnews (And.intro hn hW1)))
  have hW : Hid (W1 = w.drew.setCells g (0 + j * 2) news) := Lib.hid hW1
  have hjc : j ≤ c := by omega
  have hjc1 : j1 ≤ c := by omega
  have hjn1 : j1 ≤ n := by omega
  have hjj : j ≤ j1 := by omega
  have hne : ¬ (j : Int) = (j1 : Int) := by omega
  have HJ := Lib.hid (And.intro hj hj1)
  have e1 : n - 1 - j = n - j1 := by omega
  have e2 : j + (n - j1) = n - 1 := by omega
  clear hW1 hO1 hget hnews hlen hpl hr hn hj1
  go_enter Tryz.func162, Tryz.ntmps162
  go_wp2_with fail
  go_region_law (refine step_append_room rfl (.tmp 22) (.tmp 25) 145 rfl 147 i0 2 Tryz.underlying145 hi0 hz1 g 0 j c (by simp [Act.eval, Act.put]) A (n - j1) (c - j1) news (by simp [Act.eval, Act.put, hA]) s1.out hsrc.out s2.out (by omega) s3.out ?_; rw [← hW.out])
  have g1 : n - 1 ≤ n := by omega
  have g2 : n - (n - 1) = 1 := by omega
  have g3 : ¬ c = n - 1 := by omega
  have g4 : n - 1 ≤ c := by omega
  go_wp2_with fail
  go_ret
  obtain ⟨hO1, hnews, hn, hW1⟩ := HX.out
  obtain ⟨hj, hj1⟩ := HJ.out
  have ht0 : Turn [g] w W1 := by rw [hW1]; exact turn_setCells (by simp) _ _ (Turn.refl _ _).drew
  refine ⟨rfl, ⟨by rw [List.length_eraseIdx, if_pos (by omega)]; omega, ?_⟩, turn_setCells (by simp) _ _ ht0⟩
  have hS := own_setCells [.string ⟨#[]⟩, .string ⟨#[]⟩] ((n - 1) * 2) (own_shrink hO1 (show n - 1 ≤ n by omega))
  have hlen := hS.1
  have hl0 := (own_shrink hO1 (show n - 1 ≤ n by omega)).1
  rw [Nat.zero_add, hnews, hj1, moved_del hn hj] at hS hl0
  simp only [setL] at hS
  rw [List.set_eq_of_length_le (by rw [List.length_set]; omega), List.set_eq_of_length_le (by omega)] at hS
  exact hS
def delE (E : List Prm) (k : ByteArray) : List Prm := match E.findIdx? (hasK k) with | some j => E.eraseIdx j | none => E
theorem ldel_any (g m i : Nat) (sl : List Value) (v : Value) (n : Nat) (E : List Prm) (k : ByteArray) (w : World) (hT : Tbl w g m sl) (hi : sl[i]? = some v) (hr : LEnt w v n E) (hne : v.ownBlock ≠ some g) (hl : n < 900000) :
    Calls Tryz.prog 114 #[.pointer (some ⟨g, i, none⟩), .string k] w fun e w' => e = .returned (.bool (findP E k).2) ∧ LNext w w' g m sl i v (delE E k) := by
  have P := find_any ⟨g, i, none⟩ v n E k w (hT.cell hi) hr.cells hr.1 (by omega)
  have HR := Lib.hid (And.intro hr (And.intro hT (And.intro hi hne)))
  clear hr hT hi hne
  cases hf : E.findIdx? (hasK k) with
  | none =>
    rw [hf] at P
    rw [find_no hf]
    have HE : Hid (delE E k = E) := Lib.hid (by unfold delE; rw [hf])
    unfold posI at P
    simp only at P
    clear hf
    go_enter Tryz.func114, Tryz.ntmps114
    go_wp2_with fail
    refine P.mono ?_
    rintro e w' ⟨rfl, h1⟩
    go_wp2_with fail
    go_ret
    have t1 := tb9 h1
    refine ⟨rfl, v, n, ?_, ?_, t1.mono (by simp), .inl rfl⟩
    · rw [set_sameL HR.out.2.2.1]
      exact HR.out.2.1.turn t1 (by simp)
    · rw [HE.out]
      exact HR.out.1.turn t1 (by simp)
  | some j =>
    rw [hf] at P
    obtain ⟨o, ho, _, hv⟩ := find_of hf
    rw [hv]
    have HE : Hid (delE E k = E.eraseIdx j) := Lib.hid (by unfold delE; rw [hf])
    unfold posI at P
    simp only at P
    clear hf hv
    go_enter Tryz.func114, Tryz.ntmps114
    go_wp2_with fail
    refine P.mono ?_
    rintro e w' ⟨rfl, h1⟩
    have t1 := tb9 h1
    have hr' := HR.out.1.turn t1 (by simp)
    have hT' := HR.out.2.1.turn t1 (by simp)
    have p1 := hT'.cell HR.out.2.2.1
    obtain ⟨g2, c, rfl, hjn, _⟩ := hr'.at ho
    obtain ⟨hc1, hc2⟩ : n ≤ c ∧ c ≤ maxLen := by
      obtain ⟨_, h2 | ⟨g', cap, cur, e, _, _, h3, h4, _⟩⟩ := hr'.2
      · exact absurd h2.1 (by simp)
      · simp only [Value.slice.injEq] at e
        obtain ⟨_, _, rfl⟩ := e
        exact ⟨h3, h4⟩
    have D := delete_any g2 n c j (j + 1) E w' hr' hjn rfl (by omega) hc1 hc2
    rw [show ((j + 1 : Nat) : Int) = (j : Int) + 1 from by omega] at D
    have hne2 : g2 ≠ g := fun e => HR.out.2.2.2 (by rw [e]; rfl)
    have h3 : ¬ (j : Int) < 0 := by omega
    have h4 : wrap64 ((j : Int) + 1) = (j : Int) + 1 := by unfold wrap64; omega
    have HX := Lib.hid (And.intro hr' (And.intro hT' (And.intro t1 hne2)))
    clear hr' hT' ho P h1 t1 hc1 hc2
    go_wp2_with fail
    refine D.mono ?_
    rintro e w2 ⟨rfl, h5, t5⟩
    have hT5 := HX.out.2.1.turn t5 (by simpa using fun e => HX.out.2.2.2 e.symm)
    have p5 := hT5.cell HR.out.2.2.1
    have f5 := hT5.free i
    have HY := Lib.hid (And.intro h5 (And.intro t5 hT5))
    clear h5 t5 hT5 D
    go_wp2_with fail
    go_ret
    obtain ⟨h5, t5, hT5⟩ := HY.out
    refine ⟨rfl, .slice (some ⟨g2, 0, none⟩) (n - 1) c, n - 1, own_set hT5 _ _, ?_, ?_, .inl rfl⟩
    · rw [HE.out]
      exact ⟨h5.1, row_turnL h5.2 (Turn.set (F := [g]) (Turn.refl _ _) (.inl (by simp)) _ _) (fun q hq e => by
        have e : q = g := by simpa using e
        rw [e] at hq
        exact HR.out.2.2.2 hq)⟩
    · exact (((HX.out.2.2.1.mono (by simp)).trans' t5 (fun q hq => .inl (by simpa [Value.ownBlock] using Or.inr (by simpa using hq)))).set (F := g :: (Value.slice (some ⟨g2, 0, none⟩) n c).ownBlock.toList) (.inl (by simp)) _ _)
end Go.Proofs.YthcdkggkoanjpaaGreatDoor
