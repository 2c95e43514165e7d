/- How many bytes a store's calls bring; what they ask is met. Plain facts. Numbers and types by name. -/
import Derived.Test.YthcdkggkoanjpaaGreatDoorStk
import Derived.Test.YthcdkggkoanjpaaGreatDoorWel
import Derived.Test.YthcdkggkoanjpaaGreatDoorWtc
import Derived.ProofKit
import Derived.Deep.Slices
import Derived.Test.YthcdkggkoanjpaaGreatDoorGen
/- A store that is opened: plain facts. Numbers and types by name. -/
namespace Go.Proofs.YthcdkggkoanjpaaGreatDoor
open Go.RowKit Go.Lib
theorem openS_e {M : MD} (h0 : loadE M = 0) : openS M = if (openP M).e ≠ 0 then ⟨(openP M).e, (openP M).M, 0, []⟩ else ⟨0, (openP M).M, (openP M).n, applyAll (loadL M) (openP M).l⟩ := by
  unfold openS
  rw [if_neg (by simp [h0])]
def OpenedK (S : List Prm) (B : List (List Opm)) (O : List Opm) (t : List UInt8) (R : Opened) : Prop :=
  (R.e ≠ 0 ∧ ∃ t', DK R.M S B O t' ∧ (t = [] → t' = [])) ∨
  (R.e = 0 ∧ ∃ m, (m = B ∨ (t ≠ [] ∧ m = B ++ [O])) ∧ R.l = m ∧ R.n = (EB m).length ∧ R.M.dw = false ∧ DK R.M S m O [] ∧ ∃ sy, logIs R.M.fs (EB m ++ []) sy ∧ (EB m).length ≤ sy ∧ sy ≤ (EB m ++ []).length)
theorem dk_openR {M : MD} {S : List Prm} {B m : List (List Opm)} {O : List Opm} {t : List UInt8} {b : List UInt8} (hd : M.dw = false) (hm : m = B ∨ (t ≠ [] ∧ m = B ++ [O])) (hb : batsOf b = m) (he : endOf b = (EB m).length)
    (h0 : ∃ t', DK M S B O t' ∧ (t = [] → t' = [])) (hsm : ∀ L ∈ m, small L) (hi : ∃ sy, logIs M.fs (EB m) sy) : OpenedK S B O t (openR M b) := by
  obtain ⟨t0, k0, kt⟩ := h0
  obtain ⟨sy, hi⟩ := hi
  have hs := sync_is hi M.cap
  have kp := keeps_sync logK
  unfold openR
  have done : (M.act (opSync logK)).2.fs = (opSync logK M.cap M.fs).2 → DK (M.act (opSync logK)).2 S m O [] ∧ ∃ sy, logIs (M.act (opSync logK)).2.fs (EB m ++ []) sy ∧ (EB m).length ≤ sy ∧ sy ≤ (EB m ++ []).length := fun e =>
    dk_log (B' := m) (O' := O) (t' := []) k0 kp spares_logS (by rw [List.append_nil, e]; exact hs.2) (Nat.le_refl _) (by rw [List.append_nil]; exact Nat.le_refl _) (.inl rfl) hsm
  have dk0 : (M.act (opSync logK)).2.fs = (opSync logK M.cap M.fs).2 → ∃ t', DK (M.act (opSync logK)).2 S B O t' ∧ (t = [] → t' = []) := fun e => by
    rcases k0.log with ⟨q1, _⟩ | ⟨s0, q1, q2, q3⟩
    · rw [hi] at q1; cases q1
    · have hq := sync_is q1 M.cap
      obtain ⟨j1, _⟩ := dk_log (B' := B) (O' := O) (t' := t0) k0 kp spares_logS (by rw [e]; exact hq.2) (by rw [List.length_append]; omega) (Nat.le_refl _) k0.part k0.sm
      exact ⟨t0, j1, kt⟩
  rcases act_ways hd (opSync logK) with ⟨a1, _, a3 | a3⟩ | ⟨a1, _, a3⟩ | ⟨a1, a2, a3⟩
  · rw [if_neg (by rw [a1]; decide), a1]
    exact .inl ⟨by show ¬ (7 : Int) = 0; decide, t0, k0.same a3, kt⟩
  · rw [if_neg (by rw [a1]; decide), a1]
    exact .inl ⟨by show ¬ (7 : Int) = 0; decide, dk0 a3⟩
  · rw [if_neg (by rw [a1]; decide), a1]
    exact .inl ⟨by show ¬ (6 : Int) = 0; decide, t0, k0.same a3, kt⟩
  · rw [if_pos (a1.trans hs.1)]
    obtain ⟨j1, j2⟩ := done a3
    exact .inr ⟨rfl, m, hm, hb, he, a2, j1, j2⟩
theorem dk_openP {M : MD} {S : List Prm} {B : List (List Opm)} {O : List Opm} {t : List UInt8} (h : DK M S B O t) (hd : M.dw = false) : OpenedK S B O t (openP M) := by
  unfold openP
  rcases h.log with ⟨h1, rfl, rfl⟩ | ⟨sy, h1, h2, h3⟩
  · -- there is no log yet
    have e : (M.read logK).2 = 3 := by unfold MD.read; rw [if_neg (by simp [hd]), h1]
    rw [if_pos e]
    have hc := create_is h.up h1 M.cap
    have kp := keeps_create logK
    have made : (M.act (opCreate logK)).2.fs = (opCreate logK M.cap M.fs).2 → DK (M.act (opCreate logK)).2 S [] O [] ∧ ∃ sy, logIs (M.act (opCreate logK)).2.fs (EB [] ++ []) sy ∧ (EB []).length ≤ sy ∧ sy ≤ (EB [] ++ []).length := fun e =>
      dk_log (B' := []) (O' := O) (t' := []) h kp spares_logN (by rw [e]; exact hc.2) (Nat.le_refl _) (Nat.le_refl _) (.inl rfl) h.sm
    rcases act_ways hd (opCreate logK) with ⟨a1, _, a3 | a3⟩ | ⟨a1, _, a3⟩ | ⟨a1, a2, a3⟩
    · rw [if_neg (by rw [a1]; decide), a1]
      exact .inl ⟨by show ¬ (7 : Int) = 0; decide, [], h.same a3, fun _ => rfl⟩
    · rw [if_neg (by rw [a1]; decide), a1]
      exact .inl ⟨by show ¬ (7 : Int) = 0; decide, [], (made a3).1, fun _ => rfl⟩
    · rw [if_neg (by rw [a1]; decide), a1]
      exact .inl ⟨by show ¬ (6 : Int) = 0; decide, [], h.same a3, fun _ => rfl⟩
    · rw [if_pos (a1.trans hc.1)]
      obtain ⟨c1, c2⟩ := bats_full (LL := []) (fun L hL => by cases hL)
      have c1' : batsOf [] = [] := c1
      have c2' : endOf [] = 0 := c2
      unfold openQ
      rw [if_neg (by rw [c2']; exact Nat.lt_irrefl _)]
      obtain ⟨j1, sy, j2, _⟩ := made a3
      exact dk_openR (m := []) a2 (.inl rfl) c1' c2' ⟨[], j1, fun _ => rfl⟩ (fun L hL => by cases hL) ⟨sy, j2⟩
  · have hr := read_is hd h1
    rw [hr]
    rw [if_neg (by show ¬ (0 : Int) = 3; decide), if_pos rfl]
    obtain ⟨m, hm, e1, e2, e3, e4, e5, e6⟩ := dk_bats h.part h.sm
    unfold openQ
    rw [e2]
    by_cases hlt : (EB m).length < (EB B ++ t).length
    · rw [if_pos hlt]
      obtain rfl := e5 hlt
      have hc := cut_is h1 (EB m).length e4 M.cap
      rw [e3, Nat.min_eq_right h2] at hc
      have kp := keeps_cut logK ((EB m).length : Int)
      have cutd : (M.act (opCut logK ((EB m).length : Int))).2.fs = (opCut logK ((EB m).length : Int) M.cap M.fs).2 → DK (M.act (opCut logK ((EB m).length : Int))).2 S m O [] ∧ ∃ sy, logIs (M.act (opCut logK ((EB m).length : Int))).2.fs (EB m ++ []) sy ∧ (EB m).length ≤ sy ∧ sy ≤ (EB m ++ []).length := fun e =>
        dk_log (B' := m) (O' := O) (t' := []) h kp (spares_logC _) (by rw [List.append_nil, e]; exact hc.2) (Nat.le_refl _) (by rw [List.append_nil]; exact Nat.le_refl _) (.inl rfl) h.sm
      rcases act_ways hd (opCut logK ((EB m).length : Int)) with ⟨a1, _, a3 | a3⟩ | ⟨a1, _, a3⟩ | ⟨a1, a2, a3⟩
      · rw [if_neg (by rw [a1]; decide), a1]
        exact .inl ⟨by show ¬ (7 : Int) = 0; decide, t, h.same a3, id⟩
      · rw [if_neg (by rw [a1]; decide), a1]
        exact .inl ⟨by show ¬ (7 : Int) = 0; decide, [], (cutd a3).1, fun _ => rfl⟩
      · rw [if_neg (by rw [a1]; decide), a1]
        exact .inl ⟨by show ¬ (6 : Int) = 0; decide, t, h.same a3, id⟩
      · rw [if_pos (a1.trans hc.1)]
        obtain ⟨j1, sy', j2, _⟩ := cutd a3
        rw [List.append_nil] at j2
        exact dk_openR (m := m) a2 (.inl rfl) e1 e2 ⟨[], j1, fun _ => rfl⟩ e6 ⟨sy', j2⟩
    · rw [if_neg hlt]
      have hl : (EB m).length = (EB B ++ t).length := by omega
      have hEB : EB m = EB B ++ t := by rw [← e3, hl, List.take_length]
      exact dk_openR (m := m) hd hm e1 e2 ⟨t, h, id⟩ e6 ⟨sy, by rw [hEB]; exact h1⟩
theorem dk_open {M : MD} {S : List Prm} {B : List (List Opm)} {O : List Opm} {t : List UInt8} (h : DK M S B O t) :
    ((openS M).e ≠ 0 → ∃ t', DK (openS M).M S B O t' ∧ (t = [] → t' = [])) ∧
    ((openS M).e = 0 → (openS M).M.dw = false ∧ ∃ m, (m = B ∨ (t ≠ [] ∧ m = B ++ [O])) ∧ SK (openS M).M (openS M).n false (openS M).L S m O []) := by
  cases hd : M.dw with
  | true =>
    have e : openS M = ⟨7, M, 0, []⟩ := by
      unfold openS
      rw [load_down hd, if_pos (by decide)]
    rw [e]
    exact ⟨fun _ => ⟨t, h, id⟩, fun h => absurd h (by show ¬ (7 : Int) = 0; decide)⟩
  | false =>
    obtain ⟨l1, l2⟩ := dk_load h hd
    rw [openS_e l1, l2]
    rcases dk_openP h hd with ⟨e1, k⟩ | ⟨e1, m, hm, e2, e3, e4, k1, k2⟩
    · rw [if_pos e1]
      exact ⟨fun _ => k, fun h => absurd h e1⟩
    · rw [if_neg (by simp [e1])]
      refine ⟨fun h => absurd rfl h, fun _ => ⟨e4, m, hm, k1, k2, fun _ => e3, fun _ => rfl, ?_⟩⟩
      show applyAll S (openP M).l = _
      rw [e2]
theorem dk_new (cap cr : Int) (dn : Bool) (zs ks : List Int) : DK (MD.new cap cr dn zs ks) [] [] [] [] :=
  ⟨List.Pairwise.nil, .inl ⟨rfl, rfl, rfl⟩, .inl ⟨rfl, rfl⟩, .inl rfl, (fun L hL => by cases hL), List.Pairwise.nil, slim_of (by decide)⟩
theorem calm_openR {M : MD} (h : Still8 M) {b : List UInt8} {x : Ent} (hl : M.fs.find? (isName logK) = some x) : (openR M b).e = 0 ∧ Still8 (openR M b).M ∧ (openR M b).M.cap = M.cap := by
  unfold openR
  rw [h.act]
  have e : (opSync logK M.cap M.fs).1 = 0 := by unfold opSync; rw [hl]
  rw [if_pos e]
  exact ⟨rfl, h.next _, rfl⟩
end Go.Proofs.YthcdkggkoanjpaaGreatDoor

/- A store on a disk whose plan holds nothing any more: plain facts. Numbers and types by name. -/
namespace Go.Proofs.YthcdkggkoanjpaaGreatDoor
open Go.RowKit Go.Lib
theorem calm_run : ∀ (ops : List Opn) {M : MD}, Still8 M → Still8 (runOps ops M).2 ∧ (runOps ops M).2.cap = M.cap
  | [], _, h => ⟨h, rfl⟩
  | op :: l, M, h => by
    rw [runOps_one, h.act]
    split
    · exact calm_run l (h.next _)
    · exact ⟨h.next _, rfl⟩
theorem calm_save {M : MD} (h : Still8 M) (x : List UInt8) : Still8 (saveP M x).2 ∧ (saveP M x).2.cap = M.cap := calm_run _ h
theorem save_four {M : MD} (h : Still8 M) (hr : Rising M.fs) (ht : M.fs.any (isName tmpK) = false) {x : List UInt8} (hc : ¬ M.cap < (tot M.fs : Int) + x.length) : (runOps [opCreate tmpK, opAppend tmpK x, opSync tmpK, opRename tmpK snapK] M).1 = 0 := by
  have e1 : opCreate tmpK M.cap M.fs = (0, insE (tmpK, [], 0) M.fs) := by unfold opCreate; rw [if_neg (by decide), if_neg (by simp [ht])]
  have f1 : (insE (tmpK, [], 0) M.fs).find? (isName tmpK) = some (tmpK, [], 0) := find_insE_self (x := (tmpK, [], 0)) hr ht
  have t1 : tot (insE (tmpK, [], 0) M.fs) = tot M.fs := by
    have := (insE_perm (tmpK, [], 0) M.fs).map fun x : Ent => x.2.1.length
    unfold tot
    rw [this.sum_nat]
    simp
  rw [runOps_one, h.act, e1, if_pos rfl]
  have h1 := h.next (insE (tmpK, [], 0) M.fs)
  generalize hM1 : ({ M with n := M.n + 1, fs := insE (tmpK, [], 0) M.fs } : MD) = M1 at h1 ⊢
  have c1 : M1.cap = M.cap := by rw [← hM1]
  have g1 : M1.fs = insE (tmpK, [], 0) M.fs := by rw [← hM1]
  rw [← g1] at f1 t1
  have e2 : opAppend tmpK x M1.cap M1.fs = (0, updE tmpK (fun y => (y.1, y.2.1 ++ x, y.2.2)) M1.fs) := by
    unfold opAppend
    rw [f1]
    simp only
    rw [if_neg (by rw [t1, c1]; exact hc)]
  have f2 : (updE tmpK (fun y : Ent => (y.1, y.2.1 ++ x, y.2.2)) M1.fs).find? (isName tmpK) = some (tmpK, x, 0) := by
    rw [find_upd_self (u := fun y => (y.1, y.2.1 ++ x, y.2.2)) (fun _ => rfl), f1]
    rfl
  rw [runOps_one, h1.act, e2, if_pos rfl]
  have h2 := h1.next (updE tmpK (fun y : Ent => (y.1, y.2.1 ++ x, y.2.2)) M1.fs)
  generalize hM2 : ({ M1 with n := M1.n + 1, fs := updE tmpK (fun y : Ent => (y.1, y.2.1 ++ x, y.2.2)) M1.fs } : MD) = M2 at h2 ⊢
  have g2 : M2.fs.find? (isName tmpK) = some (tmpK, x, 0) := by rw [← hM2]; exact f2
  have e3 : (opSync tmpK M2.cap M2.fs).1 = 0 := by unfold opSync; rw [g2]
  have f3 : (opSync tmpK M2.cap M2.fs).2.find? (isName tmpK) = some (tmpK, x, x.length) := by
    unfold opSync
    rw [g2]
    show (updE tmpK _ M2.fs).find? _ = _
    rw [find_upd_self (u := fun y => (y.1, y.2.1, y.2.1.length)) (fun _ => rfl), g2]
    rfl
  rw [runOps_one, h2.act, if_pos e3]
  have h3 := h2.next (opSync tmpK M2.cap M2.fs).2
  rw [runOps_one, h3.act]
  have e4 : (opRename tmpK snapK M2.cap (opSync tmpK M2.cap M2.fs).2).1 = 0 := by
    unfold opRename
    rw [f3]
    simp only
    rw [if_neg (by decide), if_neg (by decide)]
  rw [if_pos e4]
  rfl
theorem save_ok {M : MD} (h : Still8 M) (hr : Rising M.fs) {x : List UInt8} (hc : ¬ M.cap < (tot M.fs : Int) + x.length) : (saveP M x).1 = 0 := by
  unfold saveP saveOps
  by_cases ht : M.fs.any (isName tmpK) = true
  · rw [if_pos ht, List.singleton_append, runOps_one, h.act]
    obtain ⟨y, hy⟩ : ∃ y, M.fs.find? (isName tmpK) = some y := by
      cases hf : M.fs.find? (isName tmpK) with
      | some y => exact ⟨y, rfl⟩
      | none =>
        obtain ⟨z, hz, hz2⟩ := List.any_eq_true.1 ht
        exact absurd hz2 (List.find?_eq_none.1 hf z hz)
    have e : opRemove tmpK M.cap M.fs = (0, woE tmpK M.fs) := by unfold opRemove; rw [hy]
    rw [e, if_pos rfl]
    have htot : tot (woE tmpK M.fs) ≤ tot M.fs := by
      clear e hy ht hc h hr
      induction M.fs with
      | nil => exact Nat.le_refl _
      | cons y l ih =>
        unfold woE tot at *
        rw [List.filter_cons]
        split
        · simp only [List.map_cons, List.sum_cons]; omega
        · simp only [List.map_cons, List.sum_cons]; omega
    exact save_four (h.next _) (woE_rising hr) (by show (woE tmpK M.fs).any _ = false; rw [woE_any, if_pos rfl]) (by show ¬ M.cap < ((tot (woE tmpK M.fs) : Nat) : Int) + x.length; omega)
  · rw [if_neg ht, List.nil_append]
    exact save_four h hr (by simpa using ht) hc
theorem calm_openP {M : MD} {S : List Prm} {B : List (List Opm)} {O : List Opm} {t : List UInt8} (h : DK M S B O t) (hs : Still8 M) : (openP M).e = 0 ∧ Still8 (openP M).M ∧ (openP M).M.cap = M.cap := by
  unfold openP
  rcases h.log with ⟨h1, rfl, rfl⟩ | ⟨sy, h1, h2, h3⟩
  · have e : (M.read logK).2 = 3 := by unfold MD.read; rw [if_neg (by simp [hs.dw]), h1]
    have hc := create_is h.up h1 M.cap
    rw [if_pos e, hs.act, if_pos hc.1]
    obtain ⟨c1, c2⟩ := bats_full (LL := []) (fun L hL => by cases hL)
    have c2' : endOf [] = 0 := c2
    unfold openQ
    rw [if_neg (by rw [c2']; exact Nat.lt_irrefl _)]
    obtain ⟨g1, g2, g3⟩ := calm_openR (b := []) (hs.next (opCreate logK M.cap M.fs).2) hc.2
    exact ⟨g1, g2, g3⟩
  · rw [read_is hs.dw h1, if_neg (by show ¬ (0 : Int) = 3; decide), if_pos rfl]
    obtain ⟨m, hm, e1, e2, e3, e4, e5, e6⟩ := dk_bats h.part h.sm
    unfold openQ
    rw [e2]
    by_cases hlt : (EB m).length < (EB B ++ t).length
    · rw [if_pos hlt, hs.act]
      have hc := cut_is h1 (EB m).length e4 M.cap
      rw [if_pos hc.1]
      obtain ⟨g1, g2, g3⟩ := calm_openR (b := EB B ++ t) (hs.next (opCut logK (EB m).length M.cap M.fs).2) hc.2
      exact ⟨g1, g2, g3⟩
    · rw [if_neg hlt]
      exact calm_openR hs h1
theorem calm_open {M : MD} {S : List Prm} {B : List (List Opm)} {O : List Opm} {t : List UInt8} (h : DK M S B O t) (hs : Still8 M) : (openS M).e = 0 ∧ Still8 (openS M).M ∧ (openS M).M.cap = M.cap := by
  obtain ⟨l1, l2⟩ := dk_load h hs.dw
  obtain ⟨g1, g2, g3⟩ := calm_openP h hs
  rw [openS_e l1, if_neg (by simp [g1])]
  exact ⟨rfl, g2, g3⟩
theorem calm_commit {M : MD} {n : Nat} {L S : List Prm} {B : List (List Opm)} {O : List Opm} {t : List UInt8} (h : SK M n false L S B O t) (hs : Still8 M) (X : List Opm) :
    (commitP M n false X).s = false ∧ Still8 (commitP M n false X).M ∧ (commitP M n false X).M.cap = M.cap ∧ (okOps X = false → (commitP M n false X).e = 1) ∧
    (okOps X = true → ((commitP M n false X).e = 0 ∧ ¬ M.cap < (tot M.fs : Int) + (frms (recs X)).length) ∨ ((commitP M n false X).e = 5 ∧ M.cap < (tot M.fs : Int) + (frms (recs X)).length)) := by
  unfold commitP
  rw [if_neg (by simp)]
  cases hok : okOps X with
  | false =>
    rw [if_pos rfl]
    exact ⟨rfl, hs, rfl, fun _ => rfl, fun h => (by cases h)⟩
  | true =>
  rw [if_neg (by simp)]
  obtain rfl := h.fine rfl
  obtain rfl := h.n rfl
  obtain ⟨sy, h1, h2, h3⟩ := h.is
  generalize frms (recs X) = x
  unfold commitA
  rw [hs.act]
  rcases append_is h1 x M.cap with ⟨p1, p2, p3⟩ | ⟨p1, p2, p3⟩
  · rw [if_neg (by rw [p1]; decide), p1]
    unfold commitC
    rw [if_neg (by decide)]
    have hs1 := hs.next (opAppend logK x M.cap M.fs).2
    rw [hs1.act]
    have hi : logIs (opAppend logK x M.cap M.fs).2 (EB B ++ []) sy := by rw [p2]; exact h1
    have hc := cut_is hi (EB B).length (by rw [List.append_nil]; exact Nat.le_refl _) M.cap
    refine ⟨?_, hs1.next _, rfl, fun h => (by cases h), fun _ => .inr ⟨rfl, p3⟩⟩
    show decide ((opCut logK ((EB B).length : Int) M.cap (opAppend logK x M.cap M.fs).2).1 ≠ 0) = false
    rw [hc.1]
    rfl
  · rw [if_pos p1]
    have hs1 := hs.next (opAppend logK x M.cap M.fs).2
    rw [hs1.act]
    have hy := sync_is p2 M.cap
    rw [if_pos hy.1]
    exact ⟨rfl, hs1.next _, rfl, fun h => (by cases h), fun _ => .inl ⟨rfl, p3⟩⟩
theorem calm_check {M : MD} {n : Nat} {L S : List Prm} {B : List (List Opm)} {O : List Opm} {t : List UInt8} (h : SK M n false L S B O t) (hs : Still8 M) :
    (checkS M n false L).s = false ∧ Still8 (checkS M n false L).M ∧ (checkS M n false L).M.cap = M.cap ∧ (¬ M.cap < (tot M.fs : Int) + (bytesT L).length → (checkS M n false L).e = 0) := by
  unfold checkS
  rw [if_neg (by simp), save_right h.rise]
  obtain ⟨g1, g2⟩ := calm_save hs (bytesT L)
  have g3 := save_log h.dk.up (bytesT L)
  have g4 := fun hc => save_ok hs h.dk.up (x := bytesT L) hc
  obtain ⟨sy, h1, _⟩ := h.is
  by_cases he : (saveP M (bytesT L)).1 = 0
  · rw [if_neg (by simp [he])]
    unfold resetP
    rw [if_neg (by simp), g1.act]
    have hi : logIs (saveP M (bytesT L)).2.fs (EB B ++ t) sy := g3.trans h1
    have hc := cut_is hi 0 (Nat.zero_le _) (saveP M (bytesT L)).2.cap
    have hc1 : (opCut logK 0 (saveP M (bytesT L)).2.cap (saveP M (bytesT L)).2.fs).1 = 0 := hc.1
    refine ⟨?_, g1.next _, g2, fun _ => hc1⟩
    show decide ((opCut logK 0 (saveP M (bytesT L)).2.cap (saveP M (bytesT L)).2.fs).1 = 7) = false
    rw [hc1]
    rfl
  · rw [if_pos he]
    exact ⟨rfl, g1, g2, fun hc => absurd (g4 hc) he⟩
end Go.Proofs.YthcdkggkoanjpaaGreatDoor

/- The code's disk alone, beside blocks that stay. Numbers and types by name. -/
namespace Go.Proofs.YthcdkggkoanjpaaGreatDoor
open Go.RowKit Go.Lib
theorem well_new (K : Nat) (cap cr : Int) (dn : Bool) (zs ks : List Int) (hc : cap ≤ 9223372036854775807) (hz : zs.length ≤ 200) (hk : ks.length ≤ 200) : Well K (MD.new cap cr dn zs ks) 0 :=
  ⟨⟨Int.le_refl _, Nat.zero_le _, Nat.zero_le _, hz, hk, hc⟩, List.Pairwise.nil⟩
theorem well_restart {K : Nat} {M : MD} {j : Nat} (h : Well K M j) {cap cr : Int} {dn : Bool} {zs ks : List Int} (hc : cap ≤ 9223372036854775807) (hz : zs.length ≤ 200) (hk : ks.length ≤ 200) : Well K (M.restart cap cr dn zs ks) (j + 1) :=
  ⟨held_restart h.held hc hz hk, rising_of_names (by show ((resE M.keep M.fs M.fs.length).map (·.1)).Pairwise (· < ·); rw [resE_names]; exact h.up.names)⟩
end Go.Proofs.YthcdkggkoanjpaaGreatDoor

/- WalRuns, walked. Numbers and types by name. -/
namespace Go.Proofs.YthcdkggkoanjpaaGreatDoor
open Go.RowKit Go.Lib
set_option maxRecDepth 100000
theorem commit_n (M : MD) (n : Nat) (s : Bool) (L : List Opm) : (commitP M n s L).n ≤ n + (frms (recs L)).length := by
  unfold commitP
  split
  · exact Nat.le_add_right _ _
  · split
    · exact Nat.le_add_right _ _
    · unfold commitA
      split
      · split
        · exact Nat.le_refl _
        · rw [commitC_n]; exact Nat.le_add_right _ _
      · rw [commitC_n]; exact Nat.le_add_right _ _
theorem reset_n (M : MD) (n : Nat) (s : Bool) : (resetP M n s).n ≤ n := by
  unfold resetP
  split
  · exact Nat.le_refl _
  · show (if _ then 0 else n) ≤ n
    split
    · exact Nat.zero_le _
    · exact Nat.le_refl _
end Go.Proofs.YthcdkggkoanjpaaGreatDoor

namespace Go.Proofs.YthcdkggkoanjpaaGreatDoor
open Go.RowKit Go.Lib
theorem flatP_bulk_eq (L : List Prm) : bulk (flatP L) = bulkP L + L.length := by
  induction L with
  | nil => rfl
  | cons o L ih =>
    have e : flatP (o :: L) = [o.key, o.val] ++ flatP L := by simp [flatP]
    rw [e, bulk_append, bulkP_cons, List.length_cons]
    simp only [bulk, List.map_cons, List.map_nil, List.sum_cons, List.sum_nil]
    simp only [bulk] at ih
    omega
theorem enc_flatP (L : List Prm) : (enc (flatP L)).length = 4 + 7 * L.length + bulkP L := by
  have h1 := enc_length (flatP L)
  have h2 := flatP_bulk_eq L
  have h3 := flatP_length L
  omega
structure Meas (k : Nat) (L : List Prm) : Prop where
  bulk : bulkP L ≤ 5000 * k
  len : L.length ≤ 60 * k
theorem Meas.nil : Meas 0 [] := ⟨by decide, by decide⟩
theorem Meas.more {i k : Nat} {L : List Prm} (h : Meas i L) (hk : i ≤ k) : Meas k L := ⟨by have := h.bulk; omega, by have := h.len; omega⟩
theorem Meas.apply {k : Nat} {L : List Prm} (h : Meas k L) {X : List Opm} (hx : bulkO X ≤ 5000) (hl : X.length ≤ 60) : Meas (k + 1) (applyP L X) :=
  ⟨by have := bulkP_apply L X; have := h.bulk; omega, by have := apply_length L X; have := h.len; omega⟩
theorem Meas.slim {k : Nat} {L : List Prm} (h : Meas k L) (hk : k ≤ 81) : Slim L :=
  ⟨by have := h.bulk; omega, by rw [enc_flatP]; have := h.bulk; have := h.len; omega⟩
theorem Meas.bytes {k : Nat} {L : List Prm} (h : Meas k L) (hk : k ≤ 81) : (bytesT L).length ≤ 440000 := by
  unfold bytesT
  split
  · rw [frm_length, enc_flatP]; have := h.bulk; have := h.len; omega
  · exact Nat.zero_le _
theorem room10 : RoomW 440000 2000 := ⟨by decide, by decide⟩
theorem well_checkS {K : Nat} {M : MD} {j : Nat} (h : Well K M j) (n : Nat) (s : Bool) {L : List Prm} (hx : (bytesT L).length ≤ K) : Well K (checkS M n s L).M (j + 6) := by
  unfold checkS
  split
  · exact well_more h (by omega)
  · split
    · exact well_more (well_saveT h hx) (by omega)
    · exact well_reset (well_saveT h hx) n s
theorem well_commitS {K : Nat} {M : MD} {j : Nat} (h : Well K M j) (most : Int) (n : Nat) (s : Bool) (L : List Prm) {X : List Opm} (hx : (frms (recs X)).length ≤ K) (hy : (bytesT (applyP L X)).length ≤ K) : Well K (commitS most M n s L X).M (j + 9) := by
  have hc := well_commit h n s X hx
  unfold commitS
  split
  · exact well_more hc (by omega)
  · split
    · exact well_checkS hc _ _ hy
    · exact well_more hc (by omega)
theorem well_openS {K : Nat} {M : MD} {j : Nat} (h : Well K M j) : Well K (openS M).M (j + 3) := by
  unfold openS
  split
  · exact well_more h (by omega)
  · split
    · exact well_open h
    · exact well_open h
theorem check_n (M : MD) (n : Nat) (s : Bool) (L : List Prm) : (checkS M n s L).n ≤ n := by
  unfold checkS
  split
  · exact Nat.le_refl _
  · split
    · exact Nat.le_refl _
    · exact reset_n _ n s
theorem commitS_n (most : Int) (M : MD) (n : Nat) (s : Bool) (L : List Prm) (X : List Opm) : (commitS most M n s L X).n ≤ n + (frms (recs X)).length := by
  have := commit_n M n s X
  unfold commitS
  split
  · exact this
  · split
    · exact Nat.le_trans (check_n _ _ _ _) this
    · exact this
theorem EB_len {B : List (List Opm)} (h : ∀ L ∈ B, small L) : (EB B).length ≤ 26000 * B.length := by
  induction B with
  | nil => exact Nat.zero_le _
  | cons X B ih =>
    have h1 := recs_ok (h X (by simp)).2 (h X (by simp)).1
    have h2 := ih fun L hL => h L (List.mem_cons_of_mem _ hL)
    have e : EB (X :: B) = frms (recs X) ++ EB B := by
      unfold EB allRecs
      rw [List.flatMap_cons, frms_append]
    rw [e, List.length_append, List.length_cons]
    omega
theorem bulkO_flat {B : List (List Opm)} (h : ∀ L ∈ B, small L) : bulkO B.flatten ≤ 5000 * B.length := by
  induction B with
  | nil => exact Nat.zero_le _
  | cons X B ih =>
    have h1 := (h X (by simp)).1
    have h2 := ih fun L hL => h L (List.mem_cons_of_mem _ hL)
    rw [List.flatten_cons, bulkO_append, List.length_cons]
    omega
theorem openR_bad {M : MD} {b : List UInt8} (h : (openR M b).e ≠ 0) : (openR M b).l = [] := by
  unfold openR at h ⊢
  split
  · rename_i h0; rw [if_pos h0] at h; exact absurd rfl h
  · rfl
theorem openQ_bad {M : MD} {b : List UInt8} (h : (openQ M b).e ≠ 0) : (openQ M b).l = [] := by
  unfold openQ at h ⊢
  by_cases h1 : endOf b < b.length
  · rw [if_pos h1] at h ⊢
    by_cases h2 : (M.act (opCut logK (endOf b))).1 = 0
    · rw [if_pos h2] at h ⊢; exact openR_bad h
    · rw [if_neg h2]
  · rw [if_neg h1] at h ⊢; exact openR_bad h
theorem openP_bad {M : MD} (h : (openP M).e ≠ 0) : (openP M).l = [] := by
  unfold openP at h ⊢
  by_cases h1 : (M.read logK).2 = 3
  · rw [if_pos h1] at h ⊢
    by_cases h2 : (M.act (opCreate logK)).1 = 0
    · rw [if_pos h2] at h ⊢; exact openQ_bad h
    · rw [if_neg h2]
  · rw [if_neg h1] at h ⊢
    by_cases h2 : (M.read logK).2 = 0
    · rw [if_pos h2] at h ⊢; exact openQ_bad h
    · rw [if_neg h2]
theorem dk_ofitB {M : MD} {S : List Prm} {B : List (List Opm)} {O : List Opm} {t : List UInt8} (h : DK M S B O t) {K J j : Nat} (hw : Well K M j) (hj : j + 3 ≤ J) (hR : RoomW K J) (hB : B.length ≤ 81) (hS : bulkP S + 5000 * B.length ≤ 640000) : OFit K J j M := by
  have hEB := EB_len h.sm
  have hO : t.length ≤ 26000 := by
    rcases h.part with rfl | ⟨p1, k, rfl⟩
    · exact Nat.zero_le _
    · have := recs_ok p1.2 p1.1
      rw [List.length_take]; omega
  have hsn := bytesT_slim h.slim
  have hlog : (M.read logK).1.length ≤ 7200000 := by
    cases hd : M.dw with
    | true => unfold MD.read; rw [if_pos hd]; exact Nat.zero_le _
    | false =>
      rcases h.log with ⟨h1, _⟩ | ⟨sy, h1, _⟩
      · unfold MD.read; rw [if_neg (by simp [hd]), h1]; exact Nat.zero_le _
      · rw [read_is hd h1, List.length_append]; omega
  have hload : (loadP M).1.length ≤ 1000000 := by
    unfold loadP
    cases hd : M.dw with
    | true => unfold MD.read; rw [if_pos hd]; exact Nat.zero_le _
    | false =>
      rcases h.snap with ⟨h1, _⟩ | h1
      · unfold MD.read; rw [if_neg (by simp [hd]), h1]; exact Nat.zero_le _
      · unfold MD.read; rw [if_neg (by simp [hd]), h1]; show (bytesT S).length ≤ _; omega
  have hL : loadL M = S ∨ loadL M = [] := by
    cases hd : M.dw with
    | false => exact .inl (dk_load h hd).2
    | true =>
      right
      unfold loadL loadP MD.read
      rw [if_pos hd]
      rfl
  have hl : (openP M).l = [] ∨ ((openP M).l = B ∨ (t ≠ [] ∧ (openP M).l = B ++ [O])) := by
    cases hd : M.dw with
    | true =>
      left
      unfold openP
      have e : (M.read logK).2 = 7 := by unfold MD.read; rw [if_pos hd]
      rw [if_neg (by rw [e]; decide), if_neg (by rw [e]; decide)]
    | false =>
      rcases dk_openP h hd with ⟨e1, _⟩ | ⟨_, m, hm, e2, _⟩
      · left; exact openP_bad e1
      · right; rw [e2]; exact hm
  have hsmO : t ≠ [] → small O := fun ht => by
    rcases h.part with h1 | h1
    · exact absurd h1 ht
    · exact h1.1
  have hbB := bulkO_flat h.sm
  refine ⟨hw, hj, hR, hlog, hload, ?_, ?_, ?_⟩
  · have h1 : bulkP (loadL M) ≤ bulkP S := by
      rcases hL with e | e <;> rw [e]
      · exact Nat.le_refl _
      · exact Nat.zero_le _
    have h2 : bulkO (openP M).l.flatten ≤ 5000 * B.length + 5000 := by
      rcases hl with e | e | ⟨ht, e⟩ <;> rw [e]
      · exact Nat.zero_le _
      · omega
      · rw [List.flatten_append, bulkO_append]
        have h3 := (hsmO ht).1
        have h4 : bulkO [O].flatten = bulkO O := by simp
        omega
    omega
  · intro X hX
    have h1 : small X := by
      rcases hl with e | e | ⟨ht, e⟩ <;> rw [e] at hX
      · cases hX
      · exact h.sm X hX
      · rcases List.mem_append.1 hX with hX | hX
        · exact h.sm X hX
        · rw [List.mem_singleton.1 hX]; exact hsmO ht
    exact Nat.le_trans (bulkO_length X) h1.1
  · rcases hL with e | e <;> rw [e]
    · exact h.rise
    · exact List.Pairwise.nil
theorem dk_ofit {M : MD} {S : List Prm} {B : List (List Opm)} {O : List Opm} {t : List UInt8} (h : DK M S B O t) {K J j : Nat} (hw : Well K M j) (hj : j + 3 ≤ J) (hR : RoomW K J) (hB : B.length ≤ 81) (hS : bulkP S ≤ 230000) : OFit K J j M :=
  dk_ofitB h hw hj hR hB (by omega)
end Go.Proofs.YthcdkggkoanjpaaGreatDoor
