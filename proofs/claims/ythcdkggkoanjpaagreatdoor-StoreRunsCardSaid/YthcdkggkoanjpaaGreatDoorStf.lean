/- A store behind k commits: plain facts. Numbers and types by name. -/
import Derived.Test.YthcdkggkoanjpaaGreatDoorStk
import Derived.Test.YthcdkggkoanjpaaGreatDoorSpl
import Derived.Test.YthcdkggkoanjpaaGreatDoorWtc
import Derived.ProofKit
import Derived.Deep.Slices
import Derived.Test.YthcdkggkoanjpaaGreatDoorBtc
namespace Go.Proofs.YthcdkggkoanjpaaGreatDoor
open Go.RowKit Go.Lib
theorem openS_e {M : MD} (h0 : loadE M = 0) : openS M = if (openP M).e ≠ 0 then ⟨(openP M).e, (openP M).M, 0, []⟩ else ⟨0, (openP M).M, (openP M).n, applyAll (loadL M) (openP M).l⟩ := by
  unfold openS
  rw [if_neg (by simp [h0])]
def OpenedK (S : List Prm) (B : List (List Opm)) (O : List Opm) (t : List UInt8) (R : Opened) : Prop :=
  (R.e ≠ 0 ∧ ∃ t', DK R.M S B O t' ∧ (t = [] → t' = [])) ∨
  (R.e = 0 ∧ ∃ m, (m = B ∨ (t ≠ [] ∧ m = B ++ [O])) ∧ R.l = m ∧ R.n = (EB m).length ∧ R.M.dw = false ∧ DK R.M S m O [] ∧ ∃ sy, logIs R.M.fs (EB m ++ []) sy ∧ (EB m).length ≤ sy ∧ sy ≤ (EB m ++ []).length)
theorem dk_openR {M : MD} {S : List Prm} {B m : List (List Opm)} {O : List Opm} {t : List UInt8} {b : List UInt8} (hd : M.dw = false) (hm : m = B ∨ (t ≠ [] ∧ m = B ++ [O])) (hb : batsOf b = m) (he : endOf b = (EB m).length)
    (h0 : ∃ t', DK M S B O t' ∧ (t = [] → t' = [])) (hsm : ∀ L ∈ m, small L) (hi : ∃ sy, logIs M.fs (EB m) sy) : OpenedK S B O t (openR M b) := by
  obtain ⟨t0, k0, kt⟩ := h0
  obtain ⟨sy, hi⟩ := hi
  have hs := sync_is hi M.cap
  have kp := keeps_sync logK
  unfold openR
  have done : (M.act (opSync logK)).2.fs = (opSync logK M.cap M.fs).2 → DK (M.act (opSync logK)).2 S m O [] ∧ ∃ sy, logIs (M.act (opSync logK)).2.fs (EB m ++ []) sy ∧ (EB m).length ≤ sy ∧ sy ≤ (EB m ++ []).length := fun e =>
    dk_log (B' := m) (O' := O) (t' := []) k0 kp spares_logS (by rw [List.append_nil, e]; exact hs.2) (Nat.le_refl _) (by rw [List.append_nil]; exact Nat.le_refl _) (.inl rfl) hsm
  have dk0 : (M.act (opSync logK)).2.fs = (opSync logK M.cap M.fs).2 → ∃ t', DK (M.act (opSync logK)).2 S B O t' ∧ (t = [] → t' = []) := fun e => by
    rcases k0.log with ⟨q1, _⟩ | ⟨s0, q1, q2, q3⟩
    · rw [hi] at q1; cases q1
    · have hq := sync_is q1 M.cap
      obtain ⟨j1, _⟩ := dk_log (B' := B) (O' := O) (t' := t0) k0 kp spares_logS (by rw [e]; exact hq.2) (by rw [List.length_append]; omega) (Nat.le_refl _) k0.part k0.sm
      exact ⟨t0, j1, kt⟩
  rcases act_ways hd (opSync logK) with ⟨a1, _, a3 | a3⟩ | ⟨a1, _, a3⟩ | ⟨a1, a2, a3⟩
  · rw [if_neg (by rw [a1]; decide), a1]
    exact .inl ⟨by show ¬ (7 : Int) = 0; decide, t0, k0.same a3, kt⟩
  · rw [if_neg (by rw [a1]; decide), a1]
    exact .inl ⟨by show ¬ (7 : Int) = 0; decide, dk0 a3⟩
  · rw [if_neg (by rw [a1]; decide), a1]
    exact .inl ⟨by show ¬ (6 : Int) = 0; decide, t0, k0.same a3, kt⟩
  · rw [if_pos (a1.trans hs.1)]
    obtain ⟨j1, j2⟩ := done a3
    exact .inr ⟨rfl, m, hm, hb, he, a2, j1, j2⟩
theorem dk_openP {M : MD} {S : List Prm} {B : List (List Opm)} {O : List Opm} {t : List UInt8} (h : DK M S B O t) (hd : M.dw = false) : OpenedK S B O t (openP M) := by
  unfold openP
  rcases h.log with ⟨h1, rfl, rfl⟩ | ⟨sy, h1, h2, h3⟩
  · -- there is no log yet
    have e : (M.read logK).2 = 3 := by unfold MD.read; rw [if_neg (by simp [hd]), h1]
    rw [if_pos e]
    have hc := create_is h.up h1 M.cap
    have kp := keeps_create logK
    have made : (M.act (opCreate logK)).2.fs = (opCreate logK M.cap M.fs).2 → DK (M.act (opCreate logK)).2 S [] O [] ∧ ∃ sy, logIs (M.act (opCreate logK)).2.fs (EB [] ++ []) sy ∧ (EB []).length ≤ sy ∧ sy ≤ (EB [] ++ []).length := fun e =>
      dk_log (B' := []) (O' := O) (t' := []) h kp spares_logN (by rw [e]; exact hc.2) (Nat.le_refl _) (Nat.le_refl _) (.inl rfl) h.sm
    rcases act_ways hd (opCreate logK) with ⟨a1, _, a3 | a3⟩ | ⟨a1, _, a3⟩ | ⟨a1, a2, a3⟩
    · rw [if_neg (by rw [a1]; decide), a1]
      exact .inl ⟨by show ¬ (7 : Int) = 0; decide, [], h.same a3, fun _ => rfl⟩
    · rw [if_neg (by rw [a1]; decide), a1]
      exact .inl ⟨by show ¬ (7 : Int) = 0; decide, [], (made a3).1, fun _ => rfl⟩
    · rw [if_neg (by rw [a1]; decide), a1]
      exact .inl ⟨by show ¬ (6 : Int) = 0; decide, [], h.same a3, fun _ => rfl⟩
    · rw [if_pos (a1.trans hc.1)]
      obtain ⟨c1, c2⟩ := bats_full (LL := []) (fun L hL => by cases hL)
      have c1' : batsOf [] = [] := c1
      have c2' : endOf [] = 0 := c2
      unfold openQ
      rw [if_neg (by rw [c2']; exact Nat.lt_irrefl _)]
      obtain ⟨j1, sy, j2, _⟩ := made a3
      exact dk_openR (m := []) a2 (.inl rfl) c1' c2' ⟨[], j1, fun _ => rfl⟩ (fun L hL => by cases hL) ⟨sy, j2⟩
  · have hr := read_is hd h1
    rw [hr]
    rw [if_neg (by show ¬ (0 : Int) = 3; decide), if_pos rfl]
    obtain ⟨m, hm, e1, e2, e3, e4, e5, e6⟩ := dk_bats h.part h.sm
    unfold openQ
    rw [e2]
    by_cases hlt : (EB m).length < (EB B ++ t).length
    · rw [if_pos hlt]
      obtain rfl := e5 hlt
      have hc := cut_is h1 (EB m).length e4 M.cap
      rw [e3, Nat.min_eq_right h2] at hc
      have kp := keeps_cut logK ((EB m).length : Int)
      have cutd : (M.act (opCut logK ((EB m).length : Int))).2.fs = (opCut logK ((EB m).length : Int) M.cap M.fs).2 → DK (M.act (opCut logK ((EB m).length : Int))).2 S m O [] ∧ ∃ sy, logIs (M.act (opCut logK ((EB m).length : Int))).2.fs (EB m ++ []) sy ∧ (EB m).length ≤ sy ∧ sy ≤ (EB m ++ []).length := fun e =>
        dk_log (B' := m) (O' := O) (t' := []) h kp (spares_logC _) (by rw [List.append_nil, e]; exact hc.2) (Nat.le_refl _) (by rw [List.append_nil]; exact Nat.le_refl _) (.inl rfl) h.sm
      rcases act_ways hd (opCut logK ((EB m).length : Int)) with ⟨a1, _, a3 | a3⟩ | ⟨a1, _, a3⟩ | ⟨a1, a2, a3⟩
      · rw [if_neg (by rw [a1]; decide), a1]
        exact .inl ⟨by show ¬ (7 : Int) = 0; decide, t, h.same a3, id⟩
      · rw [if_neg (by rw [a1]; decide), a1]
        exact .inl ⟨by show ¬ (7 : Int) = 0; decide, [], (cutd a3).1, fun _ => rfl⟩
      · rw [if_neg (by rw [a1]; decide), a1]
        exact .inl ⟨by show ¬ (6 : Int) = 0; decide, t, h.same a3, id⟩
      · rw [if_pos (a1.trans hc.1)]
        obtain ⟨j1, sy', j2, _⟩ := cutd a3
        rw [List.append_nil] at j2
        exact dk_openR (m := m) a2 (.inl rfl) e1 e2 ⟨[], j1, fun _ => rfl⟩ e6 ⟨sy', j2⟩
    · rw [if_neg hlt]
      have hl : (EB m).length = (EB B ++ t).length := by omega
      have hEB : EB m = EB B ++ t := by rw [← e3, hl, List.take_length]
      exact dk_openR (m := m) hd hm e1 e2 ⟨t, h, id⟩ e6 ⟨sy, by rw [hEB]; exact h1⟩
theorem dk_open {M : MD} {S : List Prm} {B : List (List Opm)} {O : List Opm} {t : List UInt8} (h : DK M S B O t) :
    ((openS M).e ≠ 0 → ∃ t', DK (openS M).M S B O t' ∧ (t = [] → t' = [])) ∧
    ((openS M).e = 0 → (openS M).M.dw = false ∧ ∃ m, (m = B ∨ (t ≠ [] ∧ m = B ++ [O])) ∧ SK (openS M).M (openS M).n false (openS M).L S m O []) := by
  cases hd : M.dw with
  | true =>
    have e : openS M = ⟨7, M, 0, []⟩ := by
      unfold openS
      rw [load_down hd, if_pos (by decide)]
    rw [e]
    exact ⟨fun _ => ⟨t, h, id⟩, fun h => absurd h (by show ¬ (7 : Int) = 0; decide)⟩
  | false =>
    obtain ⟨l1, l2⟩ := dk_load h hd
    rw [openS_e l1, l2]
    rcases dk_openP h hd with ⟨e1, k⟩ | ⟨e1, m, hm, e2, e3, e4, k1, k2⟩
    · rw [if_pos e1]
      exact ⟨fun _ => k, fun h => absurd h e1⟩
    · rw [if_neg (by simp [e1])]
      refine ⟨fun h => absurd rfl h, fun _ => ⟨e4, m, hm, k1, k2, fun _ => e3, fun _ => rfl, ?_⟩⟩
      show applyAll S (openP M).l = _
      rw [e2]
theorem dk_new (cap cr : Int) (dn : Bool) (zs ks : List Int) : DK (MD.new cap cr dn zs ks) [] [] [] [] :=
  ⟨List.Pairwise.nil, .inl ⟨rfl, rfl, rfl⟩, .inl ⟨rfl, rfl⟩, .inl rfl, (fun L hL => by cases hL), List.Pairwise.nil, slim_of (by decide)⟩
theorem calm_openR {M : MD} (h : Still8 M) {b : List UInt8} {x : Ent} (hl : M.fs.find? (isName logK) = some x) : (openR M b).e = 0 ∧ Still8 (openR M b).M ∧ (openR M b).M.cap = M.cap := by
  unfold openR
  rw [h.act]
  have e : (opSync logK M.cap M.fs).1 = 0 := by unfold opSync; rw [hl]
  rw [if_pos e]
  exact ⟨rfl, h.next _, rfl⟩
end Go.Proofs.YthcdkggkoanjpaaGreatDoor
namespace Go.Proofs.YthcdkggkoanjpaaGreatDoor
open Go.RowKit Go.Lib
theorem calm_openP {M : MD} {S : List Prm} {B : List (List Opm)} {O : List Opm} {t : List UInt8} (h : DK M S B O t) (hs : Still8 M) : (openP M).e = 0 ∧ Still8 (openP M).M ∧ (openP M).M.cap = M.cap := by
  unfold openP
  rcases h.log with ⟨h1, rfl, rfl⟩ | ⟨sy, h1, h2, h3⟩
  · have e : (M.read logK).2 = 3 := by unfold MD.read; rw [if_neg (by simp [hs.dw]), h1]
    have hc := create_is h.up h1 M.cap
    rw [if_pos e, hs.act, if_pos hc.1]
    obtain ⟨c1, c2⟩ := bats_full (LL := []) (fun L hL => by cases hL)
    have c2' : endOf [] = 0 := c2
    unfold openQ
    rw [if_neg (by rw [c2']; exact Nat.lt_irrefl _)]
    obtain ⟨g1, g2, g3⟩ := calm_openR (b := []) (hs.next (opCreate logK M.cap M.fs).2) hc.2
    exact ⟨g1, g2, g3⟩
  · rw [read_is hs.dw h1, if_neg (by show ¬ (0 : Int) = 3; decide), if_pos rfl]
    obtain ⟨m, hm, e1, e2, e3, e4, e5, e6⟩ := dk_bats h.part h.sm
    unfold openQ
    rw [e2]
    by_cases hlt : (EB m).length < (EB B ++ t).length
    · rw [if_pos hlt, hs.act]
      have hc := cut_is h1 (EB m).length e4 M.cap
      rw [if_pos hc.1]
      obtain ⟨g1, g2, g3⟩ := calm_openR (b := EB B ++ t) (hs.next (opCut logK (EB m).length M.cap M.fs).2) hc.2
      exact ⟨g1, g2, g3⟩
    · rw [if_neg hlt]
      exact calm_openR hs h1
theorem calm_open {M : MD} {S : List Prm} {B : List (List Opm)} {O : List Opm} {t : List UInt8} (h : DK M S B O t) (hs : Still8 M) : (openS M).e = 0 ∧ Still8 (openS M).M ∧ (openS M).M.cap = M.cap := by
  obtain ⟨l1, l2⟩ := dk_load h hs.dw
  obtain ⟨g1, g2, g3⟩ := calm_openP h hs
  rw [openS_e l1, if_neg (by simp [g1])]
  exact ⟨rfl, g2, g3⟩
theorem calm_commit {M : MD} {n : Nat} {L S : List Prm} {B : List (List Opm)} {O : List Opm} {t : List UInt8} (h : SK M n false L S B O t) (hs : Still8 M) (X : List Opm) :
    (commitP M n false X).s = false ∧ Still8 (commitP M n false X).M ∧ (commitP M n false X).M.cap = M.cap ∧ (okOps X = false → (commitP M n false X).e = 1) ∧
    (okOps X = true → ((commitP M n false X).e = 0 ∧ ¬ M.cap < (tot M.fs : Int) + (frms (recs X)).length) ∨ ((commitP M n false X).e = 5 ∧ M.cap < (tot M.fs : Int) + (frms (recs X)).length)) := by
  unfold commitP
  rw [if_neg (by simp)]
  cases hok : okOps X with
  | false =>
    rw [if_pos rfl]
    exact ⟨rfl, hs, rfl, fun _ => rfl, fun h => (by cases h)⟩
  | true =>
  rw [if_neg (by simp)]
  obtain rfl := h.fine rfl
  obtain rfl := h.n rfl
  obtain ⟨sy, h1, h2, h3⟩ := h.is
  generalize frms (recs X) = x
  unfold commitA
  rw [hs.act]
  rcases append_is h1 x M.cap with ⟨p1, p2, p3⟩ | ⟨p1, p2, p3⟩
  · rw [if_neg (by rw [p1]; decide), p1]
    unfold commitC
    rw [if_neg (by decide)]
    have hs1 := hs.next (opAppend logK x M.cap M.fs).2
    rw [hs1.act]
    have hi : logIs (opAppend logK x M.cap M.fs).2 (EB B ++ []) sy := by rw [p2]; exact h1
    have hc := cut_is hi (EB B).length (by rw [List.append_nil]; exact Nat.le_refl _) M.cap
    refine ⟨?_, hs1.next _, rfl, fun h => (by cases h), fun _ => .inr ⟨rfl, p3⟩⟩
    show decide ((opCut logK ((EB B).length : Int) M.cap (opAppend logK x M.cap M.fs).2).1 ≠ 0) = false
    rw [hc.1]
    rfl
  · rw [if_pos p1]
    have hs1 := hs.next (opAppend logK x M.cap M.fs).2
    rw [hs1.act]
    have hy := sync_is p2 M.cap
    rw [if_pos hy.1]
    exact ⟨rfl, hs1.next _, rfl, fun h => (by cases h), fun _ => .inl ⟨rfl, p3⟩⟩
end Go.Proofs.YthcdkggkoanjpaaGreatDoor
namespace Go.Proofs.YthcdkggkoanjpaaGreatDoor
open Go.RowKit Go.Lib
theorem well_new (K : Nat) (cap cr : Int) (dn : Bool) (zs ks : List Int) (hc : cap ≤ 9223372036854775807) (hz : zs.length ≤ 200) (hk : ks.length ≤ 200) : Well K (MD.new cap cr dn zs ks) 0 :=
  ⟨⟨Int.le_refl _, Nat.zero_le _, Nat.zero_le _, hz, hk, hc⟩, List.Pairwise.nil⟩
theorem well_restart {K : Nat} {M : MD} {j : Nat} (h : Well K M j) {cap cr : Int} {dn : Bool} {zs ks : List Int} (hc : cap ≤ 9223372036854775807) (hz : zs.length ≤ 200) (hk : ks.length ≤ 200) : Well K (M.restart cap cr dn zs ks) (j + 1) :=
  ⟨held_restart h.held hc hz hk, rising_of_names (by show ((resE M.keep M.fs M.fs.length).map (·.1)).Pairwise (· < ·); rw [resE_names]; exact h.up.names)⟩
end Go.Proofs.YthcdkggkoanjpaaGreatDoor
namespace Go.Proofs.YthcdkggkoanjpaaGreatDoor
open Go.RowKit Go.Lib
set_option maxRecDepth 100000
theorem commit_n (M : MD) (n : Nat) (s : Bool) (L : List Opm) : (commitP M n s L).n ≤ n + (frms (recs L)).length := by
  unfold commitP
  split
  · exact Nat.le_add_right _ _
  · split
    · exact Nat.le_add_right _ _
    · unfold commitA
      split
      · split
        · exact Nat.le_refl _
        · rw [commitC_n]; exact Nat.le_add_right _ _
      · rw [commitC_n]; exact Nat.le_add_right _ _
theorem reset_n (M : MD) (n : Nat) (s : Bool) : (resetP M n s).n ≤ n := by
  unfold resetP
  split
  · exact Nat.le_refl _
  · show (if _ then 0 else n) ≤ n
    split
    · exact Nat.zero_le _
    · exact Nat.le_refl _
end Go.Proofs.YthcdkggkoanjpaaGreatDoor
namespace Go.Proofs.YthcdkggkoanjpaaGreatDoor
open Go.RowKit Go.Lib
theorem flatP_bulk_eq (L : List Prm) : bulk (flatP L) = bulkP L + L.length := by
  induction L with
  | nil => rfl
  | cons o L ih =>
    have e : flatP (o :: L) = [o.key, o.val] ++ flatP L := by simp [flatP]
    rw [e, bulk_append, bulkP_cons, List.length_cons]
    simp only [bulk, List.map_cons, List.map_nil, List.sum_cons, List.sum_nil]
    simp only [bulk] at ih
    omega
theorem enc_flatP (L : List Prm) : (enc (flatP L)).length = 4 + 7 * L.length + bulkP L := by
  have h1 := enc_length (flatP L)
  have h2 := flatP_bulk_eq L
  have h3 := flatP_length L
  omega
structure Meas (k : Nat) (L : List Prm) : Prop where
  bulk : bulkP L ≤ 5000 * k
  len : L.length ≤ 60 * k
theorem Meas.nil : Meas 0 [] := ⟨by decide, by decide⟩
theorem Meas.more {i k : Nat} {L : List Prm} (h : Meas i L) (hk : i ≤ k) : Meas k L := ⟨by have := h.bulk; omega, by have := h.len; omega⟩
theorem Meas.apply {k : Nat} {L : List Prm} (h : Meas k L) {X : List Opm} (hx : bulkO X ≤ 5000) (hl : X.length ≤ 60) : Meas (k + 1) (applyP L X) :=
  ⟨by have := bulkP_apply L X; have := h.bulk; omega, by have := apply_length L X; have := h.len; omega⟩
theorem Meas.slim {k : Nat} {L : List Prm} (h : Meas k L) (hk : k ≤ 81) : Slim L :=
  ⟨by have := h.bulk; omega, by rw [enc_flatP]; have := h.bulk; have := h.len; omega⟩
theorem Meas.bytes {k : Nat} {L : List Prm} (h : Meas k L) (hk : k ≤ 81) : (bytesT L).length ≤ 440000 := by
  unfold bytesT
  split
  · rw [frm_length, enc_flatP]; have := h.bulk; have := h.len; omega
  · exact Nat.zero_le _
theorem room10 : RoomW 440000 2000 := ⟨by decide, by decide⟩
theorem well_checkS {K : Nat} {M : MD} {j : Nat} (h : Well K M j) (n : Nat) (s : Bool) {L : List Prm} (hx : (bytesT L).length ≤ K) : Well K (checkS M n s L).M (j + 6) := by
  unfold checkS
  split
  · exact well_more h (by omega)
  · split
    · exact well_more (well_saveT h hx) (by omega)
    · exact well_reset (well_saveT h hx) n s
theorem well_commitS {K : Nat} {M : MD} {j : Nat} (h : Well K M j) (most : Int) (n : Nat) (s : Bool) (L : List Prm) {X : List Opm} (hx : (frms (recs X)).length ≤ K) (hy : (bytesT (applyP L X)).length ≤ K) : Well K (commitS most M n s L X).M (j + 9) := by
  have hc := well_commit h n s X hx
  unfold commitS
  split
  · exact well_more hc (by omega)
  · split
    · exact well_checkS hc _ _ hy
    · exact well_more hc (by omega)
theorem well_openS {K : Nat} {M : MD} {j : Nat} (h : Well K M j) : Well K (openS M).M (j + 3) := by
  unfold openS
  split
  · exact well_more h (by omega)
  · split
    · exact well_open h
    · exact well_open h
theorem check_n (M : MD) (n : Nat) (s : Bool) (L : List Prm) : (checkS M n s L).n ≤ n := by
  unfold checkS
  split
  · exact Nat.le_refl _
  · split
    · exact Nat.le_refl _
    · exact reset_n _ n s
theorem commitS_n (most : Int) (M : MD) (n : Nat) (s : Bool) (L : List Prm) (X : List Opm) : (commitS most M n s L X).n ≤ n + (frms (recs X)).length := by
  have := commit_n M n s X
  unfold commitS
  split
  · exact this
  · split
    · exact Nat.le_trans (check_n _ _ _ _) this
    · exact this
theorem EB_len {B : List (List Opm)} (h : ∀ L ∈ B, small L) : (EB B).length ≤ 26000 * B.length := by
  induction B with
  | nil => exact Nat.zero_le _
  | cons X B ih =>
    have h1 := recs_ok (h X (by simp)).2 (h X (by simp)).1
    have h2 := ih fun L hL => h L (List.mem_cons_of_mem _ hL)
    have e : EB (X :: B) = frms (recs X) ++ EB B := by
      unfold EB allRecs
      rw [List.flatMap_cons, frms_append]
    rw [e, List.length_append, List.length_cons]
    omega
theorem bulkO_flat {B : List (List Opm)} (h : ∀ L ∈ B, small L) : bulkO B.flatten ≤ 5000 * B.length := by
  induction B with
  | nil => exact Nat.zero_le _
  | cons X B ih =>
    have h1 := (h X (by simp)).1
    have h2 := ih fun L hL => h L (List.mem_cons_of_mem _ hL)
    rw [List.flatten_cons, bulkO_append, List.length_cons]
    omega
theorem openR_bad {M : MD} {b : List UInt8} (h : (openR M b).e ≠ 0) : (openR M b).l = [] := by
  unfold openR at h ⊢
  split
  · rename_i h0; rw [if_pos h0] at h; exact absurd rfl h
  · rfl
theorem openQ_bad {M : MD} {b : List UInt8} (h : (openQ M b).e ≠ 0) : (openQ M b).l = [] := by
  unfold openQ at h ⊢
  by_cases h1 : endOf b < b.length
  · rw [if_pos h1] at h ⊢
    by_cases h2 : (M.act (opCut logK (endOf b))).1 = 0
    · rw [if_pos h2] at h ⊢; exact openR_bad h
    · rw [if_neg h2]
  · rw [if_neg h1] at h ⊢; exact openR_bad h
theorem openP_bad {M : MD} (h : (openP M).e ≠ 0) : (openP M).l = [] := by
  unfold openP at h ⊢
  by_cases h1 : (M.read logK).2 = 3
  · rw [if_pos h1] at h ⊢
    by_cases h2 : (M.act (opCreate logK)).1 = 0
    · rw [if_pos h2] at h ⊢; exact openQ_bad h
    · rw [if_neg h2]
  · rw [if_neg h1] at h ⊢
    by_cases h2 : (M.read logK).2 = 0
    · rw [if_pos h2] at h ⊢; exact openQ_bad h
    · rw [if_neg h2]
theorem dk_ofitB {M : MD} {S : List Prm} {B : List (List Opm)} {O : List Opm} {t : List UInt8} (h : DK M S B O t) {K J j : Nat} (hw : Well K M j) (hj : j + 3 ≤ J) (hR : RoomW K J) (hB : B.length ≤ 81) (hS : bulkP S + 5000 * B.length ≤ 640000) : OFit K J j M := by
  have hEB := EB_len h.sm
  have hO : t.length ≤ 26000 := by
    rcases h.part with rfl | ⟨p1, k, rfl⟩
    · exact Nat.zero_le _
    · have := recs_ok p1.2 p1.1
      rw [List.length_take]; omega
  have hsn := bytesT_slim h.slim
  have hlog : (M.read logK).1.length ≤ 7200000 := by
    cases hd : M.dw with
    | true => unfold MD.read; rw [if_pos hd]; exact Nat.zero_le _
    | false =>
      rcases h.log with ⟨h1, _⟩ | ⟨sy, h1, _⟩
      · unfold MD.read; rw [if_neg (by simp [hd]), h1]; exact Nat.zero_le _
      · rw [read_is hd h1, List.length_append]; omega
  have hload : (loadP M).1.length ≤ 1000000 := by
    unfold loadP
    cases hd : M.dw with
    | true => unfold MD.read; rw [if_pos hd]; exact Nat.zero_le _
    | false =>
      rcases h.snap with ⟨h1, _⟩ | h1
      · unfold MD.read; rw [if_neg (by simp [hd]), h1]; exact Nat.zero_le _
      · unfold MD.read; rw [if_neg (by simp [hd]), h1]; show (bytesT S).length ≤ _; omega
  have hL : loadL M = S ∨ loadL M = [] := by
    cases hd : M.dw with
    | false => exact .inl (dk_load h hd).2
    | true =>
      right
      unfold loadL loadP MD.read
      rw [if_pos hd]
      rfl
  have hl : (openP M).l = [] ∨ ((openP M).l = B ∨ (t ≠ [] ∧ (openP M).l = B ++ [O])) := by
    cases hd : M.dw with
    | true =>
      left
      unfold openP
      have e : (M.read logK).2 = 7 := by unfold MD.read; rw [if_pos hd]
      rw [if_neg (by rw [e]; decide), if_neg (by rw [e]; decide)]
    | false =>
      rcases dk_openP h hd with ⟨e1, _⟩ | ⟨_, m, hm, e2, _⟩
      · left; exact openP_bad e1
      · right; rw [e2]; exact hm
  have hsmO : t ≠ [] → small O := fun ht => by
    rcases h.part with h1 | h1
    · exact absurd h1 ht
    · exact h1.1
  have hbB := bulkO_flat h.sm
  refine ⟨hw, hj, hR, hlog, hload, ?_, ?_, ?_⟩
  · have h1 : bulkP (loadL M) ≤ bulkP S := by
      rcases hL with e | e <;> rw [e]
      · exact Nat.le_refl _
      · exact Nat.zero_le _
    have h2 : bulkO (openP M).l.flatten ≤ 5000 * B.length + 5000 := by
      rcases hl with e | e | ⟨ht, e⟩ <;> rw [e]
      · exact Nat.zero_le _
      · omega
      · rw [List.flatten_append, bulkO_append]
        have h3 := (hsmO ht).1
        have h4 : bulkO [O].flatten = bulkO O := by simp
        omega
    omega
  · intro X hX
    have h1 : small X := by
      rcases hl with e | e | ⟨ht, e⟩ <;> rw [e] at hX
      · cases hX
      · exact h.sm X hX
      · rcases List.mem_append.1 hX with hX | hX
        · exact h.sm X hX
        · rw [List.mem_singleton.1 hX]; exact hsmO ht
    exact Nat.le_trans (bulkO_length X) h1.1
  · rcases hL with e | e <;> rw [e]
    · exact h.rise
    · exact List.Pairwise.nil
theorem dk_ofit {M : MD} {S : List Prm} {B : List (List Opm)} {O : List Opm} {t : List UInt8} (h : DK M S B O t) {K J j : Nat} (hw : Well K M j) (hj : j + 3 ≤ J) (hR : RoomW K J) (hB : B.length ≤ 81) (hS : bulkP S ≤ 230000) : OFit K J j M :=
  dk_ofitB h hw hj hR hB (by omega)
end Go.Proofs.YthcdkggkoanjpaaGreatDoor
namespace Go.Proofs.YthcdkggkoanjpaaGreatDoor
open Go.RowKit Go.Lib
structure PS (k : Nat) (M : MD) (n : Nat) (s : Bool) (L S : List Prm) (B : List (List Opm)) (O : List Opm) (t : List UInt8) : Prop where
  sk : SK M n s L S B O t
  well : Well 440000 M (9 * k + 10)
  ml : Meas k L
  ms : Meas k S
  b : B.length ≤ k
  n : n ≤ 26000 * k
def mild (X : List Opm) : Prop := bulkO X ≤ 5000 ∧ X.length ≤ 60
theorem recs_mild {X : List Opm} (hm : mild X) : (frms (recs X)).length ≤ 26000 := by
  have := recs_size hm.1
  have := hm.1
  have := hm.2
  omega
theorem PS.more {k : Nat} {M : MD} {n : Nat} {s : Bool} {L S : List Prm} {B : List (List Opm)} {O : List Opm} {t : List UInt8} (h : PS k M n s L S B O t) : PS (k + 1) M n s L S B O t :=
  ⟨h.sk, well_more h.well (by omega), h.ml.more (by omega), h.ms.more (by omega), by have := h.b; omega, by have := h.n; omega⟩
theorem PS.sfit {k : Nat} {M : MD} {n : Nat} {s : Bool} {L S : List Prm} {B : List (List Opm)} {O : List Opm} {t : List UInt8} (h : PS k M n s L S B O t) (hk : k ≤ 80) {X : List Opm} (hm : mild X) : SFit 440000 2000 (9 * k + 10) M n L X where
  well := h.well
  j := by omega
  room := room10
  x := hm.1
  xK := by have := recs_mild hm; omega
  n := by have := h.n; omega
  sl := h.ml.slim (by omega)
  sl2 := (h.ml.apply hm.1 hm.2).slim (by omega)
  sK := (h.ml.apply hm.1 hm.2).bytes (by omega)
theorem ps_commit {k : Nat} {M : MD} {n : Nat} {s : Bool} {L S : List Prm} {B : List (List Opm)} {O : List Opm} {t : List UInt8} (h : PS k M n s L S B O t) (hk : k ≤ 80) {X : List Opm} (hm : mild X) (most : Int) :
    ((commitS most M n s L X).e = 0 → ∃ S' B', PS (k + 1) (commitS most M n s L X).M (commitS most M n s L X).n (commitS most M n s L X).s (applyP L X) S' B' O [] ∧ (commitS most M n s L X).L = applyP L X) ∧
    ((commitS most M n s L X).e ≠ 0 → (commitS most M n s L X).L = L ∧ ((commitS most M n s L X).e ≠ 8 → okOps X = true → ∃ t', PS (k + 1) (commitS most M n s L X).M (commitS most M n s L X).n (commitS most M n s L X).s L S B X t') ∧
      ((commitS most M n s L X).e = 8 ∨ okOps X = false → PS (k + 1) (commitS most M n s L X).M (commitS most M n s L X).n (commitS most M n s L X).s L S B O t)) := by
  have hx := recs_mild hm
  have hL' := h.ml.apply hm.1 hm.2
  have hw := well_commitS h.well most n s L (X := X) (by omega) (hL'.bytes (by omega))
  have hn := commitS_n most M n s L X
  obtain ⟨c1, c2, c3⟩ := sk_commit h.sk hm.1
  have hnk := h.n
  have hw' : Well 440000 (commitS most M n s L X).M (9 * (k + 1) + 10) := well_more hw (by omega)
  have hn' : (commitS most M n s L X).n ≤ 26000 * (k + 1) := by omega
  obtain ⟨W, hW⟩ : ∃ W, W = commitP M n s X := ⟨_, rfl⟩
  rw [← hW] at c1 c2 c3
  by_cases he : W.e = 0
  · obtain ⟨k1, k2, k3⟩ := c1 he
    by_cases hmo : most < (W.n : Int)
    · have e := commitS_many (L := L) hW he hmo
      obtain ⟨S', B', d1, d2, _⟩ := sk_check k1 (hL'.slim (by omega))
      rw [e] at hw' hn' ⊢
      refine ⟨fun _ => ⟨S', B', ⟨d1, hw', hL', ?_, ?_, hn'⟩, checkS_L _ _ _ _⟩, fun h => absurd rfl h⟩
      · rcases d2 with ⟨rfl, _⟩ | ⟨rfl, _⟩
        · exact h.ms.more (by omega)
        · exact hL'
      · have hb := h.b
        rcases d2 with ⟨_, rfl⟩ | ⟨_, rfl | rfl⟩
        · rw [List.length_append, List.length_singleton]; omega
        · rw [List.length_append, List.length_singleton]; omega
        · exact Nat.zero_le _
    · have e := commitS_few (L := L) hW he hmo
      rw [e] at hw' hn' ⊢
      exact ⟨fun _ => ⟨S, B ++ [X], ⟨k1, hw', hL', h.ms.more (by omega), by have := h.b; rw [List.length_append, List.length_singleton]; omega, hn'⟩, rfl⟩, fun h => absurd rfl h⟩
  · have e := commitS_bad (most := most) (L := L) hW he
    rw [e] at hw' hn' ⊢
    refine ⟨fun h => absurd h he, fun _ => ⟨rfl, fun h8 hok => ?_, fun h8 => ?_⟩⟩
    · obtain ⟨t', k1⟩ := c2 he h8 hok
      exact ⟨t', k1, hw', h.ml.more (by omega), h.ms.more (by omega), by have := h.b; omega, hn'⟩
    · obtain ⟨_, e1, e2, e3⟩ := c3 h8
      refine ⟨?_, hw', h.ml.more (by omega), h.ms.more (by omega), by have := h.b; omega, hn'⟩
      show SK W.M W.n W.s L S B O t
      rw [e1, e2, e3]
      exact h.sk
structure PD (k : Nat) (M : MD) (S : List Prm) (B : List (List Opm)) (O : List Opm) (t : List UInt8) : Prop where
  dk : DK M S B O t
  well : Well 440000 M (9 * k + 10)
  ms : Meas k S
  b : B.length ≤ k
theorem PS.pd {k : Nat} {M : MD} {n : Nat} {s : Bool} {L S : List Prm} {B : List (List Opm)} {O : List Opm} {t : List UInt8} (h : PS k M n s L S B O t) : PD k M S B O t := ⟨h.sk.dk, h.well, h.ms, h.b⟩
theorem PD.ofit {k : Nat} {M : MD} {S : List Prm} {B : List (List Opm)} {O : List Opm} {t : List UInt8} (h : PD k M S B O t) (hk : k ≤ 80) (hS : bulkP S ≤ 230000) : OFit 440000 2000 (9 * k + 10) M := dk_ofit h.dk h.well (by omega) room10 (by have := h.b; omega) hS
theorem pd_new (cap cr : Int) (dn : Bool) (zs ks : List Int) (hc : cap ≤ 9223372036854775807) (hz : zs.length ≤ 200) (hk : ks.length ≤ 200) : PD 0 (MD.new cap cr dn zs ks) [] [] [] [] :=
  ⟨dk_new cap cr dn zs ks, well_more (well_new _ _ _ _ _ _ hc hz hk) (by omega), Meas.nil, Nat.le_refl _⟩
theorem pd_restart {k : Nat} {M : MD} {S : List Prm} {B : List (List Opm)} {O : List Opm} {t : List UInt8} (h : PD k M S B O t) (cap cr : Int) (dn : Bool) (zs ks : List Int) (hc : cap ≤ 9223372036854775807) (hz : zs.length ≤ 200) (hk : ks.length ≤ 200) :
    ∃ t', PD (k + 1) (M.restart cap cr dn zs ks) S B O t' ∧ (t = [] → t' = []) := by
  obtain ⟨t', h1, h2⟩ := dk_restart h.dk cap cr dn zs ks
  exact ⟨t', ⟨h1, well_more (well_restart h.well hc hz hk) (by omega), h.ms.more (by omega), by have := h.b; omega⟩, h2⟩
theorem pd_open {k : Nat} {M : MD} {S : List Prm} {B : List (List Opm)} {O : List Opm} {t : List UInt8} (h : PD k M S B O t) (hl : Meas k (applyAll S B)) (hl2 : t ≠ [] → Meas (k + 1) (applyAll S (B ++ [O]))) :
    ((openS M).e ≠ 0 → ∃ t', PD (k + 1) (openS M).M S B O t' ∧ (t = [] → t' = [])) ∧
    ((openS M).e = 0 → (openS M).M.dw = false ∧ ∃ m, (m = B ∨ (t ≠ [] ∧ m = B ++ [O])) ∧ PS (k + 1) (openS M).M (openS M).n false (openS M).L S m O []) := by
  obtain ⟨o1, o2⟩ := dk_open h.dk
  have hw : Well 440000 (openS M).M (9 * (k + 1) + 10) := well_more (well_openS h.well) (by omega)
  refine ⟨fun he => ?_, fun he => ?_⟩
  · obtain ⟨t', k1, k2⟩ := o1 he
    exact ⟨t', ⟨k1, hw, h.ms.more (by omega), by have := h.b; omega⟩, k2⟩
  · obtain ⟨g1, m, hm, k1⟩ := o2 he
    refine ⟨g1, m, hm, k1, hw, ?_, h.ms.more (by omega), ?_, ?_⟩
    · rw [k1.L]
      rcases hm with rfl | ⟨ht, rfl⟩
      · exact hl.more (by omega)
      · exact hl2 ht
    · rcases hm with rfl | ⟨ht, rfl⟩
      · have := h.b; omega
      · have := h.b; rw [List.length_append, List.length_singleton]; omega
    · rw [k1.n rfl]
      have h1 := EB_len k1.dk.sm
      have h2 := h.b
      rcases hm with rfl | ⟨ht, rfl⟩
      · omega
      · rw [List.length_append, List.length_singleton] at h1; omega
end Go.Proofs.YthcdkggkoanjpaaGreatDoor
