/- Restart of either disk beside the other. Numbers and types by name. -/
import Derived.Test.YthacjeeafnblmaaDoorWpl
import Derived.Test.YthacjeeafnblmaaDoorMvs
/- Logs of whole batches, of batches and a part of one, on a disk that has the log alone: plain facts. Numbers and types by name. -/
namespace Go.Proofs.YthacjeeafnblmaaDoor
open Go.RowKit Go.Lib

/-- The bytes of batches. -/
def EB (LL : List (List Opm)) : List UInt8 := frms (allRecs LL)
theorem EB_nil : EB [] = [] := rfl
theorem EB_snoc (LL : List (List Opm)) (L : List Opm) : EB (LL ++ [L]) = EB LL ++ frms (recs L) := by unfold EB; rw [allRecs_snoc, frms_append]
theorem EB_one (L : List Opm) : EB [L] = frms (recs L) := by unfold EB allRecs; simp

theorem play_all : ∀ (LL : List (List Opm)) (ps : List (List UInt8)) (i : Nat) (done : List (List Opm)), (∀ L ∈ LL, small L) → play (allRecs LL ++ ps) i done [] i = play ps (i + (allRecs LL).length) (done ++ LL) [] (i + (allRecs LL).length)
  | [], ps, i, done, _ => by simp [allRecs]
  | L :: LL, ps, i, done, h => by
    have e : allRecs (L :: LL) ++ ps = recs L ++ (allRecs LL ++ ps) := by simp [allRecs]
    have e2 : (allRecs (L :: LL)).length = L.length + 1 + (allRecs LL).length := by simp [allRecs, recs]; omega
    rw [e, play_recs L (h L (by simp)).1 (h L (by simp)).2, play_all LL ps _ _ (fun L' hL' => h L' (by simp [hL'])), e2]
    simp only [List.append_assoc, List.singleton_append]
    rw [show i + L.length + 1 + (allRecs LL).length = i + (L.length + 1 + (allRecs LL).length) by omega]

theorem allRecs_short {LL : List (List Opm)} (h : ∀ L ∈ LL, small L) : ∀ p ∈ allRecs LL, p.length ≤ 1048576 := fun p hp => by
  obtain ⟨L, hL, hp⟩ := List.mem_flatMap.1 hp
  have := recs_short (h L hL).1 p hp
  omega

/-- Whole batches. -/
theorem bats_full {LL : List (List Opm)} (h : ∀ L ∈ LL, small L) : batsOf (EB LL) = LL ∧ endOf (EB LL) = (EB LL).length := by
  have h1 := scans_frms scans_nil (allRecs LL) (allRecs_short h)
  rw [List.append_nil, List.append_nil] at h1
  have h2 := play_all LL [] 0 [] h
  rw [List.append_nil, Nat.zero_add, List.nil_append] at h2
  have h3 : play (allRecs LL) 0 [] [] 0 = (LL, (allRecs LL).length) := by rw [h2, play]
  unfold batsOf endOf usedOf EB
  rw [scn_of h1, h3]
  exact ⟨rfl, by rw [List.take_length]⟩

/-- Whole batches and a part of one. -/
theorem bats_part {LL : List (List Opm)} (h : ∀ L ∈ LL, small L) {L : List Opm} (hL : small L) {t : Nat} (ht : t < (frms (recs L)).length) : batsOf (EB LL ++ (frms (recs L)).take t) = LL ∧ endOf (EB LL ++ (frms (recs L)).take t) = (EB LL).length := by
  obtain ⟨j, m, hj, hs⟩ := scans_inside (ps := recs L) (fun p hp => by have := recs_short hL.1 p hp; omega) ht
  have h1 := scans_frms hs (allRecs LL) (allRecs_short h)
  have hjl : j ≤ L.length := by unfold recs at hj; simp at hj; omega
  have et : (recs L).take j = (L.take j).map pay := by
    unfold recs
    rw [List.take_append_of_le_length (by simpa using hjl), List.map_take]
  have h2 := play_all LL ((recs L).take j) 0 [] h
  rw [Nat.zero_add, List.nil_append] at h2
  have h3 : play (allRecs LL ++ (recs L).take j) 0 [] [] 0 = (LL, (allRecs LL).length) := by
    rw [h2, et, play_pays _ _ _ _ _ (fun o ho => small_all hL o (List.mem_of_mem_take ho))]
  unfold batsOf endOf usedOf EB
  rw [scn_of h1, h3]
  exact ⟨rfl, by rw [List.take_left' rfl]⟩

theorem find_log (b : List UInt8) (s : Nat) : [((logK, b, s) : Ent)].find? (isName logK) = some (logK, b, s) := by simp [isName]
theorem any_log (b : List UInt8) (s : Nat) : [((logK, b, s) : Ent)].any (isName logK) = true := by simp [isName]
theorem tot_log (b : List UInt8) (s : Nat) : tot [((logK, b, s) : Ent)] = b.length := by simp [tot]
theorem upd_log (u : Ent → Ent) (b : List UInt8) (s : Nat) : updE logK u [((logK, b, s) : Ent)] = [u (logK, b, s)] := by simp [updE, isName]

theorem append_log (l : List UInt8) (cap : Int) (b : List UInt8) (s : Nat) : opAppend logK l cap [(logK, b, s)] = if cap < (b.length : Int) + l.length then (5, [(logK, b, s)]) else (0, [(logK, b ++ l, s)]) := by
  unfold opAppend
  rw [find_log]
  simp only [tot_log]
  split
  · rfl
  · rw [upd_log]
theorem sync_log (cap : Int) (b : List UInt8) (s : Nat) : opSync logK cap [(logK, b, s)] = (0, [(logK, b, b.length)]) := by
  unfold opSync
  rw [find_log]
  simp only [upd_log]
theorem cut_log (n : Nat) (cap : Int) (b : List UInt8) (s : Nat) (hn : n ≤ b.length) : opCut logK n cap [(logK, b, s)] = (0, [(logK, b.take n, min s n)]) := by
  unfold opCut
  rw [find_log]
  simp only [upd_log]
  rw [if_neg (by omega)]
  rfl
theorem create_log (cap : Int) : opCreate logK cap [] = (0, [(logK, [], 0)]) := by
  unfold opCreate
  rw [if_neg (by simp [logK]), if_neg (by simp)]
  rfl

/-- A call that is carried out. -/
def MD.did (M : MD) (op : Opn) : MD := { M with n := M.n + 1, fs := (op M.cap M.fs).2 }
theorem act_calm {M : MD} (h1 : M.dw = false) (h2 : M.n + 1 ≠ M.cr) (h3 : M.fail.contains (M.n + 1) = false) (op : Opn) : M.act op = ((op M.cap M.fs).1, M.did op) := by
  unfold MD.act
  rw [if_neg (by simp [h1]), if_neg h2, if_neg (by simp only [h3]; simp)]
  rfl

/-- A disk with no crash and no failure ahead, and the log alone. -/
structure Calm (M : MD) (b : List UInt8) (s : Nat) : Prop where
  dw : M.dw = false
  cr : M.cr ≤ M.n
  fail : M.fail = []
  fs : M.fs = [(logK, b, s)]

theorem Calm.act {M : MD} {b : List UInt8} {s : Nat} (h : Calm M b s) (op : Opn) : M.act op = ((op M.cap [(logK, b, s)]).1, { M with n := M.n + 1, fs := (op M.cap [(logK, b, s)]).2 }) := by
  rw [act_calm h.dw (by have := h.cr; omega) (by rw [h.fail]; rfl)]
  unfold MD.did
  rw [h.fs]
theorem Calm.next {M : MD} {b b' : List UInt8} {s s' : Nat} (h : Calm M b s) : Calm { M with n := M.n + 1, fs := [(logK, b', s')] } b' s' := ⟨h.dw, by have := h.cr; show M.cr ≤ M.n + 1; omega, h.fail, rfl⟩
theorem Calm.append {M : MD} {b : List UInt8} {s : Nat} (h : Calm M b s) (l : List UInt8) (hc : ¬ M.cap < (b.length : Int) + l.length) : (M.act (opAppend logK l)).1 = 0 ∧ Calm (M.act (opAppend logK l)).2 (b ++ l) s ∧ (M.act (opAppend logK l)).2.cap = M.cap := by
  rw [h.act, append_log, if_neg hc]
  exact ⟨rfl, h.next, rfl⟩
theorem Calm.full {M : MD} {b : List UInt8} {s : Nat} (h : Calm M b s) (l : List UInt8) (hc : M.cap < (b.length : Int) + l.length) : (M.act (opAppend logK l)).1 = 5 ∧ Calm (M.act (opAppend logK l)).2 b s ∧ (M.act (opAppend logK l)).2.cap = M.cap := by
  rw [h.act, append_log, if_pos hc]
  exact ⟨rfl, h.next, rfl⟩
theorem Calm.sync {M : MD} {b : List UInt8} {s : Nat} (h : Calm M b s) : (M.act (opSync logK)).1 = 0 ∧ Calm (M.act (opSync logK)).2 b b.length ∧ (M.act (opSync logK)).2.cap = M.cap := by
  rw [h.act, sync_log]
  exact ⟨rfl, h.next, rfl⟩
theorem Calm.cut {M : MD} {b : List UInt8} {s : Nat} (h : Calm M b s) (n : Nat) (hn : n ≤ b.length) : (M.act (opCut logK n)).1 = 0 ∧ Calm (M.act (opCut logK n)).2 (b.take n) (min s n) ∧ (M.act (opCut logK n)).2.cap = M.cap := by
  rw [h.act, cut_log n _ _ _ hn]
  exact ⟨rfl, h.next, rfl⟩
theorem Calm.read {M : MD} {b : List UInt8} {s : Nat} (h : Calm M b s) : M.read logK = (b, 0) := by
  unfold MD.read
  rw [if_neg (by simp [h.dw]), h.fs, find_log]

/-- Open on a calm disk. -/
theorem Calm.opens {M : MD} {b : List UInt8} {s : Nat} (h : Calm M b s) (he : endOf b ≤ b.length) : (openP M).e = 0 ∧ (openP M).n = endOf b ∧ (openP M).l = batsOf b ∧ Calm (openP M).M (b.take (endOf b)) (endOf b) ∧ (openP M).M.cap = M.cap := by
  unfold openP
  rw [h.read, if_neg (by show ¬ (0 : Int) = 3; decide), if_pos rfl]
  unfold openQ
  by_cases hlt : endOf b < b.length
  · obtain ⟨c1, c2, c3⟩ := h.cut (endOf b) he
    obtain ⟨d1, d2, d3⟩ := c2.sync
    rw [if_pos hlt, if_pos c1]
    unfold openR
    rw [if_pos d1]
    refine ⟨rfl, rfl, rfl, ?_, d3.trans c3⟩
    have : (b.take (endOf b)).length = endOf b := by rw [List.length_take]; omega
    rw [this] at d2
    exact d2
  · obtain ⟨d1, d2, d3⟩ := h.sync
    have heq : endOf b = b.length := by omega
    rw [if_neg hlt]
    unfold openR
    rw [if_pos d1]
    refine ⟨rfl, rfl, rfl, ?_, d3⟩
    rw [heq, List.take_length]
    exact d2
/-- Open on a disk without files, the first two calls of which are carried out. -/
theorem opens_new {M : MD} (hd : M.dw = false) (hfs : M.fs = []) (h1 : M.n + 1 ≠ M.cr) (h2 : M.fail.contains (M.n + 1) = false) (h3 : M.n + 1 + 1 ≠ M.cr) (h4 : M.fail.contains (M.n + 1 + 1) = false) :
    openP M = ⟨0, { M with n := M.n + 1 + 1, fs := [(logK, [], 0)] }, 0, []⟩ := by
  have e1 : M.act (opCreate logK) = (0, { M with n := M.n + 1, fs := [(logK, [], 0)] }) := by
    rw [act_calm hd h1 h2]
    unfold MD.did
    rw [hfs, create_log]
  have e2 : ({ M with n := M.n + 1, fs := [(logK, [], 0)] } : MD).act (opSync logK) = (0, { M with n := M.n + 1 + 1, fs := [(logK, [], 0)] }) := by
    rw [act_calm (M := { M with n := M.n + 1, fs := [(logK, [], 0)] }) hd h3 h4]
    unfold MD.did
    simp only
    rw [sync_log]
    rfl
  have hr : M.read logK = ([], 3) := by
    unfold MD.read
    rw [if_neg (by simp [hd]), hfs]
    rfl
  unfold openP
  rw [hr, if_pos rfl, e1, if_pos rfl]
  unfold openQ
  rw [endOf_nil, if_neg (by simp)]
  unfold openR
  rw [e2, if_pos rfl, endOf_nil, batsOf_nil]

/-- A commit on a calm disk, where there is room for it. -/
theorem Calm.commits {M : MD} {b : List UInt8} {s : Nat} (h : Calm M b s) {L : List Opm} (hok : okOps L = true) (hc : ¬ M.cap < (b.length : Int) + (frms (recs L)).length) (n : Nat) :
    (commitP M n false L).e = 0 ∧ (commitP M n false L).n = n + (frms (recs L)).length ∧ (commitP M n false L).s = false ∧ Calm (commitP M n false L).M (b ++ frms (recs L)) (b ++ frms (recs L)).length ∧ (commitP M n false L).M.cap = M.cap := by
  obtain ⟨a1, a2, a3⟩ := h.append (frms (recs L)) hc
  obtain ⟨b1, b2, b3⟩ := a2.sync
  unfold commitP
  rw [if_neg (by simp), if_neg (by simp [hok])]
  unfold commitA
  rw [if_pos a1, if_pos b1]
  exact ⟨rfl, rfl, rfl, b2, b3.trans a3⟩
/-- And where there is none. -/
theorem Calm.refuses {M : MD} {b : List UInt8} {s : Nat} (h : Calm M b s) {L : List Opm} (hok : okOps L = true) (hc : M.cap < (b.length : Int) + (frms (recs L)).length) :
    (commitP M b.length false L).e = 5 ∧ (commitP M b.length false L).n = b.length ∧ (commitP M b.length false L).s = false ∧ Calm (commitP M b.length false L).M b (min s b.length) ∧ (commitP M b.length false L).M.cap = M.cap := by
  obtain ⟨a1, a2, a3⟩ := h.full (frms (recs L)) hc
  obtain ⟨b1, b2, b3⟩ := a2.cut b.length (Nat.le_refl _)
  unfold commitP
  rw [if_neg (by simp), if_neg (by simp [hok])]
  unfold commitA
  rw [if_neg (by rw [a1]; decide), a1]
  unfold commitC
  rw [if_neg (by decide), b1]
  refine ⟨rfl, rfl, rfl, ?_, b3.trans a3⟩
  rw [List.take_length] at b2
  exact b2
/-- Reset on a calm disk. -/
theorem Calm.resets {M : MD} {b : List UInt8} {s : Nat} (h : Calm M b s) (n : Nat) : resetP M n false = ⟨0, (M.act (opCut logK 0)).2, 0, false⟩ ∧ Calm (M.act (opCut logK 0)).2 [] 0 ∧ (M.act (opCut logK 0)).2.cap = M.cap := by
  obtain ⟨b1, b2, b3⟩ := h.cut 0 (Nat.zero_le _)
  have b1' : (M.act (opCut logK 0)).1 = 0 := b1
  refine ⟨?_, ?_, b3⟩
  · unfold resetP
    rw [if_neg (by simp), b1', if_pos rfl]
    rfl
  · simpa using b2

theorem pays_size (M : List Opm) : (frms (M.map pay)).length ≤ 20 * M.length + bulkO M := by
  induction M with
  | nil => simp [frms]
  | cons o M ih =>
    have e : frms ((o :: M).map pay) = frm (pay o) ++ frms (M.map pay) := by simp [frms]
    have e2 : bulkO (o :: M) = 1 + o.key.size + o.val.size + bulkO M := by simp [bulkO]
    have := pay_length o
    rw [e, List.length_append, frm_length, e2, List.length_cons]
    omega
theorem recs_size {L : List Opm} (hb : bulkO L ≤ 5000) : (frms (recs L)).length ≤ 20 * L.length + bulkO L + 26 := by
  have hn := bulkO_length L
  have h2 := fin_length (n := L.length) (by omega)
  have := pays_size L
  unfold recs
  rw [frms_append, List.length_append]
  have e3 : (frms [fin L.length]).length = 8 + (fin L.length).length := by simp [frms, frm_length]
  omega
/-- How many bytes a batch is. -/
theorem recs_ok {L : List Opm} (hok : okOps L = true) (hb : bulkO L ≤ 5000) : (frms (recs L)).length ≤ 26000 := by
  have h3 : L.length ≤ 1000 := by
    unfold okOps at hok
    simp only [Bool.and_eq_true, decide_eq_true_eq] at hok
    omega
  have := recs_size hb
  omega

end Go.Proofs.YthacjeeafnblmaaDoor

/- Read of either disk beside the other. Numbers and types by name. -/
namespace Go.Proofs.YthacjeeafnblmaaDoor
open Go.RowKit Go.Maps Go.Sort Go.WideMaps

theorem turn_grow {w w' : World} (t : Turn [] w w') : Grow w w' := t.below (Nat.le_refl _) (by simp)
theorem grow_turn {w w' : World} (h : Grow w w') : Turn [] w w' := turn_below h

end Go.Proofs.YthacjeeafnblmaaDoor

/- The reference's Rename. Numbers and types by name. -/
namespace Go.Proofs.YthacjeeafnblmaaDoor
open Go.RowKit Go.Maps Go.Sort Go.WideMaps

theorem woE_none {k : List UInt8} {fs : List Ent} (h : fs.find? (isName k) = none) : woE k fs = fs := by
  unfold woE
  rw [List.filter_eq_self]
  intro x hx
  have := List.find?_eq_none.1 h x hx
  simpa using this

end Go.Proofs.YthacjeeafnblmaaDoor

namespace Go.Proofs.YthacjeeafnblmaaDoor
open Go.RowKit Go.Maps Go.Sort Go.WideMaps

theorem blocks_of (X : Nat → Prop) (v : Value) (zs : List Int) (hX : zs ≠ [] → ∀ a n c, v = .slice (some a) n c → X a.block) : ∃ P : List Nat, (zs ≠ [] → ∀ a n c, v = .slice (some a) n c → a.block ∈ P) ∧ ∀ q ∈ P, X q := by
  by_cases hz : zs = []
  · exact ⟨[], fun h => absurd hz h, by simp⟩
  · by_cases hv : ∃ a n c, v = .slice (some a) n c
    · obtain ⟨a, n, c, rfl⟩ := hv
      exact ⟨[a.block], fun _ a' n' c' e => by cases e; simp, fun q hq => by simp only [List.mem_singleton] at hq; subst hq; exact hX hz a n c rfl⟩
    · exact ⟨[], fun _ a n c e => absurd ⟨a, n, c, e⟩ hv, by simp⟩

end Go.Proofs.YthacjeeafnblmaaDoor
