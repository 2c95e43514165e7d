/- Bytes behind a log's batches; a crash in a commit: plain facts. Numbers and types by name. -/
import Derived.Test.YthacjeeafnblmaaGreatDoorWcm
namespace Go.Proofs.YthacjeeafnblmaaGreatDoor
open Go.RowKit Go.Lib

theorem play_grows : ∀ (ps : List (List UInt8)) (i : Nat) (done : List (List Opm)) (now : List Opm) (used : Nat), ∃ m, (play ps i done now used).1 = done ++ m ∧ (m = [] → (play ps i done now used).2 = used)
  | [], i, done, now, used => ⟨[], by rw [play, List.append_nil], fun _ => by rw [play]⟩
  | p :: ps, i, done, now, used => by
    cases hw : what p now.length with
    | stop => exact ⟨[], by rw [play_stop hw, List.append_nil], fun _ => by rw [play_stop hw]⟩
    | op o =>
      rw [play_op hw]
      exact play_grows ps (i + 1) done (now ++ [o]) used
    | done =>
      rw [play_done hw]
      obtain ⟨m, h1, _⟩ := play_grows ps (i + 1) (done ++ [now]) [] (i + 1)
      exact ⟨[now] ++ m, by rw [h1, List.append_assoc], fun h => by simp at h⟩

/-- One batch, and bytes that make no other. -/
theorem bats_junk {A : List Opm} (hA : small A) (junk : List UInt8) (h1 : (batsOf (frms (recs A) ++ junk)).length = 1) : batsOf (frms (recs A) ++ junk) = [A] ∧ endOf (frms (recs A) ++ junk) = (frms (recs A)).length := by
  obtain ⟨l, n, hs⟩ := scans_total junk
  have hsc := scans_frms hs (recs A) (fun p hp => by have := recs_short hA.1 p hp; omega)
  have hp : play (recs A ++ l) 0 [] [] 0 = play l (0 + A.length + 1) ([] ++ [A]) [] (0 + A.length + 1) := play_recs A hA.1 hA.2 l 0 [] 0
  obtain ⟨m, g1, g2⟩ := play_grows l (0 + A.length + 1) ([] ++ [A]) [] (0 + A.length + 1)
  have hb : batsOf (frms (recs A) ++ junk) = [] ++ [A] ++ m := by
    unfold batsOf
    rw [scn_of hsc, hp, g1]
  have hm : m = [] := by
    rw [hb] at h1
    cases m with
    | nil => rfl
    | cons x m => simp at h1
  have hlen : (recs A).length = 0 + A.length + 1 := by unfold recs; simp
  refine ⟨by rw [hb, hm]; rfl, ?_⟩
  unfold endOf usedOf
  rw [scn_of hsc, hp, g2 hm, ← hlen, List.take_left' rfl]

/-- A new disk with a log of any bytes. -/
theorem junk_calm {y : List UInt8} (hy : y.length ≤ 100000) {M : MD} (hM : M = MD.new 100000 0 false [] []) :
    Calm ((M.act (opCreate logK)).2.act (opAppend logK y)).2 y 0 ∧ ((M.act (opCreate logK)).2.act (opAppend logK y)).2.cap = 100000 := by
  have e1 : M.act (opCreate logK) = (0, { M with n := M.n + 1, fs := [(logK, [], 0)] }) := by
    rw [act_calm (by rw [hM]; rfl) (by rw [hM]; decide) (by rw [hM]; rfl)]
    unfold MD.did
    rw [show M.fs = [] by rw [hM]; rfl, create_log]
  have e2 : ({ M with n := M.n + 1, fs := [(logK, [], 0)] } : MD).act (opAppend logK y) = (0, { M with n := M.n + 1 + 1, fs := [(logK, y, 0)] }) := by
    rw [act_calm (M := { M with n := M.n + 1, fs := [(logK, [], 0)] }) (by show M.dw = false; rw [hM]; rfl) (by show M.n + 1 + 1 ≠ M.cr; rw [hM]; decide) (by show M.fail.contains _ = false; rw [hM]; rfl)]
    unfold MD.did
    simp only
    rw [append_log, if_neg (by show ¬ M.cap < _; rw [hM]; show ¬ (100000 : Int) < _; simp only [List.length_nil]; omega), List.nil_append]
  rw [e1]
  simp only
  rw [e2]
  exact ⟨⟨by show M.dw = false; rw [hM]; rfl, by show M.cr ≤ M.n + 1 + 1; rw [hM]; decide, by show M.fail = []; rw [hM]; rfl, rfl⟩, by show M.cap = 100000; rw [hM]; rfl⟩

/-- A commit of which neither call crashes. -/
theorem commits_early {M : MD} {b : List UInt8} {s n : Nat} (hd : M.dw = false) (hf : M.fail = []) (hfs : M.fs = [(logK, b, s)]) (h1 : M.n + 1 ≠ M.cr) (h2 : M.n + 1 + 1 ≠ M.cr) {L : List Opm} (hok : okOps L = true) (hc : ¬ M.cap < (b.length : Int) + (frms (recs L)).length) :
    commitP M n false L = ⟨0, { M with n := M.n + 1 + 1, fs := [(logK, b ++ frms (recs L), (b ++ frms (recs L)).length)] }, n + (frms (recs L)).length, false⟩ := by
  have a1 : M.act (opAppend logK (frms (recs L))) = (0, { M with n := M.n + 1, fs := [(logK, b ++ frms (recs L), s)] }) := by
    rw [act_calm hd h1 (by rw [hf]; rfl)]
    unfold MD.did
    rw [hfs, append_log, if_neg hc]
  have a2 : ({ M with n := M.n + 1, fs := [(logK, b ++ frms (recs L), s)] } : MD).act (opSync logK) = (0, { M with n := M.n + 1 + 1, fs := [(logK, b ++ frms (recs L), (b ++ frms (recs L)).length)] }) := by
    rw [act_calm (M := { M with n := M.n + 1, fs := [(logK, b ++ frms (recs L), s)] }) hd h2 (by show M.fail.contains _ = false; rw [hf]; rfl)]
    unfold MD.did
    simp only
    rw [sync_log]
  unfold commitP
  rw [if_neg (by simp), if_neg (by simp [hok])]
  unfold commitA
  rw [a1, if_pos rfl, a2, if_pos rfl]
/-- One whose Append crashes. -/
theorem commit_first {M : MD} {b : List UInt8} {s n : Nat} (hd : M.dw = false) (hfs : M.fs = [(logK, b, s)]) (h1 : M.n + 1 = M.cr) {L : List Opm} (hok : okOps L = true) (hc : ¬ M.cap < (b.length : Int) + (frms (recs L)).length) :
    commitP M n false L = ⟨7, { M with n := M.n + 1, dw := true, fs := if M.dn = true then [(logK, b ++ frms (recs L), s)] else [(logK, b, s)] }, n, true⟩ := by
  have a1 : M.act (opAppend logK (frms (recs L))) = (7, { M with n := M.n + 1, dw := true, fs := if M.dn = true then [(logK, b ++ frms (recs L), s)] else [(logK, b, s)] }) := by
    unfold MD.act
    rw [if_neg (by simp [hd]), if_pos h1, hfs, append_log, if_neg hc]
  unfold commitP
  rw [if_neg (by simp), if_neg (by simp [hok])]
  unfold commitA
  rw [a1, if_neg (by show ¬ (7 : Int) = 0; decide)]
  unfold commitC
  rw [if_pos rfl]
/-- One whose Sync crashes. -/
theorem commit_second {M : MD} {b : List UInt8} {s n : Nat} (hd : M.dw = false) (hf : M.fail = []) (hfs : M.fs = [(logK, b, s)]) (h1 : M.n + 1 ≠ M.cr) (h2 : M.n + 1 + 1 = M.cr) {L : List Opm} (hok : okOps L = true) (hc : ¬ M.cap < (b.length : Int) + (frms (recs L)).length) :
    commitP M n false L = ⟨7, { M with n := M.n + 1 + 1, dw := true, fs := if M.dn = true then [(logK, b ++ frms (recs L), (b ++ frms (recs L)).length)] else [(logK, b ++ frms (recs L), s)] }, n, true⟩ := by
  have a1 : M.act (opAppend logK (frms (recs L))) = (0, { M with n := M.n + 1, fs := [(logK, b ++ frms (recs L), s)] }) := by
    rw [act_calm hd h1 (by rw [hf]; rfl)]
    unfold MD.did
    rw [hfs, append_log, if_neg hc]
  have a2 : ({ M with n := M.n + 1, fs := [(logK, b ++ frms (recs L), s)] } : MD).act (opSync logK) = (7, { M with n := M.n + 1 + 1, dw := true, fs := if M.dn = true then [(logK, b ++ frms (recs L), (b ++ frms (recs L)).length)] else [(logK, b ++ frms (recs L), s)] }) := by
    unfold MD.act
    simp only
    rw [if_neg (by simp [hd]), if_pos h2, sync_log]
  unfold commitP
  rw [if_neg (by simp), if_neg (by simp [hok])]
  unfold commitA
  rw [a1, if_pos rfl, a2, if_neg (by show ¬ (7 : Int) = 0; decide)]
  unfold commitC
  rw [if_pos rfl]

/-- Behind the crash: what is there of a file. -/
theorem res_log (k : Nat) (b : List UInt8) (sy : Nat) : resE [(k : Int)] [(logK, b, sy)] 1 = [(logK, b.take (sy + min k (b.length - sy)), sy + min k (b.length - sy))] := by
  unfold resE
  simp [survE]

/-- Whether the batch that crashed is there. -/
def isThere (second dn : Bool) (k n : Nat) : Bool := (second && (dn || decide (n ≤ k))) || (!second && dn && decide (n ≤ k))

theorem open_after {M : MD} {A B : List Opm} (hA : small A) (hB : small B) {t sy k : Nat} {th : Bool} (hkeep : M.keep = [(k : Int)]) (hfs : M.fs = [(logK, frms (recs A) ++ (frms (recs B)).take t, sy)]) (ht : t ≤ (frms (recs B)).length) (hsy : sy ≤ (frms (recs A)).length + t) (hle : (frms (recs A)).length ≤ sy)
    (hth : th = true ↔ (frms (recs A)).length + (frms (recs B)).length ≤ sy + min k ((frms (recs A)).length + t - sy)) :
    (openP (M.restart 100000 0 false [] [])).e = 0 ∧ (openP (M.restart 100000 0 false [] [])).l = (if th = true then [A, B] else [A]) := by
  have htl : ((frms (recs B)).take t).length = t := by rw [List.length_take]; omega
  obtain ⟨q, hq⟩ : ∃ q, q = sy + min k ((frms (recs A)).length + t - sy) := ⟨_, rfl⟩
  rw [← hq] at hth
  have hq1 : (frms (recs A)).length ≤ q := by omega
  have hq2 : q ≤ (frms (recs A)).length + t := by omega
  have hres : (M.restart 100000 0 false [] []).fs = [(logK, (frms (recs A) ++ (frms (recs B)).take t).take q, q)] := by
    show resE M.keep M.fs M.fs.length = _
    rw [hkeep, hfs]
    show resE [(k : Int)] [(logK, _, sy)] 1 = _
    rw [res_log, List.length_append, htl, ← hq]
  have htk : (frms (recs A) ++ (frms (recs B)).take t).take q = EB [A] ++ (frms (recs B)).take (q - (frms (recs A)).length) := by
    rw [List.take_append, List.take_of_length_le hq1, List.take_take, EB_one, Nat.min_eq_left (by omega)]
  rw [htk] at hres
  have hcalm : Calm (M.restart 100000 0 false [] []) (EB [A] ++ (frms (recs B)).take (q - (frms (recs A)).length)) q := ⟨rfl, by show (0 : Int) ≤ 0; decide, rfl, hres⟩
  have hsA : ∀ L ∈ [A], small L := fun L hL => by rw [List.mem_singleton.1 hL]; exact hA
  cases th with
  | true =>
    have h1 := hth.1 rfl
    have hall : (frms (recs B)).take (q - (frms (recs A)).length) = frms (recs B) := List.take_of_length_le (by omega)
    have hsAB : ∀ L ∈ [A] ++ [B], small L := fun L hL => by
      rcases List.mem_append.1 hL with h | h
      · exact hsA L h
      · rw [List.mem_singleton.1 h]; exact hB
    rw [hall, ← EB_snoc] at hcalm
    obtain ⟨c1, c2⟩ := bats_full hsAB
    obtain ⟨f1, f2, f3, _, _⟩ := hcalm.opens (by rw [c2]; exact Nat.le_refl _)
    exact ⟨f1, by rw [f3, c1]; rfl⟩
  | false =>
    have h1 : ¬ (frms (recs A)).length + (frms (recs B)).length ≤ q := fun h => by have := hth.2 h; cases this
    obtain ⟨c1, c2⟩ := bats_part (LL := [A]) hsA hB (t := q - (frms (recs A)).length) (by omega)
    obtain ⟨f1, f2, f3, _, _⟩ := hcalm.opens (by rw [c2, List.length_append]; omega)
    exact ⟨f1, by rw [f3, c1]; rfl⟩

/-- Two commits, the second of which crashes. -/
theorem crash_two {A B : List Opm} (hA : small A) (hB : small B) (second dn : Bool) (k : Nat) {M M1 : MD} (hM : M = MD.new 100000 (if second = true then 6 else 5) dn [] [(k : Int)]) (hM1 : M1 = (openP M).M) {R1 R2 : Wrote} (h1 : R1 = commitP M1 0 false A) (h2 : R2 = commitP R1.M R1.n R1.s B)
    (la : (frms (recs A)).length ≤ 26000) (lb : (frms (recs B)).length ≤ 26000) :
    (openP M).e = 0 ∧ (openP M).n = 0 ∧ (openP M).l = [] ∧ R1.e = 0 ∧ R1.s = false ∧ R1.n = (frms (recs A)).length ∧ R2.e = 7 ∧ R2.s = true ∧ R2.n = (frms (recs A)).length ∧ (openP (R2.M.restart 100000 0 false [] [])).e = 0 ∧
      (openP (R2.M.restart 100000 0 false [] [])).l = (if isThere second dn k (frms (recs B)).length = true then [A, B] else [A]) := by
  have ecr : M.cr = if second = true then 6 else 5 := by rw [hM]; rfl
  have ecr5 : (5 : Int) ≤ M.cr := by rw [ecr]; split <;> decide
  have en : M.n = 0 := by rw [hM]; rfl
  have hO := opens_new (M := M) (by rw [hM]; rfl) (by rw [hM]; rfl) (by omega) (by rw [hM]; rfl) (by omega) (by rw [hM]; rfl)
  rw [hO] at hM1
  have hcap : M.cap = 100000 := by rw [hM]; rfl
  have hR1 : R1 = ⟨0, { M with n := M.n + 1 + 1 + 1 + 1, fs := [(logK, [] ++ frms (recs A), ([] ++ frms (recs A)).length)] }, 0 + (frms (recs A)).length, false⟩ := by
    rw [h1, hM1]
    exact commits_early (M := { M with n := M.n + 1 + 1, fs := [(logK, [], 0)] }) (by show M.dw = false; rw [hM]; rfl) (by show M.fail = []; rw [hM]; rfl) rfl (by show M.n + 1 + 1 + 1 ≠ M.cr; omega) (by show M.n + 1 + 1 + 1 + 1 ≠ M.cr; omega) hA.2 (by show ¬ M.cap < _; rw [hcap]; simp only [List.length_nil]; omega)
  rw [List.nil_append, Nat.zero_add] at hR1
  obtain ⟨MA, hMA⟩ : ∃ MA, MA = ({ M with n := M.n + 1 + 1 + 1 + 1, fs := [(logK, frms (recs A), (frms (recs A)).length)] } : MD) := ⟨_, rfl⟩
  rw [← hMA] at hR1
  have e1 : MA.dw = false := by rw [hMA]; show M.dw = false; rw [hM]; rfl
  have e2 : MA.fail = [] := by rw [hMA]; show M.fail = []; rw [hM]; rfl
  have e3 : MA.fs = [(logK, frms (recs A), (frms (recs A)).length)] := by rw [hMA]
  have e4 : MA.cap = 100000 := by rw [hMA]; exact hcap
  have e5 : MA.keep = [(k : Int)] := by rw [hMA]; show M.keep = _; rw [hM]; rfl
  have e6 : MA.dn = dn := by rw [hMA]; show M.dn = _; rw [hM]; rfl
  have e7 : MA.n = 4 := by rw [hMA]; show M.n + 1 + 1 + 1 + 1 = 4; rw [en]; rfl
  have e8 : MA.cr = if second = true then 6 else 5 := by rw [hMA]; exact ecr
  have hroom : ¬ MA.cap < ((frms (recs A)).length : Int) + (frms (recs B)).length := by rw [e4]; omega
  refine ⟨by rw [hO], by rw [hO], by rw [hO], by rw [hR1], by rw [hR1], by rw [hR1], ?_⟩
  rw [hR1] at h2
  simp only at h2
  have full : (frms (recs B)).take (frms (recs B)).length = frms (recs B) := List.take_length
  cases second with
  | false =>
    rw [commit_first e1 e3 (by rw [e7, e8]; rfl) hB.2 hroom, e6] at h2
    refine ⟨by rw [h2], by rw [h2], by rw [h2], ?_⟩
    cases dn with
    | true =>
      refine open_after hA hB (t := (frms (recs B)).length) (sy := (frms (recs A)).length) (k := k) (by rw [h2]; exact e5) (by rw [h2, full]; rfl) (Nat.le_refl _) (by omega) (Nat.le_refl _) ?_
      simp only [isThere, Bool.false_and, Bool.false_or, Bool.not_false, Bool.true_and, decide_eq_true_eq]
      omega
    | false =>
      refine open_after hA hB (t := 0) (sy := (frms (recs A)).length) (k := k) (by rw [h2]; exact e5) (by rw [h2, List.take_zero, List.append_nil]; rfl) (Nat.zero_le _) (by omega) (Nat.le_refl _) ?_
      have hp : 0 < (frms (recs B)).length := by unfold recs; rw [frms_append, List.length_append]; simp [frms, frm_length]; omega
      simp only [isThere, Bool.false_and, Bool.false_or, Bool.not_false, Bool.and_false]
      constructor
      · intro h; cases h
      · intro h; omega
  | true =>
    rw [commit_second e1 e2 e3 (by rw [e7, e8]; decide) (by rw [e7, e8]; rfl) hB.2 hroom, e6] at h2
    refine ⟨by rw [h2], by rw [h2], by rw [h2], ?_⟩
    cases dn with
    | true =>
      refine open_after hA hB (t := (frms (recs B)).length) (sy := (frms (recs A)).length + (frms (recs B)).length) (k := k) (by rw [h2]; exact e5) (by rw [h2, full, ← List.length_append]; rfl) (Nat.le_refl _) (Nat.le_refl _) (by omega) ?_
      simp only [isThere, Bool.true_and, Bool.true_or, Bool.not_true, Bool.false_and, Bool.or_false]
      constructor
      · intro _; omega
      · intro _; first | rfl | trivial
    | false =>
      refine open_after hA hB (t := (frms (recs B)).length) (sy := (frms (recs A)).length) (k := k) (by rw [h2]; exact e5) (by rw [h2, full]; rfl) (Nat.le_refl _) (by omega) (Nat.le_refl _) ?_
      simp only [isThere, Bool.true_and, Bool.false_or, Bool.not_true, Bool.false_and, Bool.or_false, decide_eq_true_eq]
      omega

end Go.Proofs.YthacjeeafnblmaaGreatDoor
