/- What a log keeps whatever a disk's plan says: plain facts. Numbers and types by name. -/
import Derived.Test.YthacjeeafnblmaaGreatDoorWcm
import Derived.Test.YthacjeeafnblmaaGreatDoorWft
namespace Go.Proofs.YthacjeeafnblmaaGreatDoor
open Go.RowKit Go.Lib

/-- What is on the disk: the batches that are sure, and perhaps one more, whole. -/
structure Kept (M : MD) (n : Nat) (s : Bool) (sure : List (List Opm)) (last : List Opm) (more : Bool) : Prop where
  ex : ∃ t sy, M.fs = [(logK, EB sure ++ t, sy)] ∧ (EB sure).length ≤ sy ∧ sy ≤ (EB sure ++ t).length ∧ (s = false → t = []) ∧ (t = [] ∨ (more = true ∧ small last ∧ t = frms (recs last)))
  n : n = (EB sure).length
  dw : M.dw = true → s = true
  sm : ∀ L ∈ sure, small L

theorem Kept.more {M : MD} {n : Nat} {s : Bool} {sure : List (List Opm)} {last : List Opm} {more : Bool} (h : Kept M n s sure last more) (hs : s = false) (L : List Opm) (m : Bool) : Kept M n s sure L m := by
  obtain ⟨⟨t, sy, h1, h2, h3, h4, h5⟩, h6, h7, h8⟩ := h
  exact ⟨⟨t, sy, h1, h2, h3, h4, .inl (h4 hs)⟩, h6, h7, h8⟩

/-- Cut behind a call that failed. -/
theorem kept_cut {M : MD} {sure : List (List Opm)} {t : List UInt8} {sy : Nat} {L : List Opm} (e : Int) (hd : M.dw = false) (hfs : M.fs = [(logK, EB sure ++ t, sy)]) (h1 : (EB sure).length ≤ sy) (h2 : sy ≤ (EB sure ++ t).length) (ht : t = [] ∨ t = frms (recs L)) (hL : small L) (hsm : ∀ L ∈ sure, small L) (h7 : e ≠ 7) :
    Kept (commitC M e (EB sure).length).M (commitC M e (EB sure).length).n (commitC M e (EB sure).length).s sure L true ∧ (commitC M e (EB sure).length).e = e := by
  unfold commitC
  rw [if_neg h7]
  refine ⟨?_, rfl⟩
  have hcut : opCut logK (EB sure).length M.cap M.fs = (0, [(logK, EB sure, (EB sure).length)]) := by
    rw [hfs, cut_log _ _ _ _ (by rw [List.length_append]; omega), List.take_left' rfl, Nat.min_eq_right h1]
  have ht' : t = [] ∨ (true = true ∧ small L ∧ t = frms (recs L)) := ht.imp id fun h => ⟨rfl, hL, h⟩
  rcases act_cases hd (opCut logK (EB sure).length) with ⟨a1, a2, a3⟩ | ⟨a1, a2, a3, _⟩ | ⟨a1, a2, a3, _⟩
  · refine ⟨?_, rfl, fun _ => by simp only [a1]; decide, hsm⟩
    rcases a3 with a3 | a3
    · exact ⟨t, sy, by rw [← hfs]; exact a3, h1, h2, fun h => by simp only [a1] at h; exact absurd h (by decide), ht'⟩
    · exact ⟨[], (EB sure).length, by rw [List.append_nil]; show (M.act _).2.fs = _; rw [a3, hcut], Nat.le_refl _, by rw [List.append_nil]; exact Nat.le_refl _, fun _ => rfl, .inl rfl⟩
  · refine ⟨⟨t, sy, by rw [← hfs]; exact a3, h1, h2, fun h => by simp only [a1] at h; exact absurd h (by decide), ht'⟩, rfl, fun h => ?_, hsm⟩
    have h' : (M.act (opCut logK (EB sure).length)).2.dw = true := h
    rw [a2] at h'; cases h'
  · refine ⟨⟨[], (EB sure).length, by rw [List.append_nil]; show (M.act _).2.fs = _; rw [a3, hcut], Nat.le_refl _, by rw [List.append_nil]; exact Nat.le_refl _, fun _ => rfl, .inl rfl⟩, rfl, fun h => ?_, hsm⟩
    have h' : (M.act (opCut logK (EB sure).length)).2.dw = true := h
    rw [a2] at h'; cases h'

/-- What a commit leaves. -/
theorem kept_commit {M : MD} {n : Nat} {s : Bool} {sure : List (List Opm)} {last : List Opm} {more : Bool} (h : Kept M n s sure last more) {L : List Opm} (hb : bulkO L ≤ 5000) :
    ((commitP M n s L).e = 0 → Kept (commitP M n s L).M (commitP M n s L).n (commitP M n s L).s (sure ++ [L]) last false) ∧
    ((commitP M n s L).e ≠ 0 → (commitP M n s L).e ≠ 8 → okOps L = true → Kept (commitP M n s L).M (commitP M n s L).n (commitP M n s L).s sure L true) ∧
    ((commitP M n s L).e = 8 ∨ okOps L = false → (commitP M n s L).e ≠ 0 ∧ Kept (commitP M n s L).M (commitP M n s L).n (commitP M n s L).s sure last more) := by
  obtain ⟨⟨t, sy, hfs, h1, h2, h4, h5⟩, rfl, h7, h8⟩ := h
  have hk : Kept M (EB sure).length s sure last more := ⟨⟨t, sy, hfs, h1, h2, h4, h5⟩, rfl, h7, h8⟩
  unfold commitP
  cases s with
  | true =>
    rw [if_pos rfl]
    exact ⟨fun h => absurd h (by show ¬ (8 : Int) = 0; decide), fun _ h => absurd rfl h, fun _ => ⟨by show ¬ (8 : Int) = 0; decide, hk⟩⟩
  | false =>
  rw [if_neg (by simp)]
  cases hok : okOps L with
  | false =>
    rw [if_pos rfl]
    exact ⟨fun h => absurd h (by show ¬ (1 : Int) = 0; decide), fun _ _ h => (by cases h), fun _ => ⟨by show ¬ (1 : Int) = 0; decide, hk⟩⟩
  | true =>
  rw [if_neg (by simp)]
  obtain rfl : t = [] := h4 rfl
  rw [List.append_nil] at hfs h2
  have hsy : sy = (EB sure).length := by omega
  subst hsy
  have hL : small L := ⟨hb, hok⟩
  have hd : M.dw = false := by
    cases hd : M.dw with
    | false => rfl
    | true => exact absurd (h7 hd) (by simp)
  generalize hx : frms (recs L) = x
  have happ := append_log x M.cap (EB sure) (EB sure).length
  rw [← hfs] at happ
  -- whatever goes wrong: the batch is not sure
  have bad : ∀ R : Wrote, R.e ≠ 0 → R.e ≠ 8 → Kept R.M R.n R.s sure L true →
      (R.e = 0 → Kept R.M R.n R.s (sure ++ [L]) last false) ∧ (R.e ≠ 0 → R.e ≠ 8 → true = true → Kept R.M R.n R.s sure L true) ∧ (R.e = 8 ∨ true = false → R.e ≠ 0 ∧ Kept R.M R.n R.s sure last more) :=
    fun R r0 r8 hR => ⟨fun h => absurd h r0, fun _ _ _ => hR, fun h => h.elim (fun h => absurd h r8) (fun h => by cases h)⟩
  unfold commitA
  rcases act_cases hd (opAppend logK x) with ⟨a1, a2, a3⟩ | ⟨a1, a2, a3, _⟩ | ⟨a1, a2, a3, _⟩
  · -- the append crashes
    rw [if_neg (by rw [a1]; decide), a1]
    unfold commitC
    rw [if_pos rfl]
    refine bad _ (by show ¬ (7 : Int) = 0; decide) (by show ¬ (7 : Int) = 8; decide) ⟨?_, rfl, fun _ => rfl, h8⟩
    have hf : (M.act (opAppend logK x)).2.fs = [(logK, EB sure, (EB sure).length)] ∨ (M.act (opAppend logK x)).2.fs = [(logK, EB sure ++ x, (EB sure).length)] := by
      rcases a3 with a3 | a3
      · exact .inl (a3.trans hfs)
      · rw [happ] at a3
        split at a3
        · exact .inl (a3.trans hfs)
        · exact .inr (a3.trans rfl)
    rcases hf with hf | hf
    · exact ⟨[], _, by rw [List.append_nil]; exact hf, Nat.le_refl _, by rw [List.append_nil]; exact Nat.le_refl _, fun h => (by cases h), .inl rfl⟩
    · exact ⟨x, _, hf, Nat.le_refl _, by rw [List.length_append]; omega, fun h => (by cases h), .inr ⟨rfl, hL, hx.symm⟩⟩
  · -- the append fails
    rw [if_neg (by rw [a1]; decide), a1]
    obtain ⟨k1, k2⟩ := kept_cut (L := L) (t := []) 6 a2 (by rw [List.append_nil]; exact a3.trans hfs) (Nat.le_refl _) (by rw [List.append_nil]; exact Nat.le_refl _) (.inl rfl) hL h8 (by decide)
    exact bad _ (by rw [k2]; decide) (by rw [k2]; decide) k1
  · rw [happ] at a1 a3
    split at a1
    · -- no room
      next hc =>
      rw [if_pos hc] at a3
      rw [if_neg (by rw [a1]; show ¬ (5 : Int) = 0; decide)]
      have a1' : (M.act (opAppend logK x)).1 = 5 := a1
      rw [a1']
      obtain ⟨k1, k2⟩ := kept_cut (L := L) (t := []) 5 a2 (by rw [List.append_nil]; exact a3.trans hfs) (Nat.le_refl _) (by rw [List.append_nil]; exact Nat.le_refl _) (.inl rfl) hL h8 (by decide)
      exact bad _ (by rw [k2]; decide) (by rw [k2]; decide) k1
    · next hc =>
      rw [if_neg hc] at a3
      have a3' : (M.act (opAppend logK x)).2.fs = [(logK, EB sure ++ x, (EB sure).length)] := a3
      have a1' : (M.act (opAppend logK x)).1 = 0 := a1
      rw [if_pos a1']
      generalize (M.act (opAppend logK x)).2 = M1 at *
      have hsync := sync_log M1.cap (EB sure ++ x) (EB sure).length
      rw [← a3'] at hsync
      rcases act_cases a2 (opSync logK) with ⟨b1, b2, b3⟩ | ⟨b1, b2, b3, _⟩ | ⟨b1, b2, b3, _⟩
      · -- the sync crashes
        rw [if_neg (by rw [b1]; decide), b1]
        unfold commitC
        rw [if_pos rfl]
        refine bad _ (by show ¬ (7 : Int) = 0; decide) (by show ¬ (7 : Int) = 8; decide) ⟨?_, rfl, fun _ => rfl, h8⟩
        rcases b3 with b3 | b3
        · exact ⟨x, _, b3.trans a3', Nat.le_refl _, by rw [List.length_append]; omega, fun h => (by cases h), .inr ⟨rfl, hL, hx.symm⟩⟩
        · rw [hsync] at b3
          exact ⟨x, _, b3, by rw [List.length_append]; omega, Nat.le_refl _, fun h => (by cases h), .inr ⟨rfl, hL, hx.symm⟩⟩
      · -- the sync fails
        rw [if_neg (by rw [b1]; decide), b1]
        obtain ⟨k1, k2⟩ := kept_cut (L := L) (t := x) 6 b2 (b3.trans a3') (Nat.le_refl _) (by rw [List.length_append]; omega) (.inr hx.symm) hL h8 (by decide)
        exact bad _ (by rw [k2]; decide) (by rw [k2]; decide) k1
      · rw [hsync] at b1 b3
        have b1' : (M1.act (opSync logK)).1 = 0 := b1
        rw [if_pos b1']
        refine ⟨fun _ => ⟨⟨[], (EB sure ++ x).length, ?_, ?_, ?_, fun _ => rfl, .inl rfl⟩, ?_, fun h => ?_, fun L' hL' => ?_⟩, fun h => absurd rfl h, fun h => h.elim (fun h => absurd h (by show ¬ (0 : Int) = 8; decide)) (fun h => by cases h)⟩
        · rw [List.append_nil, EB_snoc, hx]; exact b3
        · rw [EB_snoc, hx]; exact Nat.le_refl _
        · rw [List.append_nil, EB_snoc, hx]; exact Nat.le_refl _
        · show (EB sure).length + x.length = _
          rw [EB_snoc, hx, List.length_append]
        · have h' : (M1.act (opSync logK)).2.dw = true := h
          rw [b2] at h'; cases h'
        · rcases List.mem_append.1 hL' with h | h
          · exact h8 L' h
          · rw [List.mem_singleton.1 h]; exact hL

theorem res_one (keep : List Int) (b : List UInt8) (sy : Nat) (h : sy ≤ b.length) : ∃ k, sy ≤ k ∧ k ≤ b.length ∧ resE keep [(logK, b, sy)] 1 = [(logK, b.take k, k)] := by
  refine ⟨sy + min (keep.getD 0 0).toNat (b.length - sy), by omega, by omega, ?_⟩
  unfold resE
  simp [survE]

/-- Behind a crash, and what is opened then. -/
theorem kept_opens {M : MD} {n : Nat} {s : Bool} {sure : List (List Opm)} {last : List Opm} {more : Bool} (h : Kept M n s sure last more) (cap : Int) :
    ∃ m, (m = sure ∨ more = true ∧ m = sure ++ [last]) ∧ (openP (M.restart cap 0 false [] [])).e = 0 ∧ (openP (M.restart cap 0 false [] [])).l = m ∧ (openP (openP (M.restart cap 0 false [] [])).M).e = 0 ∧ (openP (openP (M.restart cap 0 false [] [])).M).l = m := by
  obtain ⟨⟨t, sy, hfs, h1, h2, h4, h5⟩, rfl, h7, h8⟩ := h
  obtain ⟨k, hk1, hk2, hres⟩ := res_one M.keep (EB sure ++ t) sy h2
  have hcalm : Calm (M.restart cap 0 false [] []) ((EB sure ++ t).take k) k := ⟨rfl, by show (0 : Int) ≤ 0; decide, rfl, by show resE M.keep M.fs M.fs.length = _; rw [hfs]; exact hres⟩
  have key : ∃ m, (m = sure ∨ more = true ∧ m = sure ++ [last]) ∧ batsOf ((EB sure ++ t).take k) = m ∧ endOf ((EB sure ++ t).take k) ≤ ((EB sure ++ t).take k).length ∧ ((EB sure ++ t).take k).take (endOf ((EB sure ++ t).take k)) = EB m ∧ ∀ L ∈ m, small L := by
    have htk : (EB sure ++ t).take k = EB sure ++ t.take (k - (EB sure).length) := by rw [List.take_append, List.take_of_length_le (by omega)]
    rw [htk]
    rcases h5 with rfl | ⟨hm, hl, rfl⟩
    · obtain ⟨c1, c2⟩ := bats_full h8
      rw [List.take_nil, List.append_nil, c1, c2]
      exact ⟨sure, .inl rfl, rfl, Nat.le_refl _, List.take_length, h8⟩
    · by_cases hlt : k - (EB sure).length < (frms (recs last)).length
      · obtain ⟨c1, c2⟩ := bats_part h8 hl hlt
        rw [c1, c2]
        exact ⟨sure, .inl rfl, rfl, by rw [List.length_append]; omega, List.take_left' rfl, h8⟩
      · have h9 : ∀ L ∈ sure ++ [last], small L := fun L hL => by
          rcases List.mem_append.1 hL with h | h
          · exact h8 L h
          · rw [List.mem_singleton.1 h]; exact hl
        obtain ⟨c1, c2⟩ := bats_full h9
        rw [List.take_of_length_le (by omega), ← EB_snoc, c1, c2]
        exact ⟨sure ++ [last], .inr ⟨hm, rfl⟩, rfl, Nat.le_refl _, List.take_length, h9⟩
  obtain ⟨m, hm, e1, e2, e3, e4⟩ := key
  obtain ⟨d1, d2, d3, d4, d5⟩ := hcalm.opens e2
  rw [e3] at d4
  obtain ⟨c1, c2⟩ := bats_full e4
  obtain ⟨f1, f2, f3, _, _⟩ := d4.opens (by rw [c2]; exact Nat.le_refl _)
  exact ⟨m, hm, d1, d3.trans e1, f1, f3.trans c1⟩

theorem kept_n {M : MD} {n : Nat} {s : Bool} {sure : List (List Opm)} {last : List Opm} {more : Bool} (h : Kept M n s sure last more) {K J j : Nat} (hR : Room K J) (hw : Well K M j) (hj : j ≤ J) : n ≤ 7200000 := by
  obtain ⟨⟨t, sy, hfs, h1, h2, h4, h5⟩, rfl, h7, h8⟩ := h
  have h3 := well_tot hR hw hj
  rw [hfs, tot_log] at h3
  omega

end Go.Proofs.YthacjeeafnblmaaGreatDoor
