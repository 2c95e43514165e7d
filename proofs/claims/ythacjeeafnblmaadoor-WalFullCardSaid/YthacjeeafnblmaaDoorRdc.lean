/- The reference's Decode. Numbers and types by name. -/
import Derived.Test.YthacjeeafnblmaaDoorWpl
import Derived.Test.YthacjeeafnblmaaDoorScr
import Derived.Test.YthacjeeafnblmaaDoorTxt
import Derived.Test.YthacjeeafnblmaaDoorOws
/- While a log is not sick, its disk is up, and has the log's file, as long as the log says: plain facts. Numbers and types by name. -/
namespace Go.Proofs.YthacjeeafnblmaaDoor
open Go.RowKit Go.Lib

/-- What a writing call may do to a disk that is up. -/
theorem act_cases {M : MD} (hd : M.dw = false) (op : Opn) :
    ((M.act op).1 = 7 ∧ (M.act op).2.dw = true ∧ ((M.act op).2.fs = M.fs ∨ (M.act op).2.fs = (op M.cap M.fs).2)) ∨
    ((M.act op).1 = 6 ∧ (M.act op).2.dw = false ∧ (M.act op).2.fs = M.fs ∧ (M.act op).2.cap = M.cap) ∨
    ((M.act op).1 = (op M.cap M.fs).1 ∧ (M.act op).2.dw = false ∧ (M.act op).2.fs = (op M.cap M.fs).2 ∧ (M.act op).2.cap = M.cap) := by
  unfold MD.act
  rw [if_neg (by simp [hd])]
  by_cases h1 : M.n + 1 = M.cr
  · rw [if_pos h1]
    refine .inl ⟨rfl, rfl, ?_⟩
    show (if M.dn = true then _ else _) = _ ∨ (if M.dn = true then _ else _) = _
    split
    · exact .inr rfl
    · exact .inl rfl
  · rw [if_neg h1]
    by_cases h2 : M.fail.contains (M.n + 1) = true
    · rw [if_pos h2]
      exact .inr (.inl ⟨rfl, hd, rfl, rfl⟩)
    · rw [if_neg h2]
      exact .inr (.inr ⟨rfl, hd, rfl, rfl⟩)

theorem find_updE {k : List UInt8} {u : Ent → Ent} (hu : ∀ x, (u x).1 = x.1) (fs : List Ent) : (updE k u fs).find? (isName k) = (fs.find? (isName k)).map u := by
  induction fs with
  | nil => rfl
  | cons y l ih =>
    have e : updE k u (y :: l) = (if isName k y = true then u y else y) :: updE k u l := by simp [updE]
    rw [e]
    by_cases hy : isName k y = true
    · have hu' : isName k (u y) = true := by rw [isName_iff, hu]; exact isName_iff.1 hy
      rw [if_pos hy, List.find?_cons_of_pos hu', List.find?_cons_of_pos hy]
      rfl
    · rw [if_neg hy, List.find?_cons_of_neg hy, List.find?_cons_of_neg hy, ih]

/-- The log's file is there, n bytes long. -/
def Long (fs : List Ent) (n : Nat) : Prop := ∃ x, fs.find? (isName logK) = some x ∧ x.2.1.length = n
/-- The disk is up, and has it. -/
def Has (M : MD) (n : Nat) : Prop := M.dw = false ∧ Long M.fs n
/-- Where the log is not sick. -/
def Fits (M : MD) (n : Nat) (s : Bool) : Prop := s = false → Has M n

theorem fits_sick {M : MD} {n : Nat} : Fits M n true := fun h => by cases h
theorem Has.read {M : MD} {n : Nat} (h : Has M n) : (M.read logK).2 = 0 ∧ (M.read logK).1.length = n := by
  obtain ⟨h1, x, h2, h3⟩ := h
  unfold MD.read
  rw [if_neg (by simp [h1]), h2]
  exact ⟨rfl, h3⟩
theorem has_read {M : MD} (h : (M.read logK).2 = 0) : Has M (M.read logK).1.length := by
  unfold MD.read at *
  by_cases hd : M.dw = true
  · rw [if_pos hd] at h; cases h
  · rw [if_neg hd] at h ⊢
    have hd' : M.dw = false := by simpa using hd
    split at h
    · cases h
    · rename_i x hx
      exact ⟨hd', x, hx, rfl⟩

theorem long_append {fs : List Ent} {n : Nat} (h : Long fs n) (l : List UInt8) (cap : Int) : ((opAppend logK l cap fs).1 = 5 ∧ (opAppend logK l cap fs).2 = fs) ∨ ((opAppend logK l cap fs).1 = 0 ∧ Long (opAppend logK l cap fs).2 (n + l.length)) := by
  obtain ⟨x, hx, rfl⟩ := h
  unfold opAppend
  rw [hx]
  simp only
  split
  · exact .inl ⟨rfl, rfl⟩
  · refine .inr ⟨rfl, (x.1, x.2.1 ++ l, x.2.2), ?_, ?_⟩
    · show (updE logK (fun x => (x.1, x.2.1 ++ l, x.2.2)) fs).find? (isName logK) = _
      rw [find_updE (u := fun x => (x.1, x.2.1 ++ l, x.2.2)) (fun _ => rfl), hx]; rfl
    · simp
theorem long_sync {fs : List Ent} {n : Nat} (h : Long fs n) (cap : Int) : (opSync logK cap fs).1 = 0 ∧ Long (opSync logK cap fs).2 n := by
  obtain ⟨x, hx, rfl⟩ := h
  unfold opSync
  rw [hx]
  refine ⟨rfl, (x.1, x.2.1, x.2.1.length), ?_, rfl⟩
  show (updE logK (fun x => (x.1, x.2.1, x.2.1.length)) fs).find? (isName logK) = _
  rw [find_updE (u := fun x => (x.1, x.2.1, x.2.1.length)) (fun _ => rfl), hx]; rfl
theorem long_cut {fs : List Ent} {m : Nat} (h : Long fs m) (n : Nat) (hn : n ≤ m) (cap : Int) : (opCut logK n cap fs).1 = 0 ∧ Long (opCut logK n cap fs).2 n := by
  obtain ⟨x, hx, rfl⟩ := h
  unfold opCut
  rw [hx]
  simp only
  rw [if_neg (by omega)]
  refine ⟨rfl, (x.1, x.2.1.take (n : Int).toNat, min x.2.2 (n : Int).toNat), ?_, ?_⟩
  · show (updE logK (fun x => (x.1, x.2.1.take (n : Int).toNat, min x.2.2 (n : Int).toNat)) fs).find? (isName logK) = _
    rw [find_updE (u := fun x => (x.1, x.2.1.take (n : Int).toNat, min x.2.2 (n : Int).toNat)) (fun _ => rfl), hx]; rfl
  · show (x.2.1.take (n : Int).toNat).length = n
    rw [List.length_take]; omega
theorem long_create {fs : List Ent} (h : Rising fs) (cap : Int) (h0 : (opCreate logK cap fs).1 = 0) : Long (opCreate logK cap fs).2 0 := by
  unfold opCreate at *
  rw [if_neg (by simp [logK])] at h0 ⊢
  by_cases ha : fs.any (isName logK) = true
  · rw [if_pos ha] at h0; cases h0
  · rw [if_neg ha]
    refine ⟨(logK, [], 0), ?_, rfl⟩
    have hr : Rising (insE (logK, [], 0) fs) := insE_rising h (by simpa using ha)
    exact find_self hr (x := (logK, [], 0)) ((insE_perm _ fs).mem_iff.2 (by simp))

theorem has_cut {M : MD} {m : Nat} (h : Has M m) (n : Nat) (hn : n ≤ m) (h0 : (M.act (opCut logK n)).1 = 0) : Has (M.act (opCut logK n)).2 n := by
  rcases act_cases h.1 (opCut logK n) with ⟨a1, _⟩ | ⟨a1, _⟩ | ⟨a1, a2, a3, _⟩
  · rw [h0] at a1; cases a1
  · rw [h0] at a1; cases a1
  · refine ⟨a2, ?_⟩
    rw [a3]; exact (long_cut h.2 n hn M.cap).2
theorem has_sync {M : MD} {n : Nat} (h : Has M n) : ((M.act (opSync logK)).1 = 0 → Has (M.act (opSync logK)).2 n) ∧ ((M.act (opSync logK)).1 ≠ 7 → Has (M.act (opSync logK)).2 n) := by
  have key : (M.act (opSync logK)).1 ≠ 7 → Has (M.act (opSync logK)).2 n := by
    intro h7
    rcases act_cases h.1 (opSync logK) with ⟨a1, _⟩ | ⟨_, a2, a3, _⟩ | ⟨_, a2, a3, _⟩
    · exact absurd a1 h7
    · exact ⟨a2, by rw [a3]; exact h.2⟩
    · exact ⟨a2, by rw [a3]; exact (long_sync h.2 M.cap).2⟩
  exact ⟨fun h0 => key (by rw [h0]; decide), key⟩
theorem has_append {M : MD} {n : Nat} (h : Has M n) (l : List UInt8) : ((M.act (opAppend logK l)).1 = 0 → Has (M.act (opAppend logK l)).2 (n + l.length)) ∧ ((M.act (opAppend logK l)).1 ≠ 0 → (M.act (opAppend logK l)).1 ≠ 7 → Has (M.act (opAppend logK l)).2 n) := by
  rcases act_cases h.1 (opAppend logK l) with ⟨a1, _⟩ | ⟨a1, a2, a3, _⟩ | ⟨a1, a2, a3, _⟩
  · exact ⟨(fun h0 => by rw [h0] at a1; cases a1), fun _ h7 => absurd a1 h7⟩
  · exact ⟨(fun h0 => by rw [h0] at a1; cases a1), fun _ _ => ⟨a2, by rw [a3]; exact h.2⟩⟩
  · rcases long_append h.2 l M.cap with ⟨b1, b2⟩ | ⟨b1, b2⟩
    · exact ⟨(fun h0 => by rw [a1, b1] at h0; cases h0), fun _ _ => ⟨a2, by rw [a3, b2]; exact h.2⟩⟩
    · exact ⟨fun _ => ⟨a2, by rw [a3]; exact b2⟩, fun h0 => by rw [a1, b1] at h0; exact absurd rfl h0⟩

theorem fits_commitC {M : MD} {m : Nat} (e : Int) (n : Nat) (h : e ≠ 7 → Has M m) (hn : n ≤ m) : Fits (commitC M e n).M (commitC M e n).n (commitC M e n).s := by
  unfold commitC
  by_cases h7 : e = 7
  · rw [if_pos h7]; exact fits_sick
  · rw [if_neg h7]
    intro h0
    have h0' : (M.act (opCut logK n)).1 = 0 := by
      have : decide ((M.act (opCut logK n)).1 ≠ 0) = false := h0
      simpa using this
    exact has_cut (h h7) n hn h0'
theorem fits_commit {M : MD} {n : Nat} {s : Bool} (h : Fits M n s) (L : List Opm) : Fits (commitP M n s L).M (commitP M n s L).n (commitP M n s L).s := by
  unfold commitP
  cases s with
  | true => rw [if_pos rfl]; exact h
  | false =>
  rw [if_neg (by simp)]
  cases hok : okOps L with
  | false => rw [if_pos rfl]; exact h
  | true =>
  rw [if_neg (by simp)]
  obtain ⟨a1, a2⟩ := has_append (h rfl) (frms (recs L))
  unfold commitA
  by_cases h0 : (M.act (opAppend logK (frms (recs L)))).1 = 0
  · rw [if_pos h0]
    obtain ⟨b1, b2⟩ := has_sync (a1 h0)
    by_cases h1 : ((M.act (opAppend logK (frms (recs L)))).2.act (opSync logK)).1 = 0
    · rw [if_pos h1]
      exact fun _ => b1 h1
    · rw [if_neg h1]
      exact fits_commitC _ n b2 (by omega)
  · rw [if_neg h0]
    exact fits_commitC _ n (a2 h0) (Nat.le_refl _)
theorem fits_reset {M : MD} {n : Nat} {s : Bool} (h : Fits M n s) : Fits (resetP M n s).M (resetP M n s).n (resetP M n s).s := by
  unfold resetP
  cases s with
  | true => rw [if_pos rfl]; exact h
  | false =>
  rw [if_neg (by simp)]
  intro h0
  have h7 : (M.act (opCut logK 0)).1 ≠ 7 := by
    have : decide ((M.act (opCut logK 0)).1 = 7) = false := h0
    simpa using this
  obtain ⟨hd, hl⟩ := h rfl
  have hc := long_cut hl 0 (Nat.zero_le _) M.cap
  have hc' : (opCut logK 0 M.cap M.fs).1 = 0 ∧ Long (opCut logK 0 M.cap M.fs).2 0 := hc
  rcases act_cases hd (opCut logK 0) with ⟨a1, _⟩ | ⟨a1, a2, a3, _⟩ | ⟨a1, a2, a3, _⟩
  · exact absurd a1 h7
  · refine ⟨a2, ?_⟩
    show Long (M.act (opCut logK 0)).2.fs (if (M.act (opCut logK 0)).1 = 0 then 0 else n)
    rw [a3, a1, if_neg (by decide)]; exact hl
  · refine ⟨a2, ?_⟩
    show Long (M.act (opCut logK 0)).2.fs (if (M.act (opCut logK 0)).1 = 0 then 0 else n)
    rw [a3, a1, hc'.1, if_pos rfl]; exact hc'.2

theorem fits_openR {M : MD} {b : List UInt8} (h : Has M (endOf b)) (h0 : (openR M b).e = 0) : Fits (openR M b).M (openR M b).n false := by
  unfold openR at *
  by_cases h1 : (M.act (opSync logK)).1 = 0
  · rw [if_pos h1]
    exact fun _ => (has_sync h).1 h1
  · rw [if_neg h1] at h0
    exact absurd h0 h1
theorem fits_openQ {M : MD} {b : List UInt8} (h : Has M b.length) (he : endOf b ≤ b.length) (h0 : (openQ M b).e = 0) : Fits (openQ M b).M (openQ M b).n false := by
  unfold openQ at *
  by_cases hlt : endOf b < b.length
  · rw [if_pos hlt] at h0 ⊢
    by_cases h1 : (M.act (opCut logK (endOf b))).1 = 0
    · rw [if_pos h1] at h0 ⊢
      exact fits_openR (has_cut h _ he h1) h0
    · rw [if_neg h1] at h0
      exact absurd h0 h1
  · rw [if_neg hlt] at h0 ⊢
    have e : endOf b = b.length := by omega
    exact fits_openR (by rw [e]; exact h) h0
theorem one_whole {b p r : List UInt8} (h : one? b = some (p, r)) : b.length = 8 + p.length + r.length := by
  by_cases h8 : 8 ≤ b.length
  · obtain ⟨q, hq⟩ : ∃ q : Nat, numOf ((b.drop 0).take 4) = q := ⟨_, (Int.toNat_of_nonneg (numOf_bound _).1).symm⟩
    obtain ⟨s, hs⟩ : ∃ s : Nat, numOf ((b.drop (0 + 4)).take 4) = s := ⟨_, (Int.toNat_of_nonneg (numOf_bound _).1).symm⟩
    have h1 := one_drop (b := b) (k := 0) (by omega) q s hq hs
    rw [List.drop_zero] at h1
    rw [h1] at h
    split at h
    · rename_i hc
      simp only [Option.some.injEq, Prod.mk.injEq] at h
      obtain ⟨rfl, rfl⟩ := h
      simp only [List.length_take, List.length_drop]
      omega
    · cases h
  · have h1 := one_short (b := b) (k := 0) (by omega)
    rw [List.drop_zero] at h1
    rw [h1] at h
    cases h
theorem scans_le {b : List UInt8} {l : List (List UInt8)} {n : Nat} (h : Scans b l n) : n ≤ b.length := by
  induction h with
  | stop _ => exact Nat.zero_le _
  | more h0 _ ih => have := one_whole h0; omega
theorem endOf_le (b : List UInt8) : endOf b ≤ b.length := by
  have h1 := scn_spec b
  have h2 := scans_size h1
  have h3 := frms_take (scn b) (usedOf b)
  have h4 := scans_le h1
  unfold endOf
  omega
theorem fits_open {M : MD} (hr : Rising M.fs) (h0 : (openP M).e = 0) : Fits (openP M).M (openP M).n false := by
  unfold openP at *
  by_cases h3 : (M.read logK).2 = 3
  · rw [if_pos h3] at h0 ⊢
    by_cases h1 : (M.act (opCreate logK)).1 = 0
    · rw [if_pos h1] at h0 ⊢
      refine fits_openQ ?_ (endOf_le _) h0
      have hd : M.dw = false := by
        cases hd : M.dw with
        | false => rfl
        | true => unfold MD.read at h3; rw [if_pos hd] at h3; cases h3
      rcases act_cases hd (opCreate logK) with ⟨a1, _⟩ | ⟨a1, _⟩ | ⟨a1, a2, a3, _⟩
      · rw [h1] at a1; cases a1
      · rw [h1] at a1; cases a1
      · refine ⟨a2, ?_⟩
        rw [a3]; exact long_create hr M.cap (by rw [← a1]; exact h1)
    · rw [if_neg h1] at h0
      exact absurd h0 h1
  · rw [if_neg h3] at h0 ⊢
    by_cases h1 : (M.read logK).2 = 0
    · rw [if_pos h1] at h0 ⊢
      exact fits_openQ (has_read h1) (endOf_le _) h0
    · rw [if_neg h1] at h0
      exact absurd h0 h1

end Go.Proofs.YthacjeeafnblmaaDoor

namespace Go.Proofs.YthacjeeafnblmaaDoor
set_option maxRecDepth 100000
open Go.RowKit Go.Lib

/-- What the reference's Decode leaves. -/
def DecodedR (l : List UInt8) (w : World) (e : Ending) (w' : World) : Prop :=
  Below w.heap.size w w' ∧ ((∃ L ao c, dec l = some L ∧ e = .returned (.tuple #[.slice ao L.length c, .int .i64 0]) ∧ Texts w' (.slice ao L.length c) L.length L) ∨
    (dec l = none ∧ e = .returned (.tuple #[.slice none 0 0, .int .i64 2])))

end Go.Proofs.YthacjeeafnblmaaDoor
