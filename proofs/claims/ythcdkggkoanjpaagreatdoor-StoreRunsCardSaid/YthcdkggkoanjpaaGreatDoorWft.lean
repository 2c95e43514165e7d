/- While a log is not sick, its disk is up, and has the log's file, as long as the log says: plain facts. Numbers and types by name. -/
import Derived.Test.YthcdkggkoanjpaaGreatDoorCuf
import Derived.Test.YthcdkggkoanjpaaGreatDoorSpl
import Derived.Test.YthcdkggkoanjpaaGreatDoorScr
namespace Go.Proofs.YthcdkggkoanjpaaGreatDoor
open Go.RowKit Go.Lib
def small (L : List Opm) : Prop := bulkO L ≤ 5000 ∧ okOps L = true
theorem small_all {L : List Opm} (h : small L) : ∀ o ∈ L, okOp o = true ∧ bulk [o.key, o.val] ≤ 100000 := fun o ho => by
  have hall : L.all okOp = true := by have := h.2; unfold okOps at this; simp only [Bool.and_eq_true] at this; exact this.1
  refine ⟨by simpa using (List.all_eq_true.1 hall) o ho, ?_⟩
  have := bulkO_mem ho
  have := h.1
  simp only [bulk, List.map_cons, List.map_nil, List.sum_cons, List.sum_nil]; omega
theorem play_pays : ∀ (M : List Opm) (i : Nat) (done : List (List Opm)) (now : List Opm) (used : Nat), (∀ o ∈ M, okOp o = true ∧ bulk [o.key, o.val] ≤ 100000) → play (M.map pay) i done now used = (done, used)
  | [], i, done, now, used, _ => rfl
  | o :: M, i, done, now, used, h => by
    rw [List.map_cons, play_op (what_pay o _ (h o (by simp)).2 (h o (by simp)).1)]
    exact play_pays M _ _ _ _ (fun o' ho' => h o' (by simp [ho']))
def allRecs (LL : List (List Opm)) : List (List UInt8) := LL.flatMap recs
theorem allRecs_snoc (LL : List (List Opm)) (L : List Opm) : allRecs (LL ++ [L]) = allRecs LL ++ recs L := by simp [allRecs]
theorem scans_total (b : List UInt8) : ∃ l n, Scans b l n := by
  induction hk : b.length using Nat.strongRecOn generalizing b with
  | _ k ih =>
    cases ho : one? b with
    | none => exact ⟨[], 0, .stop ho⟩
    | some pr =>
      obtain ⟨p, r⟩ := pr
      have hr : r.length < b.length := by
        unfold one? at ho
        split at ho
        · cases ho
        · next n q hn =>
          have hq : q.length < b.length := by
            unfold num? at hn
            split at hn
            · simp only [Option.some.injEq, Prod.mk.injEq] at hn; rw [← hn.2]; simp; omega
            · cases hn
          split at ho
          · cases ho
          · next s q2 hs =>
            have hq2 : q2.length ≤ q.length := by
              unfold num? at hs
              split at hs
              · simp only [Option.some.injEq, Prod.mk.injEq] at hs; rw [← hs.2]; simp
              · cases hs
            split at ho
            · simp only [Option.some.injEq, Prod.mk.injEq] at ho; rw [← ho.2]; simp; omega
            · cases ho
      obtain ⟨l, n, h⟩ := ih r.length (by omega) r rfl
      exact ⟨p :: l, _, .more ho h⟩
def endR (ps : List (List UInt8)) (j : Nat) : Nat := (frms (ps.take j)).length
theorem endR_at (ps : List (List UInt8)) (t : Nat) (ht : t < (frms ps).length) : ∃ j, j < ps.length ∧ endR ps j ≤ t ∧ t < endR ps (j + 1) := by
  have key : ∀ m : Nat, (∃ j, j < m ∧ endR ps j ≤ t ∧ t < endR ps (j + 1)) ∨ endR ps m ≤ t := by
    intro m
    induction m with
    | zero => right; simp [endR, frms]
    | succ m ih =>
      rcases ih with ⟨j, h1, h2, h3⟩ | h
      · exact .inl ⟨j, by omega, h2, h3⟩
      · by_cases h' : endR ps (m + 1) ≤ t
        · exact .inr h'
        · exact .inl ⟨m, by omega, h, by omega⟩
  rcases key ps.length with h | h
  · exact h
  · unfold endR at h; rw [List.take_length] at h; omega
theorem scans_inside {ps : List (List UInt8)} {t : Nat} (hp : ∀ p ∈ ps, p.length ≤ 1048576) (ht : t < (frms ps).length) : ∃ j n, j < ps.length ∧ Scans ((frms ps).take t) (ps.take j) n := by
  obtain ⟨j, hj, h1, h2⟩ := endR_at ps t ht
  have hx : ps[j]? = some (ps[j]'hj) := List.getElem?_eq_getElem hj
  generalize ps[j]'hj = p at hx
  have hs : frms (ps.take (j + 1)) = frms (ps.take j) ++ frm p := by rw [take_more hx, frms_snoc]
  unfold endR at h1 h2
  rw [hs, List.length_append] at h2
  have e : frms ps = frms (ps.take j) ++ (frm p ++ frms (ps.drop (j + 1))) := by
    have e1 : ps = ps.take j ++ ([p] ++ ps.drop (j + 1)) := by
      have := List.take_append_drop (j + 1) ps
      rw [take_more hx, List.append_assoc] at this
      exact this.symm
    conv => lhs; rw [e1]
    simp [frms]
  have e2 : (frms ps).take t = frms (ps.take j) ++ (frm p).take (t - (frms (ps.take j)).length) := by
    rw [e, List.take_append, List.take_of_length_le h1, List.take_append_of_le_length (by omega)]
  exact ⟨j, _, hj, by rw [e2]; exact scans_cut _ p _ (fun x hx => hp x (List.mem_of_mem_take hx)) (.inr ⟨_, by omega, hp p (List.mem_of_getElem? hx), rfl⟩)⟩
end Go.Proofs.YthcdkggkoanjpaaGreatDoor
namespace Go.Proofs.YthcdkggkoanjpaaGreatDoor
open Go.RowKit Go.Lib
def logK : List UInt8 := [108, 111, 103]
def logS : ByteArray := ⟨#[108, 111, 103]⟩
theorem logS_list : logS.data.toList = logK := rfl
noncomputable def scn (b : List UInt8) : List (List UInt8) := Classical.choose (scans_total b)
theorem scn_of {b : List UInt8} {l : List (List UInt8)} {n : Nat} (h : Scans b l n) : scn b = l := by
  obtain ⟨m, hm⟩ := Classical.choose_spec (scans_total b)
  exact (scans_det hm h).1
noncomputable def scnN (b : List UInt8) : Nat := Classical.choose (Classical.choose_spec (scans_total b))
theorem scn_spec (b : List UInt8) : Scans b (scn b) (scnN b) := Classical.choose_spec (Classical.choose_spec (scans_total b))
noncomputable def batsOf (b : List UInt8) : List (List Opm) := (play (scn b) 0 [] [] 0).1
noncomputable def usedOf (b : List UInt8) : Nat := (play (scn b) 0 [] [] 0).2
noncomputable def endOf (b : List UInt8) : Nat := (frms ((scn b).take (usedOf b))).length
structure Opened where
  e : Int
  M : MD
  n : Nat
  l : List (List Opm)
noncomputable def openR (M : MD) (b : List UInt8) : Opened :=
  if (M.act (opSync logK)).1 = 0 then ⟨0, (M.act (opSync logK)).2, endOf b, batsOf b⟩ else ⟨(M.act (opSync logK)).1, (M.act (opSync logK)).2, 0, []⟩
noncomputable def openQ (M : MD) (b : List UInt8) : Opened :=
  if endOf b < b.length then
    if (M.act (opCut logK (endOf b))).1 = 0 then openR (M.act (opCut logK (endOf b))).2 b else ⟨(M.act (opCut logK (endOf b))).1, (M.act (opCut logK (endOf b))).2, 0, []⟩
  else openR M b
noncomputable def openP (M : MD) : Opened :=
  if (M.read logK).2 = 3 then
    if (M.act (opCreate logK)).1 = 0 then openQ (M.act (opCreate logK)).2 [] else ⟨(M.act (opCreate logK)).1, (M.act (opCreate logK)).2, 0, []⟩
  else if (M.read logK).2 = 0 then openQ M (M.read logK).1 else ⟨(M.read logK).2, M, 0, []⟩
structure Wrote where
  e : Int
  M : MD
  n : Nat
  s : Bool
def commitC (M : MD) (e : Int) (n : Nat) : Wrote :=
  if e = 7 then ⟨7, M, n, true⟩ else ⟨e, (M.act (opCut logK n)).2, n, decide ((M.act (opCut logK n)).1 ≠ 0)⟩
def commitA (M : MD) (n : Nat) (x : List UInt8) : Wrote :=
  if (M.act (opAppend logK x)).1 = 0 then
    if ((M.act (opAppend logK x)).2.act (opSync logK)).1 = 0 then ⟨0, ((M.act (opAppend logK x)).2.act (opSync logK)).2, n + x.length, false⟩
    else commitC ((M.act (opAppend logK x)).2.act (opSync logK)).2 ((M.act (opAppend logK x)).2.act (opSync logK)).1 n
  else commitC (M.act (opAppend logK x)).2 (M.act (opAppend logK x)).1 n
def commitP (M : MD) (n : Nat) (s : Bool) (L : List Opm) : Wrote :=
  if s = true then ⟨8, M, n, s⟩ else if okOps L = false then ⟨1, M, n, s⟩ else commitA M n (frms (recs L))
def resetP (M : MD) (n : Nat) (s : Bool) : Wrote :=
  if s = true then ⟨8, M, n, s⟩ else ⟨(M.act (opCut logK 0)).1, (M.act (opCut logK 0)).2, if (M.act (opCut logK 0)).1 = 0 then 0 else n, decide ((M.act (opCut logK 0)).1 = 7)⟩
theorem scans_size {b : List UInt8} {l : List (List UInt8)} {n : Nat} (h : Scans b l n) : (frms l).length = n := by
  induction h with
  | stop _ => simp [frms]
  | more _ _ ih =>
    rw [show ∀ (p : List UInt8) (l : List (List UInt8)), frms (p :: l) = frm p ++ frms l from fun p l => by simp [frms], List.length_append, frm_length, ih]
theorem frms_take (l : List (List UInt8)) (i : Nat) : (frms (l.take i)).length ≤ (frms l).length := by
  conv => rhs; rw [← List.take_append_drop i l, frms_append, List.length_append]
  omega
theorem frms_next {l : List (List UInt8)} {i : Nat} {p : List UInt8} (h : l[i]? = some p) : (frms (l.take (i + 1))).length = (frms (l.take i)).length + 8 + p.length := by
  have hlt := (List.getElem?_eq_some_iff.1 h).1
  rw [List.getElem?_eq_getElem hlt] at h
  rw [List.take_succ_eq_append_getElem hlt, frms_append, List.length_append, Option.some.inj h]
  simp [frms, frm_length]; omega
theorem well_openR {K : Nat} {M : MD} {j : Nat} (h : Well K M j) (b : List UInt8) : Well K (openR M b).M (j + 1) := by
  unfold openR
  split <;> exact well_sync h logK
theorem well_openQ {K : Nat} {M : MD} {j : Nat} (h : Well K M j) (b : List UInt8) : Well K (openQ M b).M (j + 2) := by
  unfold openQ
  split
  · split
    · exact well_openR (well_cut h logK _) b
    · exact well_more (well_cut h logK _) (by omega)
  · exact well_more (well_openR h b) (by omega)
theorem well_open {K : Nat} {M : MD} {j : Nat} (h : Well K M j) : Well K (openP M).M (j + 3) := by
  unfold openP
  split
  · split
    · exact well_openQ (well_create h logK) []
    · exact well_more (well_create h logK) (by omega)
  · split
    · exact well_more (well_openQ h _) (by omega)
    · exact well_more h (by omega)
theorem well_commitC {K : Nat} {M : MD} {j : Nat} (h : Well K M j) (e : Int) (n : Nat) : Well K (commitC M e n).M (j + 1) := by
  unfold commitC
  split
  · exact well_more h (by omega)
  · exact well_cut h logK _
theorem well_commitA {K : Nat} {M : MD} {j : Nat} (h : Well K M j) (n : Nat) (x : List UInt8) (hx : x.length ≤ K) : Well K (commitA M n x).M (j + 3) := by
  have ha := well_append h logK x hx
  have hs := well_sync ha logK
  unfold commitA
  split
  · split
    · exact well_more hs (by omega)
    · exact well_commitC hs _ n
  · exact well_more (well_commitC ha _ n) (by omega)
theorem well_commit {K : Nat} {M : MD} {j : Nat} (h : Well K M j) (n : Nat) (s : Bool) (L : List Opm) (hx : (frms (recs L)).length ≤ K) : Well K (commitP M n s L).M (j + 3) := by
  unfold commitP
  split
  · exact well_more h (by omega)
  · split
    · exact well_more h (by omega)
    · exact well_commitA h n _ hx
theorem well_reset {K : Nat} {M : MD} {j : Nat} (h : Well K M j) (n : Nat) (s : Bool) : Well K (resetP M n s).M (j + 1) := by
  unfold resetP
  split
  · exact well_more h (by omega)
  · exact well_cut h logK 0
end Go.Proofs.YthcdkggkoanjpaaGreatDoor
namespace Go.Proofs.YthcdkggkoanjpaaGreatDoor
open Go.RowKit Go.Lib
theorem act_cases {M : MD} (hd : M.dw = false) (op : Opn) :
    ((M.act op).1 = 7 ∧ (M.act op).2.dw = true ∧ ((M.act op).2.fs = M.fs ∨ (M.act op).2.fs = (op M.cap M.fs).2)) ∨
    ((M.act op).1 = 6 ∧ (M.act op).2.dw = false ∧ (M.act op).2.fs = M.fs ∧ (M.act op).2.cap = M.cap) ∨
    ((M.act op).1 = (op M.cap M.fs).1 ∧ (M.act op).2.dw = false ∧ (M.act op).2.fs = (op M.cap M.fs).2 ∧ (M.act op).2.cap = M.cap) := by
  unfold MD.act
  rw [if_neg (by simp [hd])]
  by_cases h1 : M.n + 1 = M.cr
  · rw [if_pos h1]
    refine .inl ⟨rfl, rfl, ?_⟩
    show (if M.dn = true then _ else _) = _ ∨ (if M.dn = true then _ else _) = _
    split
    · exact .inr rfl
    · exact .inl rfl
  · rw [if_neg h1]
    by_cases h2 : M.fail.contains (M.n + 1) = true
    · rw [if_pos h2]
      exact .inr (.inl ⟨rfl, hd, rfl, rfl⟩)
    · rw [if_neg h2]
      exact .inr (.inr ⟨rfl, hd, rfl, rfl⟩)
theorem find_updE {k : List UInt8} {u : Ent → Ent} (hu : ∀ x, (u x).1 = x.1) (fs : List Ent) : (updE k u fs).find? (isName k) = (fs.find? (isName k)).map u := by
  induction fs with
  | nil => rfl
  | cons y l ih =>
    have e : updE k u (y :: l) = (if isName k y = true then u y else y) :: updE k u l := by simp [updE]
    rw [e]
    by_cases hy : isName k y = true
    · have hu' : isName k (u y) = true := by rw [isName_iff, hu]; exact isName_iff.1 hy
      rw [if_pos hy, List.find?_cons_of_pos hu', List.find?_cons_of_pos hy]
      rfl
    · rw [if_neg hy, List.find?_cons_of_neg hy, List.find?_cons_of_neg hy, ih]
def Long (fs : List Ent) (n : Nat) : Prop := ∃ x, fs.find? (isName logK) = some x ∧ x.2.1.length = n
def Has (M : MD) (n : Nat) : Prop := M.dw = false ∧ Long M.fs n
def Fits (M : MD) (n : Nat) (s : Bool) : Prop := s = false → Has M n
theorem fits_sick {M : MD} {n : Nat} : Fits M n true := fun h => by cases h
theorem Has.read {M : MD} {n : Nat} (h : Has M n) : (M.read logK).2 = 0 ∧ (M.read logK).1.length = n := by
  obtain ⟨h1, x, h2, h3⟩ := h
  unfold MD.read
  rw [if_neg (by simp [h1]), h2]
  exact ⟨rfl, h3⟩
theorem has_read {M : MD} (h : (M.read logK).2 = 0) : Has M (M.read logK).1.length := by
  unfold MD.read at *
  by_cases hd : M.dw = true
  · rw [if_pos hd] at h; cases h
  · rw [if_neg hd] at h ⊢
    have hd' : M.dw = false := by simpa using hd
    split at h
    · cases h
    · rename_i x hx
      exact ⟨hd', x, hx, rfl⟩
theorem long_append {fs : List Ent} {n : Nat} (h : Long fs n) (l : List UInt8) (cap : Int) : ((opAppend logK l cap fs).1 = 5 ∧ (opAppend logK l cap fs).2 = fs) ∨ ((opAppend logK l cap fs).1 = 0 ∧ Long (opAppend logK l cap fs).2 (n + l.length)) := by
  obtain ⟨x, hx, rfl⟩ := h
  unfold opAppend
  rw [hx]
  simp only
  split
  · exact .inl ⟨rfl, rfl⟩
  · refine .inr ⟨rfl, (x.1, x.2.1 ++ l, x.2.2), ?_, ?_⟩
    · show (updE logK (fun x => (x.1, x.2.1 ++ l, x.2.2)) fs).find? (isName logK) = _
      rw [find_updE (u := fun x => (x.1, x.2.1 ++ l, x.2.2)) (fun _ => rfl), hx]; rfl
    · simp
theorem long_sync {fs : List Ent} {n : Nat} (h : Long fs n) (cap : Int) : (opSync logK cap fs).1 = 0 ∧ Long (opSync logK cap fs).2 n := by
  obtain ⟨x, hx, rfl⟩ := h
  unfold opSync
  rw [hx]
  refine ⟨rfl, (x.1, x.2.1, x.2.1.length), ?_, rfl⟩
  show (updE logK (fun x => (x.1, x.2.1, x.2.1.length)) fs).find? (isName logK) = _
  rw [find_updE (u := fun x => (x.1, x.2.1, x.2.1.length)) (fun _ => rfl), hx]; rfl
theorem long_cut {fs : List Ent} {m : Nat} (h : Long fs m) (n : Nat) (hn : n ≤ m) (cap : Int) : (opCut logK n cap fs).1 = 0 ∧ Long (opCut logK n cap fs).2 n := by
  obtain ⟨x, hx, rfl⟩ := h
  unfold opCut
  rw [hx]
  simp only
  rw [if_neg (by omega)]
  refine ⟨rfl, (x.1, x.2.1.take (n : Int).toNat, min x.2.2 (n : Int).toNat), ?_, ?_⟩
  · show (updE logK (fun x => (x.1, x.2.1.take (n : Int).toNat, min x.2.2 (n : Int).toNat)) fs).find? (isName logK) = _
    rw [find_updE (u := fun x => (x.1, x.2.1.take (n : Int).toNat, min x.2.2 (n : Int).toNat)) (fun _ => rfl), hx]; rfl
  · show (x.2.1.take (n : Int).toNat).length = n
    rw [List.length_take]; omega
theorem long_create {fs : List Ent} (h : Rising fs) (cap : Int) (h0 : (opCreate logK cap fs).1 = 0) : Long (opCreate logK cap fs).2 0 := by
  unfold opCreate at *
  rw [if_neg (by simp [logK])] at h0 ⊢
  by_cases ha : fs.any (isName logK) = true
  · rw [if_pos ha] at h0; cases h0
  · rw [if_neg ha]
    refine ⟨(logK, [], 0), ?_, rfl⟩
    have hr : Rising (insE (logK, [], 0) fs) := insE_rising h (by simpa using ha)
    exact find_self hr (x := (logK, [], 0)) ((insE_perm _ fs).mem_iff.2 (by simp))
theorem has_cut {M : MD} {m : Nat} (h : Has M m) (n : Nat) (hn : n ≤ m) (h0 : (M.act (opCut logK n)).1 = 0) : Has (M.act (opCut logK n)).2 n := by
  rcases act_cases h.1 (opCut logK n) with ⟨a1, _⟩ | ⟨a1, _⟩ | ⟨a1, a2, a3, _⟩
  · rw [h0] at a1; cases a1
  · rw [h0] at a1; cases a1
  · refine ⟨a2, ?_⟩
    rw [a3]; exact (long_cut h.2 n hn M.cap).2
theorem has_sync {M : MD} {n : Nat} (h : Has M n) : ((M.act (opSync logK)).1 = 0 → Has (M.act (opSync logK)).2 n) ∧ ((M.act (opSync logK)).1 ≠ 7 → Has (M.act (opSync logK)).2 n) := by
  have key : (M.act (opSync logK)).1 ≠ 7 → Has (M.act (opSync logK)).2 n := by
    intro h7
    rcases act_cases h.1 (opSync logK) with ⟨a1, _⟩ | ⟨_, a2, a3, _⟩ | ⟨_, a2, a3, _⟩
    · exact absurd a1 h7
    · exact ⟨a2, by rw [a3]; exact h.2⟩
    · exact ⟨a2, by rw [a3]; exact (long_sync h.2 M.cap).2⟩
  exact ⟨fun h0 => key (by rw [h0]; decide), key⟩
theorem has_append {M : MD} {n : Nat} (h : Has M n) (l : List UInt8) : ((M.act (opAppend logK l)).1 = 0 → Has (M.act (opAppend logK l)).2 (n + l.length)) ∧ ((M.act (opAppend logK l)).1 ≠ 0 → (M.act (opAppend logK l)).1 ≠ 7 → Has (M.act (opAppend logK l)).2 n) := by
  rcases act_cases h.1 (opAppend logK l) with ⟨a1, _⟩ | ⟨a1, a2, a3, _⟩ | ⟨a1, a2, a3, _⟩
  · exact ⟨(fun h0 => by rw [h0] at a1; cases a1), fun _ h7 => absurd a1 h7⟩
  · exact ⟨(fun h0 => by rw [h0] at a1; cases a1), fun _ _ => ⟨a2, by rw [a3]; exact h.2⟩⟩
  · rcases long_append h.2 l M.cap with ⟨b1, b2⟩ | ⟨b1, b2⟩
    · exact ⟨(fun h0 => by rw [a1, b1] at h0; cases h0), fun _ _ => ⟨a2, by rw [a3, b2]; exact h.2⟩⟩
    · exact ⟨fun _ => ⟨a2, by rw [a3]; exact b2⟩, fun h0 => by rw [a1, b1] at h0; exact absurd rfl h0⟩
theorem fits_commitC {M : MD} {m : Nat} (e : Int) (n : Nat) (h : e ≠ 7 → Has M m) (hn : n ≤ m) : Fits (commitC M e n).M (commitC M e n).n (commitC M e n).s := by
  unfold commitC
  by_cases h7 : e = 7
  · rw [if_pos h7]; exact fits_sick
  · rw [if_neg h7]
    intro h0
    have h0' : (M.act (opCut logK n)).1 = 0 := by
      have : decide ((M.act (opCut logK n)).1 ≠ 0) = false := h0
      simpa using this
    exact has_cut (h h7) n hn h0'
theorem fits_commit {M : MD} {n : Nat} {s : Bool} (h : Fits M n s) (L : List Opm) : Fits (commitP M n s L).M (commitP M n s L).n (commitP M n s L).s := by
  unfold commitP
  cases s with
  | true => rw [if_pos rfl]; exact h
  | false =>
  rw [if_neg (by simp)]
  cases hok : okOps L with
  | false => rw [if_pos rfl]; exact h
  | true =>
  rw [if_neg (by simp)]
  obtain ⟨a1, a2⟩ := has_append (h rfl) (frms (recs L))
  unfold commitA
  by_cases h0 : (M.act (opAppend logK (frms (recs L)))).1 = 0
  · rw [if_pos h0]
    obtain ⟨b1, b2⟩ := has_sync (a1 h0)
    by_cases h1 : ((M.act (opAppend logK (frms (recs L)))).2.act (opSync logK)).1 = 0
    · rw [if_pos h1]
      exact fun _ => b1 h1
    · rw [if_neg h1]
      exact fits_commitC _ n b2 (by omega)
  · rw [if_neg h0]
    exact fits_commitC _ n (a2 h0) (Nat.le_refl _)
theorem fits_reset {M : MD} {n : Nat} {s : Bool} (h : Fits M n s) : Fits (resetP M n s).M (resetP M n s).n (resetP M n s).s := by
  unfold resetP
  cases s with
  | true => rw [if_pos rfl]; exact h
  | false =>
  rw [if_neg (by simp)]
  intro h0
  have h7 : (M.act (opCut logK 0)).1 ≠ 7 := by
    have : decide ((M.act (opCut logK 0)).1 = 7) = false := h0
    simpa using this
  obtain ⟨hd, hl⟩ := h rfl
  have hc := long_cut hl 0 (Nat.zero_le _) M.cap
  have hc' : (opCut logK 0 M.cap M.fs).1 = 0 ∧ Long (opCut logK 0 M.cap M.fs).2 0 := hc
  rcases act_cases hd (opCut logK 0) with ⟨a1, _⟩ | ⟨a1, a2, a3, _⟩ | ⟨a1, a2, a3, _⟩
  · exact absurd a1 h7
  · refine ⟨a2, ?_⟩
    show Long (M.act (opCut logK 0)).2.fs (if (M.act (opCut logK 0)).1 = 0 then 0 else n)
    rw [a3, a1, if_neg (by decide)]; exact hl
  · refine ⟨a2, ?_⟩
    show Long (M.act (opCut logK 0)).2.fs (if (M.act (opCut logK 0)).1 = 0 then 0 else n)
    rw [a3, a1, hc'.1, if_pos rfl]; exact hc'.2
theorem fits_openR {M : MD} {b : List UInt8} (h : Has M (endOf b)) (h0 : (openR M b).e = 0) : Fits (openR M b).M (openR M b).n false := by
  unfold openR at *
  by_cases h1 : (M.act (opSync logK)).1 = 0
  · rw [if_pos h1]
    exact fun _ => (has_sync h).1 h1
  · rw [if_neg h1] at h0
    exact absurd h0 h1
theorem fits_openQ {M : MD} {b : List UInt8} (h : Has M b.length) (he : endOf b ≤ b.length) (h0 : (openQ M b).e = 0) : Fits (openQ M b).M (openQ M b).n false := by
  unfold openQ at *
  by_cases hlt : endOf b < b.length
  · rw [if_pos hlt] at h0 ⊢
    by_cases h1 : (M.act (opCut logK (endOf b))).1 = 0
    · rw [if_pos h1] at h0 ⊢
      exact fits_openR (has_cut h _ he h1) h0
    · rw [if_neg h1] at h0
      exact absurd h0 h1
  · rw [if_neg hlt] at h0 ⊢
    have e : endOf b = b.length := by omega
    exact fits_openR (by rw [e]; exact h) h0
theorem one_whole {b p r : List UInt8} (h : one? b = some (p, r)) : b.length = 8 + p.length + r.length := by
  by_cases h8 : 8 ≤ b.length
  · obtain ⟨q, hq⟩ : ∃ q : Nat, numOf ((b.drop 0).take 4) = q := ⟨_, (Int.toNat_of_nonneg (numOf_bound _).1).symm⟩
    obtain ⟨s, hs⟩ : ∃ s : Nat, numOf ((b.drop (0 + 4)).take 4) = s := ⟨_, (Int.toNat_of_nonneg (numOf_bound _).1).symm⟩
    have h1 := one_drop (b := b) (k := 0) (by omega) q s hq hs
    rw [List.drop_zero] at h1
    rw [h1] at h
    split at h
    · rename_i hc
      simp only [Option.some.injEq, Prod.mk.injEq] at h
      obtain ⟨rfl, rfl⟩ := h
      simp only [List.length_take, List.length_drop]
      omega
    · cases h
  · have h1 := one_short (b := b) (k := 0) (by omega)
    rw [List.drop_zero] at h1
    rw [h1] at h
    cases h
theorem scans_le {b : List UInt8} {l : List (List UInt8)} {n : Nat} (h : Scans b l n) : n ≤ b.length := by
  induction h with
  | stop _ => exact Nat.zero_le _
  | more h0 _ ih => have := one_whole h0; omega
theorem endOf_le (b : List UInt8) : endOf b ≤ b.length := by
  have h1 := scn_spec b
  have h2 := scans_size h1
  have h3 := frms_take (scn b) (usedOf b)
  have h4 := scans_le h1
  unfold endOf
  omega
theorem fits_open {M : MD} (hr : Rising M.fs) (h0 : (openP M).e = 0) : Fits (openP M).M (openP M).n false := by
  unfold openP at *
  by_cases h3 : (M.read logK).2 = 3
  · rw [if_pos h3] at h0 ⊢
    by_cases h1 : (M.act (opCreate logK)).1 = 0
    · rw [if_pos h1] at h0 ⊢
      refine fits_openQ ?_ (endOf_le _) h0
      have hd : M.dw = false := by
        cases hd : M.dw with
        | false => rfl
        | true => unfold MD.read at h3; rw [if_pos hd] at h3; cases h3
      rcases act_cases hd (opCreate logK) with ⟨a1, _⟩ | ⟨a1, _⟩ | ⟨a1, a2, a3, _⟩
      · rw [h1] at a1; cases a1
      · rw [h1] at a1; cases a1
      · refine ⟨a2, ?_⟩
        rw [a3]; exact long_create hr M.cap (by rw [← a1]; exact h1)
    · rw [if_neg h1] at h0
      exact absurd h0 h1
  · rw [if_neg h3] at h0 ⊢
    by_cases h1 : (M.read logK).2 = 0
    · rw [if_pos h1] at h0 ⊢
      exact fits_openQ (has_read h1) (endOf_le _) h0
    · rw [if_neg h1] at h0
      exact absurd h0 h1
end Go.Proofs.YthcdkggkoanjpaaGreatDoor
