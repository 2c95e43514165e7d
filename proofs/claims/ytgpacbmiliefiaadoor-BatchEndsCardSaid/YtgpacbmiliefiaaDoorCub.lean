/- Batches that are cut: plain facts. Numbers and types by name. -/
import Derived.Test.YtgpacbmiliefiaaDoorBap
namespace Go.Proofs.YtgpacbmiliefiaaDoor
open Go.RowKit Go.Lib

def small (L : List Opm) : Prop := bulkO L ≤ 5000 ∧ okOps L = true

theorem small_all {L : List Opm} (h : small L) : ∀ o ∈ L, okOp o = true ∧ bulk [o.key, o.val] ≤ 100000 := fun o ho => by
  have hall : L.all okOp = true := by have := h.2; unfold okOps at this; simp only [Bool.and_eq_true] at this; exact this.1
  refine ⟨by simpa using (List.all_eq_true.1 hall) o ho, ?_⟩
  have := bulkO_mem ho
  have := h.1
  simp only [bulk, List.map_cons, List.map_nil, List.sum_cons, List.sum_nil]; omega

theorem play_pays : ∀ (M : List Opm) (i : Nat) (done : List (List Opm)) (now : List Opm) (used : Nat), (∀ o ∈ M, okOp o = true ∧ bulk [o.key, o.val] ≤ 100000) → play (M.map pay) i done now used = (done, used)
  | [], i, done, now, used, _ => rfl
  | o :: M, i, done, now, used, h => by
    rw [List.map_cons, play_op (what_pay o _ (h o (by simp)).2 (h o (by simp)).1)]
    exact play_pays M _ _ _ _ (fun o' ho' => h o' (by simp [ho']))

def allRecs (LL : List (List Opm)) : List (List UInt8) := LL.flatMap recs
theorem allRecs_snoc (LL : List (List Opm)) (L : List Opm) : allRecs (LL ++ [L]) = allRecs LL ++ recs L := by simp [allRecs]

theorem play_batches : ∀ (LL : List (List Opm)) (ps : List (List UInt8)) (i : Nat) (done : List (List Opm)) (used : Nat), (∀ L ∈ LL, small L) → ∃ i' u', play (allRecs LL ++ ps) i done [] used = play ps i' (done ++ LL) [] u'
  | [], ps, i, done, used, _ => ⟨i, used, by simp [allRecs]⟩
  | L :: LL, ps, i, done, used, h => by
    have e : allRecs (L :: LL) ++ ps = recs L ++ (allRecs LL ++ ps) := by simp [allRecs]
    rw [e, play_recs L (h L (by simp)).1 (h L (by simp)).2]
    obtain ⟨i', u', h2⟩ := play_batches LL ps (i + L.length + 1) (done ++ [L]) (i + L.length + 1) (fun L' hL' => h L' (by simp [hL']))
    exact ⟨i', u', by rw [h2]; simp⟩

theorem scans_total (b : List UInt8) : ∃ l n, Scans b l n := by
  induction hk : b.length using Nat.strongRecOn generalizing b with
  | _ k ih =>
    cases ho : one? b with
    | none => exact ⟨[], 0, .stop ho⟩
    | some pr =>
      obtain ⟨p, r⟩ := pr
      have hr : r.length < b.length := by
        unfold one? at ho
        split at ho
        · cases ho
        · next n q hn =>
          have hq : q.length < b.length := by
            unfold num? at hn
            split at hn
            · simp only [Option.some.injEq, Prod.mk.injEq] at hn; rw [← hn.2]; simp; omega
            · cases hn
          split at ho
          · cases ho
          · next s q2 hs =>
            have hq2 : q2.length ≤ q.length := by
              unfold num? at hs
              split at hs
              · simp only [Option.some.injEq, Prod.mk.injEq] at hs; rw [← hs.2]; simp
              · cases hs
            split at ho
            · simp only [Option.some.injEq, Prod.mk.injEq] at ho; rw [← ho.2]; simp; omega
            · cases ho
      obtain ⟨l, n, h⟩ := ih r.length (by omega) r rfl
      exact ⟨p :: l, _, .more ho h⟩

/-- Where records end. -/
def endR (ps : List (List UInt8)) (j : Nat) : Nat := (frms (ps.take j)).length

theorem endR_at (ps : List (List UInt8)) (t : Nat) (ht : t < (frms ps).length) : ∃ j, j < ps.length ∧ endR ps j ≤ t ∧ t < endR ps (j + 1) := by
  have key : ∀ m : Nat, (∃ j, j < m ∧ endR ps j ≤ t ∧ t < endR ps (j + 1)) ∨ endR ps m ≤ t := by
    intro m
    induction m with
    | zero => right; simp [endR, frms]
    | succ m ih =>
      rcases ih with ⟨j, h1, h2, h3⟩ | h
      · exact .inl ⟨j, by omega, h2, h3⟩
      · by_cases h' : endR ps (m + 1) ≤ t
        · exact .inr h'
        · exact .inl ⟨m, by omega, h, by omega⟩
  rcases key ps.length with h | h
  · exact h
  · unfold endR at h; rw [List.take_length] at h; omega

/-- Records that are cut. -/
theorem scans_inside {ps : List (List UInt8)} {t : Nat} (hp : ∀ p ∈ ps, p.length ≤ 1048576) (ht : t < (frms ps).length) : ∃ j n, j < ps.length ∧ Scans ((frms ps).take t) (ps.take j) n := by
  obtain ⟨j, hj, h1, h2⟩ := endR_at ps t ht
  have hx : ps[j]? = some (ps[j]'hj) := List.getElem?_eq_getElem hj
  generalize ps[j]'hj = p at hx
  have hs : frms (ps.take (j + 1)) = frms (ps.take j) ++ frm p := by rw [take_more hx, frms_snoc]
  unfold endR at h1 h2
  rw [hs, List.length_append] at h2
  have e : frms ps = frms (ps.take j) ++ (frm p ++ frms (ps.drop (j + 1))) := by
    have e1 : ps = ps.take j ++ ([p] ++ ps.drop (j + 1)) := by
      have := List.take_append_drop (j + 1) ps
      rw [take_more hx, List.append_assoc] at this
      exact this.symm
    conv => lhs; rw [e1]
    simp [frms]
  have e2 : (frms ps).take t = frms (ps.take j) ++ (frm p).take (t - (frms (ps.take j)).length) := by
    rw [e, List.take_append, List.take_of_length_le h1, List.take_append_of_le_length (by omega)]
  exact ⟨j, _, hj, by rw [e2]; exact scans_cut _ p _ (fun x hx => hp x (List.mem_of_mem_take hx)) (.inr ⟨_, by omega, hp p (List.mem_of_getElem? hx), rfl⟩)⟩

def endB (LL : List (List Opm)) (n : Nat) : Nat := (frms (allRecs (LL.take n))).length

theorem endB_succ {LL : List (List Opm)} {n : Nat} {L : List Opm} (h : LL[n]? = some L) : frms (allRecs (LL.take (n + 1))) = frms (allRecs (LL.take n)) ++ frms (recs L) := by rw [take_next h, allRecs_snoc, frms_append]

theorem cut_batches {LL : List (List Opm)} {n k : Nat} (hall : ∀ L ∈ LL, small L) (h1 : endB LL n ≤ k) (hn : n ≤ LL.length) (h2 : n = LL.length ∧ k ≤ (frms (allRecs LL)).length ∨ k < endB LL (n + 1)) {l : List (List UInt8)} {m : Nat} (h : Scans ((frms (allRecs LL)).take k) l m) :
    (∃ u, play l 0 [] [] 0 = (LL.take n, u)) ∧ ∀ p ∈ l, p.length ≤ 6000 := by
  have hsh : ∀ M : List (List Opm), (∀ L ∈ M, small L) → ∀ p ∈ allRecs M, p.length ≤ 6000 := fun M hM p hp => by
    obtain ⟨L, hL, hp⟩ := List.mem_flatMap.1 hp
    exact recs_short (hM L hL).1 p hp
  have htk : ∀ L ∈ LL.take n, small L := fun L hL => hall L (List.mem_of_mem_take hL)
  rcases Nat.lt_or_ge n LL.length with hlt | hge
  · have hx : LL[n]? = some (LL[n]'hlt) := List.getElem?_eq_getElem hlt
    generalize LL[n]'hlt = L at hx
    have hL := hall L (List.mem_of_getElem? hx)
    have hk : k < endB LL (n + 1) := by
      rcases h2 with ⟨h2, _⟩ | h2
      · omega
      · exact h2
    unfold endB at h1 hk
    rw [endB_succ hx, List.length_append] at hk
    have e : frms (allRecs LL) = frms (allRecs (LL.take n)) ++ (frms (recs L) ++ frms (allRecs (LL.drop (n + 1)))) := by
      have e1 : LL = LL.take n ++ ([L] ++ LL.drop (n + 1)) := by
        have := List.take_append_drop (n + 1) LL
        rw [take_next hx, List.append_assoc] at this
        exact this.symm
      conv => lhs; rw [e1]
      simp [allRecs, frms]
    have e2 : (frms (allRecs LL)).take k = frms (allRecs (LL.take n)) ++ (frms (recs L)).take (k - (frms (allRecs (LL.take n))).length) := by
      rw [e, List.take_append, List.take_of_length_le h1, List.take_append_of_le_length (by omega)]
    obtain ⟨j, m2, hj, hs⟩ := scans_inside (ps := recs L) (t := k - (frms (allRecs (LL.take n))).length) (fun p hp => by have := recs_short hL.1 p hp; omega) (by omega)
    have h3 := scans_frms hs (allRecs (LL.take n)) (fun p hp => by have := hsh _ htk p hp; omega)
    rw [e2] at h
    obtain ⟨rfl, _⟩ := scans_det h h3
    have hjl : j ≤ L.length := by unfold recs at hj; simp at hj; omega
    have et : (recs L).take j = (L.take j).map pay := by
      unfold recs
      rw [List.take_append_of_le_length (by simpa using hjl), List.map_take]
    constructor
    · obtain ⟨i', u', hp⟩ := play_batches (LL.take n) ((recs L).take j) 0 [] 0 htk
      refine ⟨u', ?_⟩
      rw [hp, et, play_pays _ _ _ _ _ (fun o ho => small_all hL o (List.mem_of_mem_take ho)), List.nil_append]
    · intro p hp
      rcases List.mem_append.1 hp with hp | hp
      · exact hsh _ htk p hp
      · exact recs_short hL.1 p (List.mem_of_mem_take hp)
  · have hk : k ≤ (frms (allRecs LL)).length := by
      rcases h2 with ⟨_, h2⟩ | h2
      · exact h2
      · unfold endB at h2
        rw [List.take_of_length_le (by omega)] at h2
        omega
    have ht : LL.take n = LL := List.take_of_length_le hge
    unfold endB at h1
    rw [ht] at h1 ⊢
    rw [List.take_of_length_le h1] at h
    obtain ⟨rfl, _⟩ := scans_all (fun p hp => by have := hsh LL hall p hp; omega) h
    constructor
    · obtain ⟨i', u', hp⟩ := play_batches LL [] 0 [] 0 hall
      rw [List.append_nil] at hp
      exact ⟨u', by rw [hp]; simp [play]⟩
    · exact hsh LL hall

def endsB (LL : List (List Opm)) (n : Nat) : List Int := (List.range n).map fun i => (endB LL (i + 1) : Int)
theorem endsB_succ (LL : List (List Opm)) (n : Nat) : endsB LL (n + 1) = endsB LL n ++ [(endB LL (n + 1) : Int)] := by simp [endsB, List.range_succ]
theorem endsB_length (LL : List (List Opm)) (n : Nat) : (endsB LL n).length = n := by simp [endsB]
theorem endsB_at (LL : List (List Opm)) (n j : Nat) (h : j < n) : (endsB LL n)[j]? = some (endB LL (j + 1) : Int) := by simp [endsB, h]

end Go.Proofs.YtgpacbmiliefiaaDoor
