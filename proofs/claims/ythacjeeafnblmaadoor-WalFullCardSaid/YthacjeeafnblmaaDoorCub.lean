/- Batches that are cut: plain facts. Numbers and types by name. -/
import Derived.Test.YthacjeeafnblmaaDoorRop
import Derived.Test.YthacjeeafnblmaaDoorOpl
import Derived.Test.YthacjeeafnblmaaDoorMov
/- Replay: plain facts. Numbers and types by name. -/
namespace Go.Proofs.YthacjeeafnblmaaDoor
open Go.RowKit Go.Lib

/-- What a payload is behind so many ops. -/
inductive Is where
  | stop
  | op (o : Opm)
  | done
  deriving DecidableEq

def isWhat (k : UInt8) (t : List ByteArray) (n : Nat) : Is :=
  match t with
  | [s] => if k = 100 then .op ⟨true, s, ⟨#[]⟩⟩ else if k = 99 ∧ s = txt (digs n) then .done else .stop
  | [s, u] => if k = 112 then .op ⟨false, s, u⟩ else .stop
  | _ => .stop
def what (p : List UInt8) (n : Nat) : Is :=
  match p with
  | [] => .stop
  | k :: r => match dec r with
    | none => .stop
    | some t => isWhat k t n

/-- The batches of payloads. -/
def play : List (List UInt8) → Nat → List (List Opm) → List Opm → Nat → List (List Opm) × Nat
  | [], _, done, _, used => (done, used)
  | p :: ps, i, done, now, used =>
    match what p now.length with
    | .stop => (done, used)
    | .op o => play ps (i + 1) done (now ++ [o]) used
    | .done => play ps (i + 1) (done ++ [now]) [] (i + 1)

theorem play_stop {p : List UInt8} {ps : List (List UInt8)} {i : Nat} {done : List (List Opm)} {now : List Opm} {used : Nat} (h : what p now.length = .stop) : play (p :: ps) i done now used = (done, used) := by rw [play, h]
theorem play_op {p : List UInt8} {ps : List (List UInt8)} {i : Nat} {done : List (List Opm)} {now : List Opm} {used : Nat} {o : Opm} (h : what p now.length = .op o) : play (p :: ps) i done now used = play ps (i + 1) done (now ++ [o]) used := by rw [play, h]
theorem play_done {p : List UInt8} {ps : List (List UInt8)} {i : Nat} {done : List (List Opm)} {now : List Opm} {used : Nat} (h : what p now.length = .done) : play (p :: ps) i done now used = play ps (i + 1) (done ++ [now]) [] (i + 1) := by rw [play, h]

def normOp (o : Opm) : Opm := ⟨o.del, o.key, if o.del then ⟨#[]⟩ else o.val⟩

theorem what_pay (o : Opm) (n : Nat) (h : bulk [o.key, o.val] ≤ 100000) (hok : okOp o = true) : what (pay o) n = .op o := by
  unfold what pay
  have h1 : bulk [o.key] ≤ 100000 := by simp only [bulk, List.map_cons, List.map_nil, List.sum_cons, List.sum_nil] at *; omega
  obtain ⟨d, k, v⟩ := o
  cases d with
  | true =>
    simp only [if_true]
    rw [dec_enc _ h1]
    have hv : v = ⟨#[]⟩ := by
      simp only [okOp, Bool.true_and, Bool.not_not] at hok
      have : v.toList = [] := by simpa using hok
      rw [ByteArray.toList_eq] at this
      exact Go.WideShapes.bytes_inj (by simpa using this)
    simp [isWhat, hv]
  | false =>
    simp only [Bool.false_eq_true, if_false]
    rw [dec_enc _ h]
    simp [isWhat]

theorem what_fin (n : Nat) (hn : n < 1000000000) : what (fin n) n = .done := by
  unfold what fin
  have h : bulk [txt (digs n)] ≤ 100000 := by
    have := digs_length 8 n (by omega)
    have e : (txt (digs n)).size = (digs n).length := by simp [txt, ByteArray.size]
    simp only [bulk, List.map_cons, List.map_nil, List.sum_cons, List.sum_nil]; omega
  simp only
  rw [dec_enc _ h]
  simp [isWhat]

theorem digs_ne (n : Nat) : digs n ≠ [] := by
  rw [digs]; split <;> simp

theorem byte48 {a b : Nat} (ha : a < 10) (hb : b < 10) (h : UInt8.ofNat (48 + a) = UInt8.ofNat (48 + b)) : a = b := by
  have := congrArg UInt8.toNat h
  rw [UInt8.toNat_ofNat', UInt8.toNat_ofNat'] at this
  omega
theorem digs_inj : ∀ (n m : Nat), digs n = digs m → n = m := by
  intro n
  induction n using Nat.strongRecOn with
  | _ n ih =>
    intro m h
    by_cases hn : n < 10
    · by_cases hm : m < 10
      · rw [digs_small hn, digs_small hm] at h
        exact byte48 hn hm (by simpa using h)
      · rw [digs_small hn, digs_more hm] at h
        have := congrArg List.length h
        have h2 := digs_ne (m / 10)
        cases hd : digs (m / 10) with
        | nil => exact absurd hd h2
        | cons a l => rw [hd] at this; simp at this
    · by_cases hm : m < 10
      · rw [digs_more hn, digs_small hm] at h
        have := congrArg List.length h
        have h2 := digs_ne (n / 10)
        cases hd : digs (n / 10) with
        | nil => exact absurd hd h2
        | cons a l => rw [hd] at this; simp at this
      · rw [digs_more hn, digs_more hm] at h
        obtain ⟨h1, h2⟩ := List.append_inj' h rfl
        have e1 := ih (n / 10) (by omega) (m / 10) h1
        have e2 := byte48 (Nat.mod_lt _ (by omega)) (Nat.mod_lt _ (by omega)) (by simpa using h2)
        omega

/-- A batch's payloads, whatever stands behind them. -/
theorem play_recs (L : List Opm) (hb : bulkO L ≤ 5000) (hok : okOps L = true) (ps : List (List UInt8)) (i : Nat) (done : List (List Opm)) (used : Nat) :
    play (recs L ++ ps) i done [] used = play ps (i + L.length + 1) (done ++ [L]) [] (i + L.length + 1) := by
  have hall : L.all okOp = true := by unfold okOps at hok; simp only [Bool.and_eq_true] at hok; exact hok.1
  have go : ∀ (M now : List Opm) (i : Nat), (∀ o ∈ M, okOp o = true ∧ bulk [o.key, o.val] ≤ 100000) → play (M.map pay ++ ([fin (now.length + M.length)] ++ ps)) i done now used = play ([fin (now.length + M.length)] ++ ps) (i + M.length) done (now ++ M) used := by
    intro M
    induction M with
    | nil => intro now i _; simp
    | cons o M ih =>
      intro now i h
      rw [List.map_cons, List.cons_append, play_op (what_pay o _ (h o (by simp)).2 (h o (by simp)).1)]
      have := ih (now ++ [o]) (i + 1) (fun o' ho' => h o' (by simp [ho']))
      rw [List.length_append, List.length_singleton, show now.length + 1 + M.length = now.length + (o :: M).length by simp; omega] at this
      rw [this]
      simp only [List.append_assoc, List.singleton_append, List.length_cons]
      rw [show i + 1 + M.length = i + (M.length + 1) by omega]
  have h := go L [] i (fun o ho => by
    refine ⟨by simpa using (List.all_eq_true.1 hall) o ho, ?_⟩
    have := bulkO_mem ho
    simp only [bulk, List.map_cons, List.map_nil, List.sum_cons, List.sum_nil]; omega)
  have hn := bulkO_length L
  unfold recs
  rw [List.append_assoc]
  simp only [List.length_nil, Nat.zero_add, List.nil_append] at h
  rw [h, List.singleton_append, play_done (what_fin _ (by omega))]

end Go.Proofs.YthacjeeafnblmaaDoor

/- Records of batches: plain facts; SameOps in a later world. Numbers and types by name. -/
namespace Go.Proofs.YthacjeeafnblmaaDoor
open Go.RowKit Go.Lib

/-- What is told of records that are whole. -/
theorem scans_all {ps l : List (List UInt8)} {n : Nat} (hp : ∀ p ∈ ps, p.length ≤ 1048576) (h : Scans (frms ps) l n) : l = ps ∧ n = (frms ps).length := by
  have h1 := scans_frms scans_nil ps hp
  rw [List.append_nil, List.append_nil] at h1
  obtain ⟨rfl, rfl⟩ := scans_det h h1
  exact ⟨rfl, rfl⟩

theorem bulk_scans' {b : List UInt8} {l : List (List UInt8)} {n : Nat} (h : Scans b l n) : 8 * l.length ≤ n := by
  induction h with
  | stop _ => simp
  | more _ _ ih => rw [List.length_cons]; omega

theorem recs_short {L : List Opm} (hb : bulkO L ≤ 5000) : ∀ p ∈ recs L, p.length ≤ 6000 := by
  intro p hp
  have hn := bulkO_length L
  rcases List.mem_append.1 hp with hp | hp
  · obtain ⟨o, ho, rfl⟩ := List.mem_map.1 hp
    have := pay_length o
    have := bulkO_mem ho
    omega
  · rw [List.mem_singleton.1 hp]
    have := fin_length (n := L.length) (by omega)
    omega
theorem recs_frms {L : List Opm} (hb : bulkO L ≤ 5000) : (frms (recs L)).length ≤ 110000 := by
  have h1 := pays_bulk L
  have hn := bulkO_length L
  have h2 := fin_length (n := L.length) (by omega)
  unfold recs
  rw [frms_snoc, List.length_append, frm_length]
  omega
theorem recs_pos (L : List Opm) : 8 ≤ (frms (recs L)).length := by
  unfold recs
  rw [frms_snoc, List.length_append, frm_length]
  omega

theorem frms_append (l m : List (List UInt8)) : frms (l ++ m) = frms l ++ frms m := by simp [frms]

theorem recs_inj {A B : List Opm} (ha : bulkO A ≤ 5000) (hb : bulkO B ≤ 5000) (oa : okOps A = true) (ob : okOps B = true) (h : frms (recs A) = frms (recs B)) : A = B := by
  have h1 := scans_frms scans_nil (recs A) (fun p hp => by have := recs_short ha p hp; omega)
  have h2 := scans_frms scans_nil (recs B) (fun p hp => by have := recs_short hb p hp; omega)
  rw [h] at h1
  have h3 := (scans_det h1 h2).1
  rw [List.append_nil, List.append_nil] at h3
  have e1 := play_recs A ha oa [] 0 [] 0
  have e2 := play_recs B hb ob [] 0 [] 0
  rw [h3] at e1
  rw [e1] at e2
  simp only [play, List.nil_append, Prod.mk.injEq, List.cons.injEq, and_true] at e2
  exact e2.1

/-- What SameOps tells, in any later world. -/
theorem same_ops_at (v1 v2 : Value) (n m : Nat) (ps qs : List Opm) (w w' : World) (h1 : Opr w v1 n ps) (h2 : Opr w v2 m qs) (hg : Grow w w') :
    Calls Tryd.prog 18 #[v1, v2] w' fun e w'' => e = .returned (.bool (decide (ps = qs))) ∧ Grow w' w'' := by
  refine (same_ops v1 v2 n m ps qs w' (h1.later hg) (h2.later hg)).mono ?_
  rintro e w'' ⟨b, k, rfl, rfl, hb⟩
  exact ⟨by rw [show b = decide (ps = qs) by rw [Bool.eq_iff_iff, hb]; simp], below_drewN (Below.refl _ w') k⟩

end Go.Proofs.YthacjeeafnblmaaDoor

namespace Go.Proofs.YthacjeeafnblmaaDoor
open Go.RowKit Go.Lib

def small (L : List Opm) : Prop := bulkO L ≤ 5000 ∧ okOps L = true

theorem small_all {L : List Opm} (h : small L) : ∀ o ∈ L, okOp o = true ∧ bulk [o.key, o.val] ≤ 100000 := fun o ho => by
  have hall : L.all okOp = true := by have := h.2; unfold okOps at this; simp only [Bool.and_eq_true] at this; exact this.1
  refine ⟨by simpa using (List.all_eq_true.1 hall) o ho, ?_⟩
  have := bulkO_mem ho
  have := h.1
  simp only [bulk, List.map_cons, List.map_nil, List.sum_cons, List.sum_nil]; omega

theorem play_pays : ∀ (M : List Opm) (i : Nat) (done : List (List Opm)) (now : List Opm) (used : Nat), (∀ o ∈ M, okOp o = true ∧ bulk [o.key, o.val] ≤ 100000) → play (M.map pay) i done now used = (done, used)
  | [], i, done, now, used, _ => rfl
  | o :: M, i, done, now, used, h => by
    rw [List.map_cons, play_op (what_pay o _ (h o (by simp)).2 (h o (by simp)).1)]
    exact play_pays M _ _ _ _ (fun o' ho' => h o' (by simp [ho']))

def allRecs (LL : List (List Opm)) : List (List UInt8) := LL.flatMap recs
theorem allRecs_snoc (LL : List (List Opm)) (L : List Opm) : allRecs (LL ++ [L]) = allRecs LL ++ recs L := by simp [allRecs]

theorem play_batches : ∀ (LL : List (List Opm)) (ps : List (List UInt8)) (i : Nat) (done : List (List Opm)) (used : Nat), (∀ L ∈ LL, small L) → ∃ i' u', play (allRecs LL ++ ps) i done [] used = play ps i' (done ++ LL) [] u'
  | [], ps, i, done, used, _ => ⟨i, used, by simp [allRecs]⟩
  | L :: LL, ps, i, done, used, h => by
    have e : allRecs (L :: LL) ++ ps = recs L ++ (allRecs LL ++ ps) := by simp [allRecs]
    rw [e, play_recs L (h L (by simp)).1 (h L (by simp)).2]
    obtain ⟨i', u', h2⟩ := play_batches LL ps (i + L.length + 1) (done ++ [L]) (i + L.length + 1) (fun L' hL' => h L' (by simp [hL']))
    exact ⟨i', u', by rw [h2]; simp⟩

theorem scans_total (b : List UInt8) : ∃ l n, Scans b l n := by
  induction hk : b.length using Nat.strongRecOn generalizing b with
  | _ k ih =>
    cases ho : one? b with
    | none => exact ⟨[], 0, .stop ho⟩
    | some pr =>
      obtain ⟨p, r⟩ := pr
      have hr : r.length < b.length := by
        unfold one? at ho
        split at ho
        · cases ho
        · next n q hn =>
          have hq : q.length < b.length := by
            unfold num? at hn
            split at hn
            · simp only [Option.some.injEq, Prod.mk.injEq] at hn; rw [← hn.2]; simp; omega
            · cases hn
          split at ho
          · cases ho
          · next s q2 hs =>
            have hq2 : q2.length ≤ q.length := by
              unfold num? at hs
              split at hs
              · simp only [Option.some.injEq, Prod.mk.injEq] at hs; rw [← hs.2]; simp
              · cases hs
            split at ho
            · simp only [Option.some.injEq, Prod.mk.injEq] at ho; rw [← ho.2]; simp; omega
            · cases ho
      obtain ⟨l, n, h⟩ := ih r.length (by omega) r rfl
      exact ⟨p :: l, _, .more ho h⟩

/-- Where records end. -/
def endR (ps : List (List UInt8)) (j : Nat) : Nat := (frms (ps.take j)).length

theorem endR_at (ps : List (List UInt8)) (t : Nat) (ht : t < (frms ps).length) : ∃ j, j < ps.length ∧ endR ps j ≤ t ∧ t < endR ps (j + 1) := by
  have key : ∀ m : Nat, (∃ j, j < m ∧ endR ps j ≤ t ∧ t < endR ps (j + 1)) ∨ endR ps m ≤ t := by
    intro m
    induction m with
    | zero => right; simp [endR, frms]
    | succ m ih =>
      rcases ih with ⟨j, h1, h2, h3⟩ | h
      · exact .inl ⟨j, by omega, h2, h3⟩
      · by_cases h' : endR ps (m + 1) ≤ t
        · exact .inr h'
        · exact .inl ⟨m, by omega, h, by omega⟩
  rcases key ps.length with h | h
  · exact h
  · unfold endR at h; rw [List.take_length] at h; omega

/-- Records that are cut. -/
theorem scans_inside {ps : List (List UInt8)} {t : Nat} (hp : ∀ p ∈ ps, p.length ≤ 1048576) (ht : t < (frms ps).length) : ∃ j n, j < ps.length ∧ Scans ((frms ps).take t) (ps.take j) n := by
  obtain ⟨j, hj, h1, h2⟩ := endR_at ps t ht
  have hx : ps[j]? = some (ps[j]'hj) := List.getElem?_eq_getElem hj
  generalize ps[j]'hj = p at hx
  have hs : frms (ps.take (j + 1)) = frms (ps.take j) ++ frm p := by rw [take_more hx, frms_snoc]
  unfold endR at h1 h2
  rw [hs, List.length_append] at h2
  have e : frms ps = frms (ps.take j) ++ (frm p ++ frms (ps.drop (j + 1))) := by
    have e1 : ps = ps.take j ++ ([p] ++ ps.drop (j + 1)) := by
      have := List.take_append_drop (j + 1) ps
      rw [take_more hx, List.append_assoc] at this
      exact this.symm
    conv => lhs; rw [e1]
    simp [frms]
  have e2 : (frms ps).take t = frms (ps.take j) ++ (frm p).take (t - (frms (ps.take j)).length) := by
    rw [e, List.take_append, List.take_of_length_le h1, List.take_append_of_le_length (by omega)]
  exact ⟨j, _, hj, by rw [e2]; exact scans_cut _ p _ (fun x hx => hp x (List.mem_of_mem_take hx)) (.inr ⟨_, by omega, hp p (List.mem_of_getElem? hx), rfl⟩)⟩

def endB (LL : List (List Opm)) (n : Nat) : Nat := (frms (allRecs (LL.take n))).length

theorem endB_succ {LL : List (List Opm)} {n : Nat} {L : List Opm} (h : LL[n]? = some L) : frms (allRecs (LL.take (n + 1))) = frms (allRecs (LL.take n)) ++ frms (recs L) := by rw [take_next h, allRecs_snoc, frms_append]

theorem cut_batches {LL : List (List Opm)} {n k : Nat} (hall : ∀ L ∈ LL, small L) (h1 : endB LL n ≤ k) (hn : n ≤ LL.length) (h2 : n = LL.length ∧ k ≤ (frms (allRecs LL)).length ∨ k < endB LL (n + 1)) {l : List (List UInt8)} {m : Nat} (h : Scans ((frms (allRecs LL)).take k) l m) :
    (∃ u, play l 0 [] [] 0 = (LL.take n, u)) ∧ ∀ p ∈ l, p.length ≤ 6000 := by
  have hsh : ∀ M : List (List Opm), (∀ L ∈ M, small L) → ∀ p ∈ allRecs M, p.length ≤ 6000 := fun M hM p hp => by
    obtain ⟨L, hL, hp⟩ := List.mem_flatMap.1 hp
    exact recs_short (hM L hL).1 p hp
  have htk : ∀ L ∈ LL.take n, small L := fun L hL => hall L (List.mem_of_mem_take hL)
  rcases Nat.lt_or_ge n LL.length with hlt | hge
  · have hx : LL[n]? = some (LL[n]'hlt) := List.getElem?_eq_getElem hlt
    generalize LL[n]'hlt = L at hx
    have hL := hall L (List.mem_of_getElem? hx)
    have hk : k < endB LL (n + 1) := by
      rcases h2 with ⟨h2, _⟩ | h2
      · omega
      · exact h2
    unfold endB at h1 hk
    rw [endB_succ hx, List.length_append] at hk
    have e : frms (allRecs LL) = frms (allRecs (LL.take n)) ++ (frms (recs L) ++ frms (allRecs (LL.drop (n + 1)))) := by
      have e1 : LL = LL.take n ++ ([L] ++ LL.drop (n + 1)) := by
        have := List.take_append_drop (n + 1) LL
        rw [take_next hx, List.append_assoc] at this
        exact this.symm
      conv => lhs; rw [e1]
      simp [allRecs, frms]
    have e2 : (frms (allRecs LL)).take k = frms (allRecs (LL.take n)) ++ (frms (recs L)).take (k - (frms (allRecs (LL.take n))).length) := by
      rw [e, List.take_append, List.take_of_length_le h1, List.take_append_of_le_length (by omega)]
    obtain ⟨j, m2, hj, hs⟩ := scans_inside (ps := recs L) (t := k - (frms (allRecs (LL.take n))).length) (fun p hp => by have := recs_short hL.1 p hp; omega) (by omega)
    have h3 := scans_frms hs (allRecs (LL.take n)) (fun p hp => by have := hsh _ htk p hp; omega)
    rw [e2] at h
    obtain ⟨rfl, _⟩ := scans_det h h3
    have hjl : j ≤ L.length := by unfold recs at hj; simp at hj; omega
    have et : (recs L).take j = (L.take j).map pay := by
      unfold recs
      rw [List.take_append_of_le_length (by simpa using hjl), List.map_take]
    constructor
    · obtain ⟨i', u', hp⟩ := play_batches (LL.take n) ((recs L).take j) 0 [] 0 htk
      refine ⟨u', ?_⟩
      rw [hp, et, play_pays _ _ _ _ _ (fun o ho => small_all hL o (List.mem_of_mem_take ho)), List.nil_append]
    · intro p hp
      rcases List.mem_append.1 hp with hp | hp
      · exact hsh _ htk p hp
      · exact recs_short hL.1 p (List.mem_of_mem_take hp)
  · have hk : k ≤ (frms (allRecs LL)).length := by
      rcases h2 with ⟨_, h2⟩ | h2
      · exact h2
      · unfold endB at h2
        rw [List.take_of_length_le (by omega)] at h2
        omega
    have ht : LL.take n = LL := List.take_of_length_le hge
    unfold endB at h1
    rw [ht] at h1 ⊢
    rw [List.take_of_length_le h1] at h
    obtain ⟨rfl, _⟩ := scans_all (fun p hp => by have := hsh LL hall p hp; omega) h
    constructor
    · obtain ⟨i', u', hp⟩ := play_batches LL [] 0 [] 0 hall
      rw [List.append_nil] at hp
      exact ⟨u', by rw [hp]; simp [play]⟩
    · exact hsh LL hall

def endsB (LL : List (List Opm)) (n : Nat) : List Int := (List.range n).map fun i => (endB LL (i + 1) : Int)
theorem endsB_succ (LL : List (List Opm)) (n : Nat) : endsB LL (n + 1) = endsB LL n ++ [(endB LL (n + 1) : Int)] := by simp [endsB, List.range_succ]
theorem endsB_length (LL : List (List Opm)) (n : Nat) : (endsB LL n).length = n := by simp [endsB]
theorem endsB_at (LL : List (List Opm)) (n j : Nat) (h : j < n) : (endsB LL n)[j]? = some (endB LL (j + 1) : Int) := by simp [endsB, h]

end Go.Proofs.YthacjeeafnblmaaDoor
