/- A log on a disk as the document says: what each call makes of both. Plain facts. Numbers and types by name. -/
import Derived.Test.YthacjeeafnblmaaGreatDoorRop
import Derived.Test.YthacjeeafnblmaaGreatDoorOpl
import Derived.Test.YthacjeeafnblmaaGreatDoorBel
import Derived.Test.YthacjeeafnblmaaGreatDoorPr
/- Replay: plain facts. Numbers and types by name. -/
namespace Go.Proofs.YthacjeeafnblmaaGreatDoor
open Go.RowKit Go.Lib

/-- What a payload is behind so many ops. -/
inductive Is where
  | stop
  | op (o : Opm)
  | done
  deriving DecidableEq

def isWhat (k : UInt8) (t : List ByteArray) (n : Nat) : Is :=
  match t with
  | [s] => if k = 100 then .op ⟨true, s, ⟨#[]⟩⟩ else if k = 99 ∧ s = txt (digs n) then .done else .stop
  | [s, u] => if k = 112 then .op ⟨false, s, u⟩ else .stop
  | _ => .stop
def what (p : List UInt8) (n : Nat) : Is :=
  match p with
  | [] => .stop
  | k :: r => match dec r with
    | none => .stop
    | some t => isWhat k t n

/-- The batches of payloads. -/
def play : List (List UInt8) → Nat → List (List Opm) → List Opm → Nat → List (List Opm) × Nat
  | [], _, done, _, used => (done, used)
  | p :: ps, i, done, now, used =>
    match what p now.length with
    | .stop => (done, used)
    | .op o => play ps (i + 1) done (now ++ [o]) used
    | .done => play ps (i + 1) (done ++ [now]) [] (i + 1)

theorem play_stop {p : List UInt8} {ps : List (List UInt8)} {i : Nat} {done : List (List Opm)} {now : List Opm} {used : Nat} (h : what p now.length = .stop) : play (p :: ps) i done now used = (done, used) := by rw [play, h]
theorem play_op {p : List UInt8} {ps : List (List UInt8)} {i : Nat} {done : List (List Opm)} {now : List Opm} {used : Nat} {o : Opm} (h : what p now.length = .op o) : play (p :: ps) i done now used = play ps (i + 1) done (now ++ [o]) used := by rw [play, h]
theorem play_done {p : List UInt8} {ps : List (List UInt8)} {i : Nat} {done : List (List Opm)} {now : List Opm} {used : Nat} (h : what p now.length = .done) : play (p :: ps) i done now used = play ps (i + 1) (done ++ [now]) [] (i + 1) := by rw [play, h]

def normOp (o : Opm) : Opm := ⟨o.del, o.key, if o.del then ⟨#[]⟩ else o.val⟩

theorem what_pay (o : Opm) (n : Nat) (h : bulk [o.key, o.val] ≤ 100000) (hok : okOp o = true) : what (pay o) n = .op o := by
  unfold what pay
  have h1 : bulk [o.key] ≤ 100000 := by simp only [bulk, List.map_cons, List.map_nil, List.sum_cons, List.sum_nil] at *; omega
  obtain ⟨d, k, v⟩ := o
  cases d with
  | true =>
    simp only [if_true]
    rw [dec_enc _ h1]
    have hv : v = ⟨#[]⟩ := by
      simp only [okOp, Bool.true_and, Bool.not_not] at hok
      have : v.toList = [] := by simpa using hok
      rw [ByteArray.toList_eq] at this
      exact Go.WideShapes.bytes_inj (by simpa using this)
    simp [isWhat, hv]
  | false =>
    simp only [Bool.false_eq_true, if_false]
    rw [dec_enc _ h]
    simp [isWhat]

theorem what_fin (n : Nat) (hn : n < 1000000000) : what (fin n) n = .done := by
  unfold what fin
  have h : bulk [txt (digs n)] ≤ 100000 := by
    have := digs_length 8 n (by omega)
    have e : (txt (digs n)).size = (digs n).length := by simp [txt, ByteArray.size]
    simp only [bulk, List.map_cons, List.map_nil, List.sum_cons, List.sum_nil]; omega
  simp only
  rw [dec_enc _ h]
  simp [isWhat]

theorem digs_ne (n : Nat) : digs n ≠ [] := by
  rw [digs]; split <;> simp

theorem byte48 {a b : Nat} (ha : a < 10) (hb : b < 10) (h : UInt8.ofNat (48 + a) = UInt8.ofNat (48 + b)) : a = b := by
  have := congrArg UInt8.toNat h
  rw [UInt8.toNat_ofNat', UInt8.toNat_ofNat'] at this
  omega
theorem digs_inj : ∀ (n m : Nat), digs n = digs m → n = m := by
  intro n
  induction n using Nat.strongRecOn with
  | _ n ih =>
    intro m h
    by_cases hn : n < 10
    · by_cases hm : m < 10
      · rw [digs_small hn, digs_small hm] at h
        exact byte48 hn hm (by simpa using h)
      · rw [digs_small hn, digs_more hm] at h
        have := congrArg List.length h
        have h2 := digs_ne (m / 10)
        cases hd : digs (m / 10) with
        | nil => exact absurd hd h2
        | cons a l => rw [hd] at this; simp at this
    · by_cases hm : m < 10
      · rw [digs_more hn, digs_small hm] at h
        have := congrArg List.length h
        have h2 := digs_ne (n / 10)
        cases hd : digs (n / 10) with
        | nil => exact absurd hd h2
        | cons a l => rw [hd] at this; simp at this
      · rw [digs_more hn, digs_more hm] at h
        obtain ⟨h1, h2⟩ := List.append_inj' h rfl
        have e1 := ih (n / 10) (by omega) (m / 10) h1
        have e2 := byte48 (Nat.mod_lt _ (by omega)) (Nat.mod_lt _ (by omega)) (by simpa using h2)
        omega

/-- A batch's payloads, whatever stands behind them. -/
theorem play_recs (L : List Opm) (hb : bulkO L ≤ 5000) (hok : okOps L = true) (ps : List (List UInt8)) (i : Nat) (done : List (List Opm)) (used : Nat) :
    play (recs L ++ ps) i done [] used = play ps (i + L.length + 1) (done ++ [L]) [] (i + L.length + 1) := by
  have hall : L.all okOp = true := by unfold okOps at hok; simp only [Bool.and_eq_true] at hok; exact hok.1
  have go : ∀ (M now : List Opm) (i : Nat), (∀ o ∈ M, okOp o = true ∧ bulk [o.key, o.val] ≤ 100000) → play (M.map pay ++ ([fin (now.length + M.length)] ++ ps)) i done now used = play ([fin (now.length + M.length)] ++ ps) (i + M.length) done (now ++ M) used := by
    intro M
    induction M with
    | nil => intro now i _; simp
    | cons o M ih =>
      intro now i h
      rw [List.map_cons, List.cons_append, play_op (what_pay o _ (h o (by simp)).2 (h o (by simp)).1)]
      have := ih (now ++ [o]) (i + 1) (fun o' ho' => h o' (by simp [ho']))
      rw [List.length_append, List.length_singleton, show now.length + 1 + M.length = now.length + (o :: M).length by simp; omega] at this
      rw [this]
      simp only [List.append_assoc, List.singleton_append, List.length_cons]
      rw [show i + 1 + M.length = i + (M.length + 1) by omega]
  have h := go L [] i (fun o ho => by
    refine ⟨by simpa using (List.all_eq_true.1 hall) o ho, ?_⟩
    have := bulkO_mem ho
    simp only [bulk, List.map_cons, List.map_nil, List.sum_cons, List.sum_nil]; omega)
  have hn := bulkO_length L
  unfold recs
  rw [List.append_assoc]
  simp only [List.length_nil, Nat.zero_add, List.nil_append] at h
  rw [h, List.singleton_append, play_done (what_fin _ (by omega))]

end Go.Proofs.YthacjeeafnblmaaGreatDoor

/- Records of batches: plain facts; SameOps in a later world. Numbers and types by name. -/
namespace Go.Proofs.YthacjeeafnblmaaGreatDoor
open Go.RowKit Go.Lib

/-- What is told of records that are whole. -/
theorem scans_all {ps l : List (List UInt8)} {n : Nat} (hp : ∀ p ∈ ps, p.length ≤ 1048576) (h : Scans (frms ps) l n) : l = ps ∧ n = (frms ps).length := by
  have h1 := scans_frms scans_nil ps hp
  rw [List.append_nil, List.append_nil] at h1
  obtain ⟨rfl, rfl⟩ := scans_det h h1
  exact ⟨rfl, rfl⟩

theorem bulk_scans' {b : List UInt8} {l : List (List UInt8)} {n : Nat} (h : Scans b l n) : 8 * l.length ≤ n := by
  induction h with
  | stop _ => simp
  | more _ _ ih => rw [List.length_cons]; omega

theorem recs_short {L : List Opm} (hb : bulkO L ≤ 5000) : ∀ p ∈ recs L, p.length ≤ 6000 := by
  intro p hp
  have hn := bulkO_length L
  rcases List.mem_append.1 hp with hp | hp
  · obtain ⟨o, ho, rfl⟩ := List.mem_map.1 hp
    have := pay_length o
    have := bulkO_mem ho
    omega
  · rw [List.mem_singleton.1 hp]
    have := fin_length (n := L.length) (by omega)
    omega
theorem recs_frms {L : List Opm} (hb : bulkO L ≤ 5000) : (frms (recs L)).length ≤ 110000 := by
  have h1 := pays_bulk L
  have hn := bulkO_length L
  have h2 := fin_length (n := L.length) (by omega)
  unfold recs
  rw [frms_snoc, List.length_append, frm_length]
  omega
theorem recs_pos (L : List Opm) : 8 ≤ (frms (recs L)).length := by
  unfold recs
  rw [frms_snoc, List.length_append, frm_length]
  omega

theorem frms_append (l m : List (List UInt8)) : frms (l ++ m) = frms l ++ frms m := by simp [frms]

theorem recs_inj {A B : List Opm} (ha : bulkO A ≤ 5000) (hb : bulkO B ≤ 5000) (oa : okOps A = true) (ob : okOps B = true) (h : frms (recs A) = frms (recs B)) : A = B := by
  have h1 := scans_frms scans_nil (recs A) (fun p hp => by have := recs_short ha p hp; omega)
  have h2 := scans_frms scans_nil (recs B) (fun p hp => by have := recs_short hb p hp; omega)
  rw [h] at h1
  have h3 := (scans_det h1 h2).1
  rw [List.append_nil, List.append_nil] at h3
  have e1 := play_recs A ha oa [] 0 [] 0
  have e2 := play_recs B hb ob [] 0 [] 0
  rw [h3] at e1
  rw [e1] at e2
  simp only [play, List.nil_append, Prod.mk.injEq, List.cons.injEq, and_true] at e2
  exact e2.1

/-- What SameOps tells, in any later world. -/
theorem same_ops_at (v1 v2 : Value) (n m : Nat) (ps qs : List Opm) (w w' : World) (h1 : Opr w v1 n ps) (h2 : Opr w v2 m qs) (hg : Grow w w') :
    Calls Tryz.prog 40 #[v1, v2] w' fun e w'' => e = .returned (.bool (decide (ps = qs))) ∧ Grow w' w'' := by
  refine (same_ops v1 v2 n m ps qs w' (h1.later hg) (h2.later hg)).mono ?_
  rintro e w'' ⟨b, k, rfl, rfl, hb⟩
  exact ⟨by rw [show b = decide (ps = qs) by rw [Bool.eq_iff_iff, hb]; simp], below_drewN (Below.refl _ w') k⟩

end Go.Proofs.YthacjeeafnblmaaGreatDoor

/- Batches that are cut: plain facts. Numbers and types by name. -/
namespace Go.Proofs.YthacjeeafnblmaaGreatDoor
open Go.RowKit Go.Lib

def small (L : List Opm) : Prop := bulkO L ≤ 5000 ∧ okOps L = true

theorem small_all {L : List Opm} (h : small L) : ∀ o ∈ L, okOp o = true ∧ bulk [o.key, o.val] ≤ 100000 := fun o ho => by
  have hall : L.all okOp = true := by have := h.2; unfold okOps at this; simp only [Bool.and_eq_true] at this; exact this.1
  refine ⟨by simpa using (List.all_eq_true.1 hall) o ho, ?_⟩
  have := bulkO_mem ho
  have := h.1
  simp only [bulk, List.map_cons, List.map_nil, List.sum_cons, List.sum_nil]; omega

theorem play_pays : ∀ (M : List Opm) (i : Nat) (done : List (List Opm)) (now : List Opm) (used : Nat), (∀ o ∈ M, okOp o = true ∧ bulk [o.key, o.val] ≤ 100000) → play (M.map pay) i done now used = (done, used)
  | [], i, done, now, used, _ => rfl
  | o :: M, i, done, now, used, h => by
    rw [List.map_cons, play_op (what_pay o _ (h o (by simp)).2 (h o (by simp)).1)]
    exact play_pays M _ _ _ _ (fun o' ho' => h o' (by simp [ho']))

def allRecs (LL : List (List Opm)) : List (List UInt8) := LL.flatMap recs
theorem allRecs_snoc (LL : List (List Opm)) (L : List Opm) : allRecs (LL ++ [L]) = allRecs LL ++ recs L := by simp [allRecs]

theorem play_batches : ∀ (LL : List (List Opm)) (ps : List (List UInt8)) (i : Nat) (done : List (List Opm)) (used : Nat), (∀ L ∈ LL, small L) → ∃ i' u', play (allRecs LL ++ ps) i done [] used = play ps i' (done ++ LL) [] u'
  | [], ps, i, done, used, _ => ⟨i, used, by simp [allRecs]⟩
  | L :: LL, ps, i, done, used, h => by
    have e : allRecs (L :: LL) ++ ps = recs L ++ (allRecs LL ++ ps) := by simp [allRecs]
    rw [e, play_recs L (h L (by simp)).1 (h L (by simp)).2]
    obtain ⟨i', u', h2⟩ := play_batches LL ps (i + L.length + 1) (done ++ [L]) (i + L.length + 1) (fun L' hL' => h L' (by simp [hL']))
    exact ⟨i', u', by rw [h2]; simp⟩

theorem scans_total (b : List UInt8) : ∃ l n, Scans b l n := by
  induction hk : b.length using Nat.strongRecOn generalizing b with
  | _ k ih =>
    cases ho : one? b with
    | none => exact ⟨[], 0, .stop ho⟩
    | some pr =>
      obtain ⟨p, r⟩ := pr
      have hr : r.length < b.length := by
        unfold one? at ho
        split at ho
        · cases ho
        · next n q hn =>
          have hq : q.length < b.length := by
            unfold num? at hn
            split at hn
            · simp only [Option.some.injEq, Prod.mk.injEq] at hn; rw [← hn.2]; simp; omega
            · cases hn
          split at ho
          · cases ho
          · next s q2 hs =>
            have hq2 : q2.length ≤ q.length := by
              unfold num? at hs
              split at hs
              · simp only [Option.some.injEq, Prod.mk.injEq] at hs; rw [← hs.2]; simp
              · cases hs
            split at ho
            · simp only [Option.some.injEq, Prod.mk.injEq] at ho; rw [← ho.2]; simp; omega
            · cases ho
      obtain ⟨l, n, h⟩ := ih r.length (by omega) r rfl
      exact ⟨p :: l, _, .more ho h⟩

/-- Where records end. -/
def endR (ps : List (List UInt8)) (j : Nat) : Nat := (frms (ps.take j)).length

theorem endR_at (ps : List (List UInt8)) (t : Nat) (ht : t < (frms ps).length) : ∃ j, j < ps.length ∧ endR ps j ≤ t ∧ t < endR ps (j + 1) := by
  have key : ∀ m : Nat, (∃ j, j < m ∧ endR ps j ≤ t ∧ t < endR ps (j + 1)) ∨ endR ps m ≤ t := by
    intro m
    induction m with
    | zero => right; simp [endR, frms]
    | succ m ih =>
      rcases ih with ⟨j, h1, h2, h3⟩ | h
      · exact .inl ⟨j, by omega, h2, h3⟩
      · by_cases h' : endR ps (m + 1) ≤ t
        · exact .inr h'
        · exact .inl ⟨m, by omega, h, by omega⟩
  rcases key ps.length with h | h
  · exact h
  · unfold endR at h; rw [List.take_length] at h; omega

/-- Records that are cut. -/
theorem scans_inside {ps : List (List UInt8)} {t : Nat} (hp : ∀ p ∈ ps, p.length ≤ 1048576) (ht : t < (frms ps).length) : ∃ j n, j < ps.length ∧ Scans ((frms ps).take t) (ps.take j) n := by
  obtain ⟨j, hj, h1, h2⟩ := endR_at ps t ht
  have hx : ps[j]? = some (ps[j]'hj) := List.getElem?_eq_getElem hj
  generalize ps[j]'hj = p at hx
  have hs : frms (ps.take (j + 1)) = frms (ps.take j) ++ frm p := by rw [take_more hx, frms_snoc]
  unfold endR at h1 h2
  rw [hs, List.length_append] at h2
  have e : frms ps = frms (ps.take j) ++ (frm p ++ frms (ps.drop (j + 1))) := by
    have e1 : ps = ps.take j ++ ([p] ++ ps.drop (j + 1)) := by
      have := List.take_append_drop (j + 1) ps
      rw [take_more hx, List.append_assoc] at this
      exact this.symm
    conv => lhs; rw [e1]
    simp [frms]
  have e2 : (frms ps).take t = frms (ps.take j) ++ (frm p).take (t - (frms (ps.take j)).length) := by
    rw [e, List.take_append, List.take_of_length_le h1, List.take_append_of_le_length (by omega)]
  exact ⟨j, _, hj, by rw [e2]; exact scans_cut _ p _ (fun x hx => hp x (List.mem_of_mem_take hx)) (.inr ⟨_, by omega, hp p (List.mem_of_getElem? hx), rfl⟩)⟩

def endB (LL : List (List Opm)) (n : Nat) : Nat := (frms (allRecs (LL.take n))).length

theorem endB_succ {LL : List (List Opm)} {n : Nat} {L : List Opm} (h : LL[n]? = some L) : frms (allRecs (LL.take (n + 1))) = frms (allRecs (LL.take n)) ++ frms (recs L) := by rw [take_next h, allRecs_snoc, frms_append]

theorem cut_batches {LL : List (List Opm)} {n k : Nat} (hall : ∀ L ∈ LL, small L) (h1 : endB LL n ≤ k) (hn : n ≤ LL.length) (h2 : n = LL.length ∧ k ≤ (frms (allRecs LL)).length ∨ k < endB LL (n + 1)) {l : List (List UInt8)} {m : Nat} (h : Scans ((frms (allRecs LL)).take k) l m) :
    (∃ u, play l 0 [] [] 0 = (LL.take n, u)) ∧ ∀ p ∈ l, p.length ≤ 6000 := by
  have hsh : ∀ M : List (List Opm), (∀ L ∈ M, small L) → ∀ p ∈ allRecs M, p.length ≤ 6000 := fun M hM p hp => by
    obtain ⟨L, hL, hp⟩ := List.mem_flatMap.1 hp
    exact recs_short (hM L hL).1 p hp
  have htk : ∀ L ∈ LL.take n, small L := fun L hL => hall L (List.mem_of_mem_take hL)
  rcases Nat.lt_or_ge n LL.length with hlt | hge
  · have hx : LL[n]? = some (LL[n]'hlt) := List.getElem?_eq_getElem hlt
    generalize LL[n]'hlt = L at hx
    have hL := hall L (List.mem_of_getElem? hx)
    have hk : k < endB LL (n + 1) := by
      rcases h2 with ⟨h2, _⟩ | h2
      · omega
      · exact h2
    unfold endB at h1 hk
    rw [endB_succ hx, List.length_append] at hk
    have e : frms (allRecs LL) = frms (allRecs (LL.take n)) ++ (frms (recs L) ++ frms (allRecs (LL.drop (n + 1)))) := by
      have e1 : LL = LL.take n ++ ([L] ++ LL.drop (n + 1)) := by
        have := List.take_append_drop (n + 1) LL
        rw [take_next hx, List.append_assoc] at this
        exact this.symm
      conv => lhs; rw [e1]
      simp [allRecs, frms]
    have e2 : (frms (allRecs LL)).take k = frms (allRecs (LL.take n)) ++ (frms (recs L)).take (k - (frms (allRecs (LL.take n))).length) := by
      rw [e, List.take_append, List.take_of_length_le h1, List.take_append_of_le_length (by omega)]
    obtain ⟨j, m2, hj, hs⟩ := scans_inside (ps := recs L) (t := k - (frms (allRecs (LL.take n))).length) (fun p hp => by have := recs_short hL.1 p hp; omega) (by omega)
    have h3 := scans_frms hs (allRecs (LL.take n)) (fun p hp => by have := hsh _ htk p hp; omega)
    rw [e2] at h
    obtain ⟨rfl, _⟩ := scans_det h h3
    have hjl : j ≤ L.length := by unfold recs at hj; simp at hj; omega
    have et : (recs L).take j = (L.take j).map pay := by
      unfold recs
      rw [List.take_append_of_le_length (by simpa using hjl), List.map_take]
    constructor
    · obtain ⟨i', u', hp⟩ := play_batches (LL.take n) ((recs L).take j) 0 [] 0 htk
      refine ⟨u', ?_⟩
      rw [hp, et, play_pays _ _ _ _ _ (fun o ho => small_all hL o (List.mem_of_mem_take ho)), List.nil_append]
    · intro p hp
      rcases List.mem_append.1 hp with hp | hp
      · exact hsh _ htk p hp
      · exact recs_short hL.1 p (List.mem_of_mem_take hp)
  · have hk : k ≤ (frms (allRecs LL)).length := by
      rcases h2 with ⟨_, h2⟩ | h2
      · exact h2
      · unfold endB at h2
        rw [List.take_of_length_le (by omega)] at h2
        omega
    have ht : LL.take n = LL := List.take_of_length_le hge
    unfold endB at h1
    rw [ht] at h1 ⊢
    rw [List.take_of_length_le h1] at h
    obtain ⟨rfl, _⟩ := scans_all (fun p hp => by have := hsh LL hall p hp; omega) h
    constructor
    · obtain ⟨i', u', hp⟩ := play_batches LL [] 0 [] 0 hall
      rw [List.append_nil] at hp
      exact ⟨u', by rw [hp]; simp [play]⟩
    · exact hsh LL hall

def endsB (LL : List (List Opm)) (n : Nat) : List Int := (List.range n).map fun i => (endB LL (i + 1) : Int)
theorem endsB_succ (LL : List (List Opm)) (n : Nat) : endsB LL (n + 1) = endsB LL n ++ [(endB LL (n + 1) : Int)] := by simp [endsB, List.range_succ]
theorem endsB_length (LL : List (List Opm)) (n : Nat) : (endsB LL n).length = n := by simp [endsB]
theorem endsB_at (LL : List (List Opm)) (n j : Nat) (h : j < n) : (endsB LL n)[j]? = some (endB LL (j + 1) : Int) := by simp [endsB, h]

end Go.Proofs.YthacjeeafnblmaaGreatDoor

namespace Go.Proofs.YthacjeeafnblmaaGreatDoor
open Go.RowKit Go.Lib

def logK : List UInt8 := [108, 111, 103]
def logS : ByteArray := ⟨#[108, 111, 103]⟩
theorem logS_list : logS.data.toList = logK := rfl
theorem logS_size : logS.size = 3 := rfl

/-- The payloads at a text's beginning. -/
noncomputable def scn (b : List UInt8) : List (List UInt8) := Classical.choose (scans_total b)
theorem scn_of {b : List UInt8} {l : List (List UInt8)} {n : Nat} (h : Scans b l n) : scn b = l := by
  obtain ⟨m, hm⟩ := Classical.choose_spec (scans_total b)
  exact (scans_det hm h).1
noncomputable def scnN (b : List UInt8) : Nat := Classical.choose (Classical.choose_spec (scans_total b))
theorem scn_spec (b : List UInt8) : Scans b (scn b) (scnN b) := Classical.choose_spec (Classical.choose_spec (scans_total b))

/-- The batches in bytes, and where the last one ends. -/
noncomputable def batsOf (b : List UInt8) : List (List Opm) := (play (scn b) 0 [] [] 0).1
noncomputable def usedOf (b : List UInt8) : Nat := (play (scn b) 0 [] [] 0).2
noncomputable def endOf (b : List UInt8) : Nat := (frms ((scn b).take (usedOf b))).length

/-- What Open tells: the error, the disk behind it, the log's size, the batches. -/
structure Opened where
  e : Int
  M : MD
  n : Nat
  l : List (List Opm)

noncomputable def openR (M : MD) (b : List UInt8) : Opened :=
  if (M.act (opSync logK)).1 = 0 then ⟨0, (M.act (opSync logK)).2, endOf b, batsOf b⟩ else ⟨(M.act (opSync logK)).1, (M.act (opSync logK)).2, 0, []⟩
noncomputable def openQ (M : MD) (b : List UInt8) : Opened :=
  if endOf b < b.length then
    if (M.act (opCut logK (endOf b))).1 = 0 then openR (M.act (opCut logK (endOf b))).2 b else ⟨(M.act (opCut logK (endOf b))).1, (M.act (opCut logK (endOf b))).2, 0, []⟩
  else openR M b
noncomputable def openP (M : MD) : Opened :=
  if (M.read logK).2 = 3 then
    if (M.act (opCreate logK)).1 = 0 then openQ (M.act (opCreate logK)).2 [] else ⟨(M.act (opCreate logK)).1, (M.act (opCreate logK)).2, 0, []⟩
  else if (M.read logK).2 = 0 then openQ M (M.read logK).1 else ⟨(M.read logK).2, M, 0, []⟩

/-- What Commit and Reset leave: the answer, the disk, the size, whether it is sick. -/
structure Wrote where
  e : Int
  M : MD
  n : Nat
  s : Bool

def commitC (M : MD) (e : Int) (n : Nat) : Wrote :=
  if e = 7 then ⟨7, M, n, true⟩ else ⟨e, (M.act (opCut logK n)).2, n, decide ((M.act (opCut logK n)).1 ≠ 0)⟩
def commitA (M : MD) (n : Nat) (x : List UInt8) : Wrote :=
  if (M.act (opAppend logK x)).1 = 0 then
    if ((M.act (opAppend logK x)).2.act (opSync logK)).1 = 0 then ⟨0, ((M.act (opAppend logK x)).2.act (opSync logK)).2, n + x.length, false⟩
    else commitC ((M.act (opAppend logK x)).2.act (opSync logK)).2 ((M.act (opAppend logK x)).2.act (opSync logK)).1 n
  else commitC (M.act (opAppend logK x)).2 (M.act (opAppend logK x)).1 n
def commitP (M : MD) (n : Nat) (s : Bool) (L : List Opm) : Wrote :=
  if s = true then ⟨8, M, n, s⟩ else if okOps L = false then ⟨1, M, n, s⟩ else commitA M n (frms (recs L))
def resetP (M : MD) (n : Nat) (s : Bool) : Wrote :=
  if s = true then ⟨8, M, n, s⟩ else ⟨(M.act (opCut logK 0)).1, (M.act (opCut logK 0)).2, if (M.act (opCut logK 0)).1 = 0 then 0 else n, decide ((M.act (opCut logK 0)).1 = 7)⟩

/-- How much may be on a disk behind j calls, and its files rise. -/
structure Well (K : Nat) (M : MD) (j : Nat) : Prop where
  held : Hold K M j
  up : Rising M.fs
def Keeps (op : Opn) : Prop := ∀ cap fs, Rising fs → Rising (op cap fs).2

theorem keeps_create (k : List UInt8) : Keeps (opCreate k) := by
  intro cap fs h
  unfold opCreate
  split
  · exact h
  · split
    · exact h
    · rename_i hn
      exact insE_rising h (by simpa using hn)
theorem keeps_append (k l : List UInt8) : Keeps (opAppend k l) := by
  intro cap fs h
  unfold opAppend
  split
  · exact h
  · split
    · exact h
    · exact updE_rising (u := fun x => (x.1, x.2.1 ++ l, x.2.2)) (fun _ => rfl) h
theorem keeps_sync (k : List UInt8) : Keeps (opSync k) := by
  intro cap fs h
  unfold opSync
  split
  · exact h
  · exact updE_rising (u := fun x => (x.1, x.2.1, x.2.1.length)) (fun _ => rfl) h
theorem keeps_cut (k : List UInt8) (n : Int) : Keeps (opCut k n) := by
  intro cap fs h
  unfold opCut
  split
  · exact h
  · split
    · exact h
    · exact updE_rising (u := fun x => (x.1, x.2.1.take n.toNat, min x.2.2 n.toNat)) (fun _ => rfl) h

theorem well_act {K : Nat} {M : MD} {j : Nat} (h : Well K M j) {op : Opn} (ho : Adds op K) (hk : Keeps op) : Well K (M.act op).2 (j + 1) := by
  refine ⟨held_act h.held ho h.up, ?_⟩
  unfold MD.act
  split
  · exact h.up
  · split
    · show Rising (if M.dn = true then (op M.cap M.fs).2 else M.fs)
      split
      · exact hk _ _ h.up
      · exact h.up
    · split
      · exact h.up
      · exact hk _ _ h.up
theorem well_more {K : Nat} {M : MD} {i j : Nat} (h : Well K M i) (hj : i ≤ j) : Well K M j := by
  obtain ⟨d, rfl⟩ := Nat.exists_eq_add_of_le hj
  clear hj
  induction d with
  | zero => exact h
  | succ d ih => exact ⟨held_more ih.held, ih.up⟩
/-- How many calls there may be, and how many bytes each may bring. -/
structure Room (K J : Nat) : Prop where
  all : J * K ≤ 7200000
  calls : J ≤ 100000
theorem well_tot {K J : Nat} (hR : Room K J) {M : MD} {j : Nat} (h : Well K M j) (hj : j ≤ J) : tot M.fs ≤ 7200000 :=
  Nat.le_trans h.held.tot (Nat.le_trans (Nat.mul_le_mul_right K hj) hR.all)
theorem well_lim {K J : Nat} (hR : Room K J) {M : MD} {j : Nat} (h : Well K M j) (hj : j ≤ J) : Lim M := by
  have h1 := h.held.n
  have h3 := h.held.len
  have h4 := h.held.fail
  have h5 := h.held.keep
  have h6 := hR.calls
  have h7 := well_tot hR h hj
  exact ⟨by omega, ⟨by omega, by omega⟩, by omega, by omega⟩
theorem well_read {K J : Nat} (hR : Room K J) {M : MD} {j : Nat} (h : Well K M j) (hj : j ≤ J) (k : List UInt8) : (M.read k).1.length ≤ 7200000 := by
  have h1 := well_tot hR h hj
  unfold MD.read
  split
  · simp
  · split
    · simp
    · rename_i x hx
      have := tot_mem (find_memE hx).1
      show x.2.1.length ≤ _
      omega
theorem mread_none {M : MD} {k : List UInt8} (h : (M.read k).2 = 3) : (M.read k).1 = [] := by
  unfold MD.read at *
  split
  · rfl
  · rename_i hd
    rw [if_neg hd] at h
    split
    · rfl
    · rename_i x hx
      rw [hx] at h
      cases h
theorem mread_bad {M : MD} {k : List UInt8} (h : (M.read k).2 ≠ 0) : (M.read k).1 = [] := by
  unfold MD.read at *
  split
  · rfl
  · rename_i hd
    rw [if_neg hd] at h
    split
    · rfl
    · rename_i x hx
      rw [hx] at h
      exact absurd rfl h

/-- Records are what their payloads make. -/
theorem scans_size {b : List UInt8} {l : List (List UInt8)} {n : Nat} (h : Scans b l n) : (frms l).length = n := by
  induction h with
  | stop _ => simp [frms]
  | more _ _ ih =>
    rw [show ∀ (p : List UInt8) (l : List (List UInt8)), frms (p :: l) = frm p ++ frms l from fun p l => by simp [frms], List.length_append, frm_length, ih]
theorem frms_take (l : List (List UInt8)) (i : Nat) : (frms (l.take i)).length ≤ (frms l).length := by
  conv => rhs; rw [← List.take_append_drop i l, frms_append, List.length_append]
  omega
theorem frms_next {l : List (List UInt8)} {i : Nat} {p : List UInt8} (h : l[i]? = some p) : (frms (l.take (i + 1))).length = (frms (l.take i)).length + 8 + p.length := by
  have hlt := (List.getElem?_eq_some_iff.1 h).1
  rw [List.getElem?_eq_getElem hlt] at h
  rw [List.take_succ_eq_append_getElem hlt, frms_append, List.length_append, Option.some.inj h]
  simp [frms, frm_length]; omega

theorem well_create {K : Nat} {M : MD} {j : Nat} (h : Well K M j) (k : List UInt8) : Well K (M.act (opCreate k)).2 (j + 1) := well_act h (adds_create K k) (keeps_create k)
theorem well_append {K : Nat} {M : MD} {j : Nat} (h : Well K M j) (k l : List UInt8) (hl : l.length ≤ K) : Well K (M.act (opAppend k l)).2 (j + 1) := well_act h (adds_append K k l hl) (keeps_append k l)
theorem well_sync {K : Nat} {M : MD} {j : Nat} (h : Well K M j) (k : List UInt8) : Well K (M.act (opSync k)).2 (j + 1) := well_act h (adds_sync K k) (keeps_sync k)
theorem well_cut {K : Nat} {M : MD} {j : Nat} (h : Well K M j) (k : List UInt8) (n : Int) : Well K (M.act (opCut k n)).2 (j + 1) := well_act h (adds_cut K k n) (keeps_cut k n)

theorem well_openR {K : Nat} {M : MD} {j : Nat} (h : Well K M j) (b : List UInt8) : Well K (openR M b).M (j + 1) := by
  unfold openR
  split <;> exact well_sync h logK
theorem well_openQ {K : Nat} {M : MD} {j : Nat} (h : Well K M j) (b : List UInt8) : Well K (openQ M b).M (j + 2) := by
  unfold openQ
  split
  · split
    · exact well_openR (well_cut h logK _) b
    · exact well_more (well_cut h logK _) (by omega)
  · exact well_more (well_openR h b) (by omega)
theorem well_open {K : Nat} {M : MD} {j : Nat} (h : Well K M j) : Well K (openP M).M (j + 3) := by
  unfold openP
  split
  · split
    · exact well_openQ (well_create h logK) []
    · exact well_more (well_create h logK) (by omega)
  · split
    · exact well_more (well_openQ h _) (by omega)
    · exact well_more h (by omega)
theorem well_commitC {K : Nat} {M : MD} {j : Nat} (h : Well K M j) (e : Int) (n : Nat) : Well K (commitC M e n).M (j + 1) := by
  unfold commitC
  split
  · exact well_more h (by omega)
  · exact well_cut h logK _
theorem well_commitA {K : Nat} {M : MD} {j : Nat} (h : Well K M j) (n : Nat) (x : List UInt8) (hx : x.length ≤ K) : Well K (commitA M n x).M (j + 3) := by
  have ha := well_append h logK x hx
  have hs := well_sync ha logK
  unfold commitA
  split
  · split
    · exact well_more hs (by omega)
    · exact well_commitC hs _ n
  · exact well_more (well_commitC ha _ n) (by omega)
theorem well_commit {K : Nat} {M : MD} {j : Nat} (h : Well K M j) (n : Nat) (s : Bool) (L : List Opm) (hx : (frms (recs L)).length ≤ K) : Well K (commitP M n s L).M (j + 3) := by
  unfold commitP
  split
  · exact well_more h (by omega)
  · split
    · exact well_more h (by omega)
    · exact well_commitA h n _ hx
theorem well_reset {K : Nat} {M : MD} {j : Nat} (h : Well K M j) (n : Nat) (s : Bool) : Well K (resetP M n s).M (j + 1) := by
  unfold resetP
  split
  · exact well_more h (by omega)
  · exact well_cut h logK 0

theorem endOf_nil : endOf [] = 0 := by
  unfold endOf
  rw [scn_of scans_nil]
  simp [frms]
theorem batsOf_nil : batsOf [] = [] := by
  unfold batsOf
  rw [scn_of scans_nil]
  rfl

end Go.Proofs.YthacjeeafnblmaaGreatDoor
