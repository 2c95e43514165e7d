/- Replay: plain facts. Numbers and types by name. -/
import Derived.Test.YtgpacbmiliefiaaDoorRop
namespace Go.Proofs.YtgpacbmiliefiaaDoor
open Go.RowKit Go.Lib

/-- What a payload is behind so many ops. -/
inductive Is where
  | stop
  | op (o : Opm)
  | done
  deriving DecidableEq

def isWhat (k : UInt8) (t : List ByteArray) (n : Nat) : Is :=
  match t with
  | [s] => if k = 100 then .op ⟨true, s, ⟨#[]⟩⟩ else if k = 99 ∧ s = txt (digs n) then .done else .stop
  | [s, u] => if k = 112 then .op ⟨false, s, u⟩ else .stop
  | _ => .stop
def what (p : List UInt8) (n : Nat) : Is :=
  match p with
  | [] => .stop
  | k :: r => match dec r with
    | none => .stop
    | some t => isWhat k t n

/-- The batches of payloads. -/
def play : List (List UInt8) → Nat → List (List Opm) → List Opm → Nat → List (List Opm) × Nat
  | [], _, done, _, used => (done, used)
  | p :: ps, i, done, now, used =>
    match what p now.length with
    | .stop => (done, used)
    | .op o => play ps (i + 1) done (now ++ [o]) used
    | .done => play ps (i + 1) (done ++ [now]) [] (i + 1)

theorem play_stop {p : List UInt8} {ps : List (List UInt8)} {i : Nat} {done : List (List Opm)} {now : List Opm} {used : Nat} (h : what p now.length = .stop) : play (p :: ps) i done now used = (done, used) := by rw [play, h]
theorem play_op {p : List UInt8} {ps : List (List UInt8)} {i : Nat} {done : List (List Opm)} {now : List Opm} {used : Nat} {o : Opm} (h : what p now.length = .op o) : play (p :: ps) i done now used = play ps (i + 1) done (now ++ [o]) used := by rw [play, h]
theorem play_done {p : List UInt8} {ps : List (List UInt8)} {i : Nat} {done : List (List Opm)} {now : List Opm} {used : Nat} (h : what p now.length = .done) : play (p :: ps) i done now used = play ps (i + 1) (done ++ [now]) [] (i + 1) := by rw [play, h]

def normOp (o : Opm) : Opm := ⟨o.del, o.key, if o.del then ⟨#[]⟩ else o.val⟩

theorem what_pay (o : Opm) (n : Nat) (h : bulk [o.key, o.val] ≤ 100000) (hok : okOp o = true) : what (pay o) n = .op o := by
  unfold what pay
  have h1 : bulk [o.key] ≤ 100000 := by simp only [bulk, List.map_cons, List.map_nil, List.sum_cons, List.sum_nil] at *; omega
  obtain ⟨d, k, v⟩ := o
  cases d with
  | true =>
    simp only [if_true]
    rw [dec_enc _ h1]
    have hv : v = ⟨#[]⟩ := by
      simp only [okOp, Bool.true_and, Bool.not_not] at hok
      have : v.toList = [] := by simpa using hok
      rw [ByteArray.toList_eq] at this
      exact Go.WideShapes.bytes_inj (by simpa using this)
    simp [isWhat, hv]
  | false =>
    simp only [Bool.false_eq_true, if_false]
    rw [dec_enc _ h]
    simp [isWhat]

theorem what_fin (n : Nat) (hn : n < 1000000000) : what (fin n) n = .done := by
  unfold what fin
  have h : bulk [txt (digs n)] ≤ 100000 := by
    have := digs_length 8 n (by omega)
    have e : (txt (digs n)).size = (digs n).length := by simp [txt, ByteArray.size]
    simp only [bulk, List.map_cons, List.map_nil, List.sum_cons, List.sum_nil]; omega
  simp only
  rw [dec_enc _ h]
  simp [isWhat]

theorem digs_ne (n : Nat) : digs n ≠ [] := by
  rw [digs]; split <;> simp

theorem byte48 {a b : Nat} (ha : a < 10) (hb : b < 10) (h : UInt8.ofNat (48 + a) = UInt8.ofNat (48 + b)) : a = b := by
  have := congrArg UInt8.toNat h
  rw [UInt8.toNat_ofNat', UInt8.toNat_ofNat'] at this
  omega
theorem digs_inj : ∀ (n m : Nat), digs n = digs m → n = m := by
  intro n
  induction n using Nat.strongRecOn with
  | _ n ih =>
    intro m h
    by_cases hn : n < 10
    · by_cases hm : m < 10
      · rw [digs_small hn, digs_small hm] at h
        exact byte48 hn hm (by simpa using h)
      · rw [digs_small hn, digs_more hm] at h
        have := congrArg List.length h
        have h2 := digs_ne (m / 10)
        cases hd : digs (m / 10) with
        | nil => exact absurd hd h2
        | cons a l => rw [hd] at this; simp at this
    · by_cases hm : m < 10
      · rw [digs_more hn, digs_small hm] at h
        have := congrArg List.length h
        have h2 := digs_ne (n / 10)
        cases hd : digs (n / 10) with
        | nil => exact absurd hd h2
        | cons a l => rw [hd] at this; simp at this
      · rw [digs_more hn, digs_more hm] at h
        obtain ⟨h1, h2⟩ := List.append_inj' h rfl
        have e1 := ih (n / 10) (by omega) (m / 10) h1
        have e2 := byte48 (Nat.mod_lt _ (by omega)) (Nat.mod_lt _ (by omega)) (by simpa using h2)
        omega

/-- A batch's payloads, whatever stands behind them. -/
theorem play_recs (L : List Opm) (hb : bulkO L ≤ 5000) (hok : okOps L = true) (ps : List (List UInt8)) (i : Nat) (done : List (List Opm)) (used : Nat) :
    play (recs L ++ ps) i done [] used = play ps (i + L.length + 1) (done ++ [L]) [] (i + L.length + 1) := by
  have hall : L.all okOp = true := by unfold okOps at hok; simp only [Bool.and_eq_true] at hok; exact hok.1
  have go : ∀ (M now : List Opm) (i : Nat), (∀ o ∈ M, okOp o = true ∧ bulk [o.key, o.val] ≤ 100000) → play (M.map pay ++ ([fin (now.length + M.length)] ++ ps)) i done now used = play ([fin (now.length + M.length)] ++ ps) (i + M.length) done (now ++ M) used := by
    intro M
    induction M with
    | nil => intro now i _; simp
    | cons o M ih =>
      intro now i h
      rw [List.map_cons, List.cons_append, play_op (what_pay o _ (h o (by simp)).2 (h o (by simp)).1)]
      have := ih (now ++ [o]) (i + 1) (fun o' ho' => h o' (by simp [ho']))
      rw [List.length_append, List.length_singleton, show now.length + 1 + M.length = now.length + (o :: M).length by simp; omega] at this
      rw [this]
      simp only [List.append_assoc, List.singleton_append, List.length_cons]
      rw [show i + 1 + M.length = i + (M.length + 1) by omega]
  have h := go L [] i (fun o ho => by
    refine ⟨by simpa using (List.all_eq_true.1 hall) o ho, ?_⟩
    have := bulkO_mem ho
    simp only [bulk, List.map_cons, List.map_nil, List.sum_cons, List.sum_nil]; omega)
  have hn := bulkO_length L
  unfold recs
  rw [List.append_assoc]
  simp only [List.length_nil, Nat.zero_add, List.nil_append] at h
  rw [h, List.singleton_append, play_done (what_fin _ (by omega))]

end Go.Proofs.YtgpacbmiliefiaaDoor
