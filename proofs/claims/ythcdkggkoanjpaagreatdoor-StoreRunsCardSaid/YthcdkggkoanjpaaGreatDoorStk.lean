/- What a store keeps whatever a disk's plan says: plain facts. Numbers and types by name. -/
import Derived.Test.YthcdkggkoanjpaaGreatDoorWft
import Derived.Test.YthcdkggkoanjpaaGreatDoorSpl
import Derived.Test.YthcdkggkoanjpaaGreatDoorRen
import Derived.Test.YthcdkggkoanjpaaGreatDoorBtc
namespace Go.Proofs.YthcdkggkoanjpaaGreatDoor
open Go.RowKit Go.Lib
def EB (LL : List (List Opm)) : List UInt8 := frms (allRecs LL)
theorem EB_snoc (LL : List (List Opm)) (L : List Opm) : EB (LL ++ [L]) = EB LL ++ frms (recs L) := by unfold EB; rw [allRecs_snoc, frms_append]
theorem play_all : ∀ (LL : List (List Opm)) (ps : List (List UInt8)) (i : Nat) (done : List (List Opm)), (∀ L ∈ LL, small L) → play (allRecs LL ++ ps) i done [] i = play ps (i + (allRecs LL).length) (done ++ LL) [] (i + (allRecs LL).length)
  | [], ps, i, done, _ => by simp [allRecs]
  | L :: LL, ps, i, done, h => by
    have e : allRecs (L :: LL) ++ ps = recs L ++ (allRecs LL ++ ps) := by simp [allRecs]
    have e2 : (allRecs (L :: LL)).length = L.length + 1 + (allRecs LL).length := by simp [allRecs, recs]; omega
    rw [e, play_recs L (h L (by simp)).1 (h L (by simp)).2, play_all LL ps _ _ (fun L' hL' => h L' (by simp [hL'])), e2]
    simp only [List.append_assoc, List.singleton_append]
    rw [show i + L.length + 1 + (allRecs LL).length = i + (L.length + 1 + (allRecs LL).length) by omega]
theorem allRecs_short {LL : List (List Opm)} (h : ∀ L ∈ LL, small L) : ∀ p ∈ allRecs LL, p.length ≤ 1048576 := fun p hp => by
  obtain ⟨L, hL, hp⟩ := List.mem_flatMap.1 hp
  have := recs_short (h L hL).1 p hp
  omega
theorem bats_full {LL : List (List Opm)} (h : ∀ L ∈ LL, small L) : batsOf (EB LL) = LL ∧ endOf (EB LL) = (EB LL).length := by
  have h1 := scans_frms scans_nil (allRecs LL) (allRecs_short h)
  rw [List.append_nil, List.append_nil] at h1
  have h2 := play_all LL [] 0 [] h
  rw [List.append_nil, Nat.zero_add, List.nil_append] at h2
  have h3 : play (allRecs LL) 0 [] [] 0 = (LL, (allRecs LL).length) := by rw [h2, play]
  unfold batsOf endOf usedOf EB
  rw [scn_of h1, h3]
  exact ⟨rfl, by rw [List.take_length]⟩
theorem bats_part {LL : List (List Opm)} (h : ∀ L ∈ LL, small L) {L : List Opm} (hL : small L) {t : Nat} (ht : t < (frms (recs L)).length) : batsOf (EB LL ++ (frms (recs L)).take t) = LL ∧ endOf (EB LL ++ (frms (recs L)).take t) = (EB LL).length := by
  obtain ⟨j, m, hj, hs⟩ := scans_inside (ps := recs L) (fun p hp => by have := recs_short hL.1 p hp; omega) ht
  have h1 := scans_frms hs (allRecs LL) (allRecs_short h)
  have hjl : j ≤ L.length := by unfold recs at hj; simp at hj; omega
  have et : (recs L).take j = (L.take j).map pay := by
    unfold recs
    rw [List.take_append_of_le_length (by simpa using hjl), List.map_take]
  have h2 := play_all LL ((recs L).take j) 0 [] h
  rw [Nat.zero_add, List.nil_append] at h2
  have h3 : play (allRecs LL ++ (recs L).take j) 0 [] [] 0 = (LL, (allRecs LL).length) := by
    rw [h2, et, play_pays _ _ _ _ _ (fun o ho => small_all hL o (List.mem_of_mem_take ho))]
  unfold batsOf endOf usedOf EB
  rw [scn_of h1, h3]
  exact ⟨rfl, by rw [List.take_left' rfl]⟩
theorem pays_size (M : List Opm) : (frms (M.map pay)).length ≤ 20 * M.length + bulkO M := by
  induction M with
  | nil => simp [frms]
  | cons o M ih =>
    have e : frms ((o :: M).map pay) = frm (pay o) ++ frms (M.map pay) := by simp [frms]
    have e2 : bulkO (o :: M) = 1 + o.key.size + o.val.size + bulkO M := by simp [bulkO]
    have := pay_length o
    rw [e, List.length_append, frm_length, e2, List.length_cons]
    omega
theorem recs_size {L : List Opm} (hb : bulkO L ≤ 5000) : (frms (recs L)).length ≤ 20 * L.length + bulkO L + 26 := by
  have hn := bulkO_length L
  have h2 := fin_length (n := L.length) (by omega)
  have := pays_size L
  unfold recs
  rw [frms_append, List.length_append]
  have e3 : (frms [fin L.length]).length = 8 + (fin L.length).length := by simp [frms, frm_length]
  omega
theorem recs_ok {L : List Opm} (hok : okOps L = true) (hb : bulkO L ≤ 5000) : (frms (recs L)).length ≤ 26000 := by
  have h3 : L.length ≤ 1000 := by
    unfold okOps at hok
    simp only [Bool.and_eq_true, decide_eq_true_eq] at hok
    omega
  have := recs_size hb
  omega
end Go.Proofs.YthcdkggkoanjpaaGreatDoor
namespace Go.Proofs.YthcdkggkoanjpaaGreatDoor
open Go.RowKit Go.Lib
structure Still8 (M : MD) : Prop where
  dw : M.dw = false
  cr : M.cr ≤ M.n
  fail : M.fail = []
theorem Still8.act {M : MD} (h : Still8 M) (op : Opn) : M.act op = ((op M.cap M.fs).1, { M with n := M.n + 1, fs := (op M.cap M.fs).2 }) := by
  unfold MD.act
  rw [if_neg (by simp [h.dw]), if_neg (by have := h.cr; omega), if_neg (by rw [h.fail]; simp)]
theorem Still8.next {M : MD} (h : Still8 M) (fs : List Ent) : Still8 { M with n := M.n + 1, fs := fs } := ⟨h.dw, by have := h.cr; show M.cr ≤ M.n + 1; omega, h.fail⟩
theorem load_snap {M : MD} (hd : M.dw = false) {b : List UInt8} {s : Nat} (hf : M.fs.find? (isName snapK) = some (snapK, b, s)) : loadP M = (b, 0) := by
  unfold loadP MD.read
  rw [if_neg (by simp [hd]), hf]
end Go.Proofs.YthcdkggkoanjpaaGreatDoor
namespace Go.Proofs.YthcdkggkoanjpaaGreatDoor
open Go.RowKit Go.Lib Go.Sort
theorem listF_TS {A : List Prm} (ha : Rise A) (h1 : Slim A) : listF (bytesT A) = A ∧ errF (bytesT A) = 0 ∧ errT A = 0 := by
  unfold listF errF errT bytesT
  rw [if_pos ha, unP_frmS ha h1]
  simp [ha]
end Go.Proofs.YthcdkggkoanjpaaGreatDoor
namespace Go.Proofs.YthcdkggkoanjpaaGreatDoor
open Go.RowKit Go.Lib
theorem load_savedS {M : MD} {A : List Prm} (hR : Rise A) (hb : Slim A) (hd : M.dw = false) {s : Nat} (hf : M.fs.find? (isName snapK) = some (snapK, bytesT A, s)) : loadL M = A ∧ loadE M = 0 := by
  obtain ⟨h1, h2, _⟩ := listF_TS hR hb
  unfold loadL loadE
  rw [load_snap hd hf]
  exact ⟨h1, h2⟩
theorem save_right {M : MD} {A : List Prm} (hR : Rise A) : saveT M A = saveP M (bytesT A) := by
  unfold saveT
  rw [if_pos hR]
theorem still_new (cap : Int) : Still8 (MD.new cap 0 false [] []) := ⟨rfl, Int.le_refl _, rfl⟩
end Go.Proofs.YthcdkggkoanjpaaGreatDoor
namespace Go.Proofs.YthcdkggkoanjpaaGreatDoor
open Go.RowKit Go.Lib
structure DK (M : MD) (S : List Prm) (B : List (List Opm)) (O : List Opm) (t : List UInt8) : Prop where
  up : Rising M.fs
  log : (M.fs.find? (isName logK) = none ∧ B = [] ∧ t = []) ∨ ∃ sy, logIs M.fs (EB B ++ t) sy ∧ (EB B).length ≤ sy ∧ sy ≤ (EB B ++ t).length
  snap : (M.fs.find? (isName snapK) = none ∧ S = []) ∨ Sure M.fs snapK (bytesT S)
  part : t = [] ∨ (small O ∧ ∃ k, t = (frms (recs O)).take k)
  sm : ∀ L ∈ B, small L
  rise : Rise S
  slim : Slim S
theorem DK.with {M M' : MD} {S : List Prm} {B B' : List (List Opm)} {O O' : List Opm} {t t' : List UInt8} (h : DK M S B O t) (up : Rising M'.fs) (sn : M'.fs.find? (isName snapK) = M.fs.find? (isName snapK))
    (log : (M'.fs.find? (isName logK) = none ∧ B' = [] ∧ t' = []) ∨ ∃ sy, logIs M'.fs (EB B' ++ t') sy ∧ (EB B').length ≤ sy ∧ sy ≤ (EB B' ++ t').length)
    (part : t' = [] ∨ (small O' ∧ ∃ k, t' = (frms (recs O')).take k)) (sm : ∀ L ∈ B', small L) : DK M' S B' O' t' where
  up := up
  log := log
  snap := by
    rcases h.snap with ⟨h1, h2⟩ | h1
    · exact .inl ⟨sn.trans h1, h2⟩
    · exact .inr (sn.trans h1)
  part := part
  sm := sm
  rise := h.rise
  slim := h.slim
theorem DK.other {M : MD} {S : List Prm} {B : List (List Opm)} {O : List Opm} (h : DK M S B O []) (O' : List Opm) : DK M S B O' [] := h.with h.up rfl h.log (.inl rfl) h.sm
theorem DK.same {M M' : MD} {S : List Prm} {B : List (List Opm)} {O : List Opm} {t : List UInt8} (h : DK M S B O t) (e : M'.fs = M.fs) : DK M' S B O t := h.with (by rw [e]; exact h.up) (by rw [e]) (by rw [e]; exact h.log) h.part h.sm
theorem dk_load {M : MD} {S : List Prm} {B : List (List Opm)} {O : List Opm} {t : List UInt8} (h : DK M S B O t) (hd : M.dw = false) : loadE M = 0 ∧ loadL M = S := by
  rcases h.snap with ⟨h1, rfl⟩ | h1
  · have e : loadP M = ([], 3) := by
      unfold loadP MD.read
      rw [if_neg (by simp [hd]), h1]
    unfold loadE loadL
    rw [e]
    exact ⟨rfl, rfl⟩
  · obtain ⟨h2, h3⟩ := load_savedS h.rise h.slim hd h1
    exact ⟨h3, h2⟩
theorem load_down {M : MD} (hd : M.dw = true) : loadE M = 7 := by
  unfold loadE loadP MD.read
  rw [if_pos hd]
  rfl
theorem dk_restart {M : MD} {S : List Prm} {B : List (List Opm)} {O : List Opm} {t : List UInt8} (h : DK M S B O t) (cap cr : Int) (dn : Bool) (fl kp : List Int) :
    ∃ t', DK (M.restart cap cr dn fl kp) S B O t' ∧ (t = [] → t' = []) := by
  have hrs : Rising (M.restart cap cr dn fl kp).fs := rising_of_names (by show (List.map _ (resE M.keep M.fs M.fs.length)).Pairwise _; rw [resE_names]; exact h.up.names)
  have hsn : (((M.restart cap cr dn fl kp).fs.find? (isName snapK) = none ∧ S = []) ∨ Sure (M.restart cap cr dn fl kp).fs snapK (bytesT S)) := by
    rcases h.snap with ⟨h1, h2⟩ | h1
    · exact .inl ⟨restart_none h1 cap cr dn fl kp, h2⟩
    · exact .inr (sure_restart h.up h1 cap cr dn fl kp).1
  rcases h.log with ⟨h1, rfl, rfl⟩ | ⟨sy, h1, h2, h3⟩
  · exact ⟨[], ⟨hrs, .inl ⟨restart_none h1 cap cr dn fl kp, rfl, rfl⟩, hsn, .inl rfl, h.sm, h.rise, h.slim⟩, fun _ => rfl⟩
  · obtain ⟨k, k1, k2, k3⟩ := restart_is h.up h1 h3 cap cr dn fl kp
    have htk : (EB B ++ t).take k = EB B ++ t.take (k - (EB B).length) := by rw [List.take_append, List.take_of_length_le (by omega)]
    have hl : ((EB B ++ t).take k).length = k := by rw [List.length_take]; omega
    rw [htk] at k3 hl
    refine ⟨t.take (k - (EB B).length), ⟨hrs, .inr ⟨k, k3, by omega, by omega⟩, hsn, ?_, h.sm, h.rise, h.slim⟩, fun e => by rw [e]; exact List.take_nil⟩
    rcases h.part with rfl | ⟨p1, q, rfl⟩
    · exact .inl List.take_nil
    · exact .inr ⟨p1, _, List.take_take⟩
theorem dk_bats {B : List (List Opm)} {O : List Opm} {t : List UInt8} (hp : t = [] ∨ (small O ∧ ∃ k, t = (frms (recs O)).take k)) (hs : ∀ L ∈ B, small L) :
    ∃ m, (m = B ∨ (t ≠ [] ∧ m = B ++ [O])) ∧ batsOf (EB B ++ t) = m ∧ endOf (EB B ++ t) = (EB m).length ∧ (EB B ++ t).take (EB m).length = EB m ∧ (EB m).length ≤ (EB B ++ t).length ∧ ((EB m).length < (EB B ++ t).length → m = B) ∧ ∀ L ∈ m, small L := by
  have full : ∃ m, (m = B ∨ (([] : List UInt8) ≠ [] ∧ m = B ++ [O])) ∧ batsOf (EB B ++ []) = m ∧ endOf (EB B ++ []) = (EB m).length ∧ (EB B ++ []).take (EB m).length = EB m ∧ (EB m).length ≤ (EB B ++ []).length ∧ ((EB m).length < (EB B ++ []).length → m = B) ∧ ∀ L ∈ m, small L := by
    obtain ⟨c1, c2⟩ := bats_full hs
    rw [List.append_nil]
    exact ⟨B, .inl rfl, c1, c2, List.take_length, Nat.le_refl _, fun _ => rfl, hs⟩
  rcases hp with rfl | ⟨hO, k, rfl⟩
  · exact full
  · by_cases hlt : k < (frms (recs O)).length
    · by_cases h0 : k = 0
      · subst h0
        rw [List.take_zero]
        exact full
      obtain ⟨c1, c2⟩ := bats_part hs hO hlt
      exact ⟨B, .inl rfl, c1, c2, List.take_left' rfl, by rw [List.length_append]; omega, fun _ => rfl, hs⟩
    · rw [List.take_of_length_le (by omega)]
      have h9 : ∀ L ∈ B ++ [O], small L := fun L hL => by
        rcases List.mem_append.1 hL with h | h
        · exact hs L h
        · rw [List.mem_singleton.1 h]; exact hO
      obtain ⟨c1, c2⟩ := bats_full h9
      have hpos := recs_pos O
      rw [← EB_snoc, c1, c2]
      exact ⟨B ++ [O], .inr ⟨fun e => (by rw [e] at hpos; simp at hpos), rfl⟩, rfl, rfl, List.take_length, Nat.le_refl _, fun h => absurd h (Nat.lt_irrefl _), h9⟩
structure SK (M : MD) (n : Nat) (s : Bool) (L S : List Prm) (B : List (List Opm)) (O : List Opm) (t : List UInt8) : Prop where
  dk : DK M S B O t
  is : ∃ sy, logIs M.fs (EB B ++ t) sy ∧ (EB B).length ≤ sy ∧ sy ≤ (EB B ++ t).length
  n : s = false → n = (EB B).length
  fine : s = false → t = []
  L : L = applyAll S B
theorem SK.rise {M : MD} {n : Nat} {s : Bool} {L S : List Prm} {B : List (List Opm)} {O : List Opm} {t : List UInt8} (h : SK M n s L S B O t) : Rise L := by rw [h.L]; exact rise_all h.dk.rise B
theorem dk_log {M : MD} {S : List Prm} {B B' : List (List Opm)} {O O' : List Opm} {t t' : List UInt8} {op : Opn} (h : DK M S B O t) (hk : Keeps op) (hsp : Spares op) {sy : Nat} (hi : logIs (M.act op).2.fs (EB B' ++ t') sy) (h1 : (EB B').length ≤ sy) (h2 : sy ≤ (EB B' ++ t').length)
    (part : t' = [] ∨ (small O' ∧ ∃ k, t' = (frms (recs O')).take k)) (sm : ∀ L ∈ B', small L) : DK (M.act op).2 S B' O' t' ∧ ∃ sy, logIs (M.act op).2.fs (EB B' ++ t') sy ∧ (EB B').length ≤ sy ∧ sy ≤ (EB B' ++ t').length :=
  ⟨h.with (act_rising hk h.up) (act_spares hsp h.up) (.inr ⟨sy, hi, h1, h2⟩) part sm, sy, hi, h1, h2⟩
theorem sk_cut {M : MD} {S : List Prm} {B : List (List Opm)} {X : List Opm} {t : List UInt8} (e : Int) (h7 : e ≠ 7) (hd : M.dw = false) (h : DK M S B X t) (hi : ∃ sy, logIs M.fs (EB B ++ t) sy ∧ (EB B).length ≤ sy ∧ sy ≤ (EB B ++ t).length) {L : List Prm} (hL : L = applyAll S B) :
    (commitC M e (EB B).length).e = e ∧ ∃ t', SK (commitC M e (EB B).length).M (commitC M e (EB B).length).n (commitC M e (EB B).length).s L S B X t' := by
  obtain ⟨sy, h1, h2, h3⟩ := hi
  have hc := cut_is h1 (EB B).length (by rw [List.length_append]; omega) M.cap
  rw [List.take_left' rfl, Nat.min_eq_right h2] at hc
  unfold commitC
  rw [if_neg h7]
  refine ⟨rfl, ?_⟩
  show ∃ t', SK (M.act (opCut logK (EB B).length)).2 (EB B).length (decide ((M.act (opCut logK (EB B).length)).1 ≠ 0)) L S B X t'
  have kp := keeps_cut logK (EB B).length
  have sp := spares_logC (EB B).length
  rcases act_ways hd (opCut logK (EB B).length) with ⟨a1, _, a3 | a3⟩ | ⟨a1, _, a3⟩ | ⟨a1, _, a3⟩
  · obtain ⟨k1, k2⟩ := dk_log h kp sp (by unfold logIs; rw [a3]; exact h1) h2 h3 h.part h.sm
    exact ⟨t, k1, k2, fun h => absurd h (by rw [a1]; decide), fun h => absurd h (by rw [a1]; decide), hL⟩
  · obtain ⟨k1, k2⟩ := dk_log (O' := X) (t' := []) h kp sp (by rw [List.append_nil, a3]; exact hc.2) (Nat.le_refl _) (by rw [List.append_nil]; exact Nat.le_refl _) (.inl rfl) h.sm
    exact ⟨[], k1, k2, fun _ => rfl, fun _ => rfl, hL⟩
  · obtain ⟨k1, k2⟩ := dk_log h kp sp (by unfold logIs; rw [a3]; exact h1) h2 h3 h.part h.sm
    exact ⟨t, k1, k2, fun h => absurd h (by rw [a1]; decide), fun h => absurd h (by rw [a1]; decide), hL⟩
  · obtain ⟨k1, k2⟩ := dk_log (O' := X) (t' := []) h kp sp (by rw [List.append_nil, a3]; exact hc.2) (Nat.le_refl _) (by rw [List.append_nil]; exact Nat.le_refl _) (.inl rfl) h.sm
    exact ⟨[], k1, k2, fun _ => rfl, fun _ => rfl, hL⟩
theorem sk_commit {M : MD} {n : Nat} {s : Bool} {L S : List Prm} {B : List (List Opm)} {O : List Opm} {t : List UInt8} (h : SK M n s L S B O t) {X : List Opm} (hb : bulkO X ≤ 5000) :
    ((commitP M n s X).e = 0 → SK (commitP M n s X).M (commitP M n s X).n (commitP M n s X).s (applyP L X) S (B ++ [X]) O [] ∧ (commitP M n s X).s = false ∧ okOps X = true) ∧
    ((commitP M n s X).e ≠ 0 → (commitP M n s X).e ≠ 8 → okOps X = true → ∃ t', SK (commitP M n s X).M (commitP M n s X).n (commitP M n s X).s L S B X t') ∧
    ((commitP M n s X).e = 8 ∨ okOps X = false → (commitP M n s X).e ≠ 0 ∧ (commitP M n s X).M = M ∧ (commitP M n s X).n = n ∧ (commitP M n s X).s = s) := by
  unfold commitP
  cases s with
  | true =>
    rw [if_pos rfl]
    exact ⟨fun h => absurd h (by show ¬ (8 : Int) = 0; decide), fun _ h => absurd rfl h, fun _ => ⟨by show ¬ (8 : Int) = 0; decide, rfl, rfl, rfl⟩⟩
  | false =>
  rw [if_neg (by simp)]
  cases hok : okOps X with
  | false =>
    rw [if_pos rfl]
    exact ⟨fun h => absurd h (by show ¬ (1 : Int) = 0; decide), fun _ _ h => (by cases h), fun _ => ⟨by show ¬ (1 : Int) = 0; decide, rfl, rfl, rfl⟩⟩
  | true =>
  rw [if_neg (by simp)]
  obtain rfl := h.fine rfl
  obtain rfl := h.n rfl
  have hX : small X := ⟨hb, hok⟩
  obtain ⟨sy, h1, h2, h3⟩ := h.is
  rw [List.append_nil] at h1 h3
  have hsy : sy = (EB B).length := by omega
  subst hsy
  have hdk := h.dk.other X
  generalize hx : frms (recs X) = x
  have bad : ∀ R : Wrote, R.e ≠ 0 → R.e ≠ 8 → (∃ t', SK R.M R.n R.s L S B X t') →
      (R.e = 0 → SK R.M R.n R.s (applyP L X) S (B ++ [X]) O [] ∧ R.s = false ∧ true = true) ∧ (R.e ≠ 0 → R.e ≠ 8 → true = true → ∃ t', SK R.M R.n R.s L S B X t') ∧ (R.e = 8 ∨ true = false → R.e ≠ 0 ∧ R.M = M ∧ R.n = (EB B).length ∧ R.s = false) :=
    fun R r0 r8 hR => ⟨fun h => absurd h r0, fun _ _ _ => hR, fun h => h.elim (fun h => absurd h r8) (fun h => by cases h)⟩
  have kpA := keeps_append logK x
  have spA := spares_logA x
  have hpx : x = [] ∨ (small X ∧ ∃ k, x = (frms (recs X)).take k) := .inr ⟨hX, _, by rw [hx]; exact (List.take_length (l := x)).symm⟩
  unfold commitA
  cases hd : M.dw with
  | true =>
    rw [act_down hd, if_neg (by show ¬ (7 : Int) = 0; decide)]
    unfold commitC
    rw [if_pos rfl]
    exact bad _ (by show ¬ (7 : Int) = 0; decide) (by show ¬ (7 : Int) = 8; decide) ⟨[], hdk, ⟨_, by rw [List.append_nil]; exact h1, Nat.le_refl _, by rw [List.append_nil]; exact Nat.le_refl _⟩, fun h => (by cases h), fun _ => rfl, h.L⟩
  | false =>
  have happ := append_is h1 x M.cap
  rcases act_ways hd (opAppend logK x) with ⟨a1, a2, a3⟩ | ⟨a1, a2, a3⟩ | ⟨a1, a2, a3⟩
  · -- the append crashes
    rw [if_neg (by rw [a1]; decide), a1]
    unfold commitC
    rw [if_pos rfl]
    refine bad _ (by show ¬ (7 : Int) = 0; decide) (by show ¬ (7 : Int) = 8; decide) ?_
    have hf : logIs (M.act (opAppend logK x)).2.fs (EB B) (EB B).length ∨ logIs (M.act (opAppend logK x)).2.fs (EB B ++ x) (EB B).length := by
      rcases a3 with a3 | a3
      · rw [a3]; exact .inl h1
      · rw [a3]
        rcases happ with ⟨_, p2, _⟩ | ⟨_, p2, _⟩
        · rw [p2]; exact .inl h1
        · exact .inr p2
    rcases hf with hf | hf
    · obtain ⟨k1, k2⟩ := dk_log (O' := X) (t' := []) hdk kpA spA (by rw [List.append_nil]; exact hf) (Nat.le_refl _) (by rw [List.append_nil]; exact Nat.le_refl _) (.inl rfl) hdk.sm
      exact ⟨[], k1, k2, fun h => (by cases h), fun _ => rfl, h.L⟩
    · obtain ⟨k1, k2⟩ := dk_log (O' := X) (t' := x) hdk kpA spA hf (Nat.le_refl _) (by rw [List.length_append]; omega) hpx hdk.sm
      exact ⟨x, k1, k2, fun h => (by cases h), fun h => (by cases h), h.L⟩
  · -- the append fails
    rw [if_neg (by rw [a1]; decide), a1]
    obtain ⟨k1, k2⟩ := dk_log (O' := X) (t' := []) hdk kpA spA (by rw [List.append_nil, a3]; exact h1) (Nat.le_refl _) (by rw [List.append_nil]; exact Nat.le_refl _) (.inl rfl) hdk.sm
    obtain ⟨c1, c2⟩ := sk_cut 6 (by decide) a2 k1 k2 h.L
    exact bad _ (by rw [c1]; decide) (by rw [c1]; decide) c2
  · rcases happ with ⟨p1, p2, _⟩ | ⟨p1, p2, _⟩
    · -- no room
      rw [if_neg (by rw [a1, p1]; decide), a1, p1]
      obtain ⟨k1, k2⟩ := dk_log (O' := X) (t' := []) hdk kpA spA (by rw [List.append_nil, a3, p2]; exact h1) (Nat.le_refl _) (by rw [List.append_nil]; exact Nat.le_refl _) (.inl rfl) hdk.sm
      obtain ⟨c1, c2⟩ := sk_cut 5 (by decide) a2 k1 k2 h.L
      exact bad _ (by rw [c1]; decide) (by rw [c1]; decide) c2
    · rw [if_pos (a1.trans p1)]
      have hf1 : logIs (M.act (opAppend logK x)).2.fs (EB B ++ x) (EB B).length := by rw [a3]; exact p2
      obtain ⟨dk1, _⟩ := dk_log (O' := X) (t' := x) hdk kpA spA hf1 (Nat.le_refl _) (by rw [List.length_append]; omega) hpx hdk.sm
      generalize (M.act (opAppend logK x)).2 = M1 at *
      have hsync := sync_is hf1 M1.cap
      have kpS := keeps_sync logK
      rcases act_ways a2 (opSync logK) with ⟨b1, b2, b3⟩ | ⟨b1, b2, b3⟩ | ⟨b1, b2, b3⟩
      · -- the sync crashes
        rw [if_neg (by rw [b1]; decide), b1]
        unfold commitC
        rw [if_pos rfl]
        refine bad _ (by show ¬ (7 : Int) = 0; decide) (by show ¬ (7 : Int) = 8; decide) ?_
        have hf : ∃ sy, logIs (M1.act (opSync logK)).2.fs (EB B ++ x) sy ∧ (EB B).length ≤ sy ∧ sy ≤ (EB B ++ x).length := by
          rcases b3 with b3 | b3
          · exact ⟨_, by rw [b3]; exact hf1, Nat.le_refl _, by rw [List.length_append]; omega⟩
          · exact ⟨_, by rw [b3]; exact hsync.2, by rw [List.length_append]; omega, Nat.le_refl _⟩
        obtain ⟨sy, hf, q1, q2⟩ := hf
        obtain ⟨k1, k2⟩ := dk_log (O' := X) (t' := x) dk1 kpS spares_logS hf q1 q2 hpx hdk.sm
        exact ⟨x, k1, k2, fun h => (by cases h), fun h => (by cases h), h.L⟩
      · -- the sync fails
        rw [if_neg (by rw [b1]; decide), b1]
        obtain ⟨k1, k2⟩ := dk_log (O' := X) (t' := x) dk1 kpS spares_logS (by rw [b3]; exact hf1) (Nat.le_refl _) (by rw [List.length_append]; omega) hpx hdk.sm
        obtain ⟨c1, c2⟩ := sk_cut 6 (by decide) b2 k1 k2 h.L
        exact bad _ (by rw [c1]; decide) (by rw [c1]; decide) c2
      · rw [if_pos (b1.trans hsync.1)]
        have hsm : ∀ L' ∈ B ++ [X], small L' := fun L' hL' => by
          rcases List.mem_append.1 hL' with h | h
          · exact hdk.sm L' h
          · rw [List.mem_singleton.1 h]; exact hX
        have hE : EB (B ++ [X]) = EB B ++ x := by rw [EB_snoc, hx]
        obtain ⟨k1, k2⟩ := dk_log (B' := B ++ [X]) (O' := O) (t' := []) dk1 kpS spares_logS (by rw [List.append_nil, hE, b3]; exact hsync.2) (by rw [hE]; exact Nat.le_refl _) (by rw [List.append_nil, hE]; exact Nat.le_refl _) (.inl rfl) hsm
        refine ⟨fun _ => ⟨⟨k1, k2, fun _ => ?_, fun _ => rfl, by rw [applyAll_snoc, ← h.L]⟩, rfl, rfl⟩, fun h => absurd rfl h, fun h => h.elim (fun h => absurd h (by show ¬ (0 : Int) = 8; decide)) (fun h => by cases h)⟩
        show (EB B).length + x.length = _
        rw [hE, List.length_append]
theorem sk_check {M : MD} {n : Nat} {s : Bool} {L S : List Prm} {B : List (List Opm)} {O : List Opm} {t : List UInt8} (h : SK M n s L S B O t) (hs : Slim L) :
    ∃ S' B', SK (checkS M n s L).M (checkS M n s L).n (checkS M n s L).s L S' B' O t ∧ ((S' = S ∧ B' = B) ∨ (S' = L ∧ (B' = B ∨ B' = []))) ∧ ((checkS M n s L).e = 0 → B' = [] ∧ S' = L ∧ (checkS M n s L).s = false) := by
  have hRL := h.rise
  have hag : applyAll L B = L := by rw [h.L, applyAll_again h.dk.rise]
  unfold checkS
  cases s with
  | true =>
    rw [if_pos rfl]
    exact ⟨S, B, h, .inl ⟨rfl, rfl⟩, fun h => absurd h (by show ¬ (8 : Int) = 0; decide)⟩
  | false =>
  rw [if_neg (by simp), save_right hRL]
  obtain rfl := h.fine rfl
  obtain ⟨g1, g2, g3⟩ := save_keeps (x := bytesT L) h.dk.up
  have g4 := save_log h.dk.up (bytesT L)
  obtain ⟨sy, h1, h2, h3⟩ := h.is
  generalize saveP M (bytesT L) = R at *
  obtain ⟨e, M1⟩ := R
  simp only at g1 g2 g3 g4 ⊢
  have hi : logIs M1.fs (EB B ++ []) sy := g4.trans h1
  have newL : Sure M1.fs snapK (bytesT L) → DK M1 L B O [] := fun hsu => ⟨g3, .inr ⟨sy, hi, h2, h3⟩, .inr hsu, .inl rfl, h.dk.sm, hRL, hs⟩
  by_cases he : e = 0
  · rw [if_neg (by simp [he])]
    have dk1 := newL (g2 he)
    unfold resetP
    rw [if_neg (by simp)]
    have hc := cut_is hi 0 (Nat.zero_le _) M1.cap
    rw [List.take_zero, Nat.min_zero] at hc
    have kp := keeps_cut logK ((0 : Nat) : Int)
    have sp := spares_logC ((0 : Nat) : Int)
    show ∃ S' B', SK (M1.act (opCut logK ((0 : Nat) : Int))).2 (if (M1.act (opCut logK ((0 : Nat) : Int))).1 = 0 then 0 else n) (decide ((M1.act (opCut logK ((0 : Nat) : Int))).1 = 7)) L S' B' O [] ∧ ((S' = S ∧ B' = B) ∨ (S' = L ∧ (B' = B ∨ B' = []))) ∧ ((M1.act (opCut logK ((0 : Nat) : Int))).1 = 0 → B' = [] ∧ S' = L ∧ decide ((M1.act (opCut logK ((0 : Nat) : Int))).1 = 7) = false)
    have stay : ∀ (N : MD) (k : Int), N.fs = M1.fs → (k = 7 ∨ k = 6) → ∃ S' B', SK N (if k = 0 then 0 else n) (decide (k = 7)) L S' B' O [] ∧ ((S' = S ∧ B' = B) ∨ (S' = L ∧ (B' = B ∨ B' = []))) ∧ (k = 0 → B' = [] ∧ S' = L ∧ decide (k = 7) = false) := by
      intro N k hN hk
      have hk0 : k ≠ 0 := by rcases hk with rfl | rfl <;> decide
      exact ⟨L, B, ⟨dk1.same hN, ⟨sy, by rw [hN]; exact hi, h2, h3⟩, fun _ => by rw [if_neg hk0]; exact h.n rfl, fun _ => rfl, hag.symm⟩, .inr ⟨rfl, .inl rfl⟩, fun h => absurd h hk0⟩
    have gone : ∀ (N : MD) (k : Int), DK N L [] O [] → (∃ sy, logIs N.fs (EB [] ++ []) sy ∧ (EB []).length ≤ sy ∧ sy ≤ (EB [] ++ []).length) → (k = 7 ∨ k = 0) → ∃ S' B', SK N (if k = 0 then 0 else n) (decide (k = 7)) L S' B' O [] ∧ ((S' = S ∧ B' = B) ∨ (S' = L ∧ (B' = B ∨ B' = []))) ∧ (k = 0 → B' = [] ∧ S' = L ∧ decide (k = 7) = false) := by
      intro N k hN hi hk
      refine ⟨L, [], ⟨hN, hi, fun hf => ?_, fun _ => rfl, rfl⟩, .inr ⟨rfl, .inr rfl⟩, fun h => ⟨rfl, rfl, by rw [h]; rfl⟩⟩
      rcases hk with rfl | rfl
      · cases hf
      · rfl
    cases hd : M1.dw with
    | true => rw [act_down hd]; exact stay M1 7 rfl (.inl rfl)
    | false =>
      have cutd : (M1.act (opCut logK ((0 : Nat) : Int))).2.fs = (opCut logK ((0 : Nat) : Int) M1.cap M1.fs).2 → DK (M1.act (opCut logK ((0 : Nat) : Int))).2 L [] O [] ∧ ∃ sy, logIs (M1.act (opCut logK ((0 : Nat) : Int))).2.fs (EB [] ++ []) sy ∧ (EB []).length ≤ sy ∧ sy ≤ (EB [] ++ []).length := fun e =>
        dk_log (B' := []) (O' := O) (t' := []) dk1 kp sp (by rw [e]; exact hc.2) (Nat.le_refl _) (Nat.le_refl _) (.inl rfl) (fun L hL => by cases hL)
      rcases act_ways hd (opCut logK ((0 : Nat) : Int)) with ⟨a1, _, a3 | a3⟩ | ⟨a1, _, a3⟩ | ⟨a1, _, a3⟩
      · rw [a1]; exact stay _ 7 a3 (.inl rfl)
      · obtain ⟨k1, k2⟩ := cutd a3
        rw [a1]; exact gone _ 7 k1 k2 (.inl rfl)
      · rw [a1]; exact stay _ 6 a3 (.inr rfl)
      · obtain ⟨k1, k2⟩ := cutd a3
        rw [a1, hc.1]; exact gone _ 0 k1 k2 (.inr rfl)
  · rw [if_pos he]
    rcases g1 with g1 | g1
    · exact ⟨S, B, ⟨h.dk.with g3 g1 (.inr ⟨sy, hi, h2, h3⟩) (.inl rfl) h.dk.sm, ⟨sy, hi, h2, h3⟩, h.n, fun _ => rfl, h.L⟩, .inl ⟨rfl, rfl⟩, fun h => absurd h he⟩
    · exact ⟨L, B, ⟨newL g1, ⟨sy, hi, h2, h3⟩, h.n, fun _ => rfl, hag.symm⟩, .inr ⟨rfl, .inl rfl⟩, fun h => absurd h he⟩
end Go.Proofs.YthcdkggkoanjpaaGreatDoor
