/- Batches of the code: Replay. Numbers and types by name. -/
import Derived.Test.YthcdkggkoanjpaaGreatDoorWft
import Derived.Test.YthcdkggkoanjpaaGreatDoorRen
import Derived.Test.YthcdkggkoanjpaaGreatDoorCop
import Derived.Test.YthcdkggkoanjpaaGreatDoorPlk
import Derived.Test.YthcdkggkoanjpaaGreatDoorRrp
import Derived.Test.YthcdkggkoanjpaaGreatDoorCuf
import Derived.Lib.AppendZerosOnto
import Derived.Lib.SliceRun
import Derived.WalkMore
namespace Go.Proofs.YthcdkggkoanjpaaGreatDoor
open Go.RowKit Go.Lib
def applyAll (L : List Prm) (B : List (List Opm)) : List Prm := B.foldl applyP L
theorem applyAll_snoc (L : List Prm) (B : List (List Opm)) (O : List Opm) : applyAll L (B ++ [O]) = applyP (applyAll L B) O := by unfold applyAll; rw [List.foldl_append]; rfl
theorem rise_all {L : List Prm} (h : Rise L) (B : List (List Opm)) : Rise (applyAll L B) := by
  unfold applyAll
  induction B generalizing L with
  | nil => exact h
  | cons O B ih => exact ih (rise_apply L O)
theorem applyAll_flat {L : List Prm} (h : Rise L) (B : List (List Opm)) : applyAll L B = applyP L B.flatten := by
  unfold applyAll
  induction B generalizing L with
  | nil =>
    show L = applyP L []
    unfold applyP
    rw [base_rise h]
    rfl
  | cons O B ih => rw [List.foldl_cons, ih (rise_apply L O), List.flatten_cons, applyP_two]
theorem applyAll_again {L : List Prm} (h : Rise L) (B : List (List Opm)) : applyAll (applyAll L B) B = applyAll L B := by
  rw [applyAll_flat (rise_all h B), applyAll_flat h, applyP_again]
structure SOpen where
  e : Int
  M : MD
  n : Nat
  L : List Prm
noncomputable def openS (M : MD) : SOpen :=
  if loadE M ≠ 0 then ⟨loadE M, M, 0, []⟩ else if (openP M).e ≠ 0 then ⟨(openP M).e, (openP M).M, 0, []⟩ else ⟨0, (openP M).M, (openP M).n, applyAll (loadL M) (openP M).l⟩
structure SWrote where
  e : Int
  M : MD
  n : Nat
  s : Bool
  L : List Prm
noncomputable def checkS (M : MD) (n : Nat) (s : Bool) (L : List Prm) : SWrote :=
  if s = true then ⟨8, M, n, s, L⟩ else if (saveT M L).1 ≠ 0 then ⟨(saveT M L).1, (saveT M L).2, n, s, L⟩
  else ⟨(resetP (saveT M L).2 n s).e, (resetP (saveT M L).2 n s).M, (resetP (saveT M L).2 n s).n, (resetP (saveT M L).2 n s).s, L⟩
noncomputable def commitS (most : Int) (M : MD) (n : Nat) (s : Bool) (L : List Prm) (O : List Opm) : SWrote :=
  if (commitP M n s O).e ≠ 0 then ⟨(commitP M n s O).e, (commitP M n s O).M, (commitP M n s O).n, (commitP M n s O).s, L⟩
  else if most < ((commitP M n s O).n : Int) then { checkS (commitP M n s O).M (commitP M n s O).n (commitP M n s O).s (applyP L O) with e := 0 }
  else ⟨0, (commitP M n s O).M, (commitP M n s O).n, (commitP M n s O).s, applyP L O⟩
theorem checkS_L (M : MD) (n : Nat) (s : Bool) (L : List Prm) : (checkS M n s L).L = L := by
  unfold checkS
  split
  · rfl
  · split <;> rfl
def SparesL (op : Opn) : Prop := ∀ cap fs, Rising fs → (op cap fs).2.find? (isName logK) = fs.find? (isName logK)
theorem act_sparesL {M : MD} {op : Opn} (hs : SparesL op) (h : Rising M.fs) : (M.act op).2.fs.find? (isName logK) = M.fs.find? (isName logK) := by
  cases hd : M.dw with
  | true => rw [act_down hd]
  | false =>
    rcases act_ways hd op with ⟨_, _, h1 | h1⟩ | ⟨_, _, h1⟩ | ⟨_, _, h1⟩ <;> rw [h1]
    · exact hs _ _ h
    · exact hs _ _ h
theorem log_tmp : tmpK ≠ logK := by decide
theorem log_snap : snapK ≠ logK := by decide
theorem sparesL_remove : SparesL (opRemove tmpK) := fun cap fs h => by
  unfold opRemove
  split
  · rfl
  · exact find_woE h log_tmp
theorem sparesL_create : SparesL (opCreate tmpK) := fun cap fs h => by
  unfold opCreate
  rw [if_neg (by decide)]
  by_cases hn : fs.any (isName tmpK) = true
  · rw [if_pos hn]
  · rw [if_neg hn]
    exact find_insE h (by simpa using hn) log_tmp
theorem sparesL_append (x : List UInt8) : SparesL (opAppend tmpK x) := fun cap fs h => by
  unfold opAppend
  split
  · rfl
  · split
    · rfl
    · exact find_upd_ne (u := fun y => (y.1, y.2.1 ++ x, y.2.2)) (fun _ => rfl) log_tmp fs
theorem sparesL_sync : SparesL (opSync tmpK) := fun cap fs h => by
  unfold opSync
  split
  · rfl
  · exact find_upd_ne (u := fun y => (y.1, y.2.1, y.2.1.length)) (fun _ => rfl) log_tmp fs
theorem sparesL_rename : SparesL (opRename tmpK snapK) := fun cap fs h => by
  unfold opRename
  split
  · rfl
  · rename_i y hy
    rw [if_neg (by decide), if_neg (by decide)]
    have e := find_insE (fs := woE snapK (woE tmpK fs)) (x := (snapK, y.2.1, y.2.2)) (woE_rising (woE_rising h)) (by rw [woE_any, if_pos rfl]) (k := logK) log_snap
    exact e.trans ((find_woE (woE_rising h) log_snap).trans (find_woE h log_tmp))
theorem run_sparesL : ∀ (ops : List Opn) (M : MD), Rising M.fs → (∀ op ∈ ops, Keeps op ∧ SparesL op) → (runOps ops M).2.fs.find? (isName logK) = M.fs.find? (isName logK)
  | [], _, _, _ => rfl
  | op :: l, M, hr, h => by
    rw [runOps_one]
    have h0 := h op (by simp)
    have h1 := act_sparesL h0.2 hr
    split
    · exact (run_sparesL l _ (act_rising h0.1 hr) fun o ho => h o (List.mem_cons_of_mem _ ho)).trans h1
    · exact h1
theorem save_log {M : MD} (hr : Rising M.fs) (x : List UInt8) : (saveP M x).2.fs.find? (isName logK) = M.fs.find? (isName logK) := by
  unfold saveP
  refine run_sparesL _ M hr fun op ho => ?_
  unfold saveOps at ho
  rcases List.mem_append.1 ho with ho | ho
  · split at ho
    · rw [List.mem_singleton.1 ho]; exact ⟨keeps_remove tmpK, sparesL_remove⟩
    · cases ho
  · simp only [List.mem_cons, List.not_mem_nil, or_false] at ho
    rcases ho with rfl | rfl | rfl | rfl
    · exact ⟨keeps_create tmpK, sparesL_create⟩
    · exact ⟨keeps_append tmpK x, sparesL_append x⟩
    · exact ⟨keeps_sync tmpK, sparesL_sync⟩
    · exact ⟨keeps_rename tmpK snapK, sparesL_rename⟩
theorem saveT_log {M : MD} (hr : Rising M.fs) (L : List Prm) : (saveT M L).2.fs.find? (isName logK) = M.fs.find? (isName logK) := by
  unfold saveT
  split
  · exact save_log hr _
  · rfl
theorem spares_logA (x : List UInt8) : Spares (opAppend logK x) := fun cap fs h => by
  unfold opAppend
  split
  · rfl
  · split
    · rfl
    · exact find_upd_ne (u := fun y => (y.1, y.2.1 ++ x, y.2.2)) (fun _ => rfl) (by decide) fs
theorem spares_logS : Spares (opSync logK) := fun cap fs h => by
  unfold opSync
  split
  · rfl
  · exact find_upd_ne (u := fun y => (y.1, y.2.1, y.2.1.length)) (fun _ => rfl) (by decide) fs
theorem spares_logC (n : Int) : Spares (opCut logK n) := fun cap fs h => by
  unfold opCut
  split
  · rfl
  · split
    · rfl
    · exact find_upd_ne (u := fun y => (y.1, y.2.1.take n.toNat, min y.2.2 n.toNat)) (fun _ => rfl) (by decide) fs
theorem spares_logN : Spares (opCreate logK) := fun cap fs h => by
  unfold opCreate
  rw [if_neg (by decide)]
  by_cases hn : fs.any (isName logK) = true
  · rw [if_pos hn]
  · rw [if_neg hn]
    exact find_insE h (by simpa using hn) (by decide)
def logIs (fs : List Ent) (b : List UInt8) (s : Nat) : Prop := fs.find? (isName logK) = some (logK, b, s)
theorem append_is {fs : List Ent} {b : List UInt8} {s : Nat} (h : logIs fs b s) (x : List UInt8) (cap : Int) :
    ((opAppend logK x cap fs).1 = 5 ∧ (opAppend logK x cap fs).2 = fs ∧ cap < (tot fs : Int) + x.length) ∨ ((opAppend logK x cap fs).1 = 0 ∧ logIs (opAppend logK x cap fs).2 (b ++ x) s ∧ ¬ cap < (tot fs : Int) + x.length) := by
  unfold opAppend
  rw [h]
  simp only
  by_cases hc : cap < (tot fs : Int) + x.length
  · rw [if_pos hc]; exact .inl ⟨rfl, rfl, hc⟩
  · rw [if_neg hc]
    refine .inr ⟨rfl, ?_, hc⟩
    unfold logIs
    rw [find_upd_self (u := fun y => (y.1, y.2.1 ++ x, y.2.2)) (fun _ => rfl), h]
    rfl
theorem sync_is {fs : List Ent} {b : List UInt8} {s : Nat} (h : logIs fs b s) (cap : Int) : (opSync logK cap fs).1 = 0 ∧ logIs (opSync logK cap fs).2 b b.length := by
  unfold opSync
  rw [h]
  refine ⟨rfl, ?_⟩
  unfold logIs
  show (updE logK _ fs).find? _ = _
  rw [find_upd_self (u := fun y => (y.1, y.2.1, y.2.1.length)) (fun _ => rfl), h]
  rfl
theorem cut_is {fs : List Ent} {b : List UInt8} {s : Nat} (h : logIs fs b s) (n : Nat) (hn : n ≤ b.length) (cap : Int) : (opCut logK n cap fs).1 = 0 ∧ logIs (opCut logK n cap fs).2 (b.take n) (min s n) := by
  unfold opCut
  rw [h]
  simp only
  rw [if_neg (by omega)]
  refine ⟨rfl, ?_⟩
  unfold logIs
  show (updE logK _ fs).find? _ = _
  rw [find_upd_self (u := fun y => (y.1, y.2.1.take (n : Int).toNat, min y.2.2 (n : Int).toNat)) (fun _ => rfl), h]
  simp
theorem create_is {fs : List Ent} (hr : Rising fs) (h : fs.find? (isName logK) = none) (cap : Int) : (opCreate logK cap fs).1 = 0 ∧ logIs (opCreate logK cap fs).2 [] 0 := by
  have hn : fs.any (isName logK) = false := by
    rw [List.any_eq_false]
    intro y hy
    simpa using List.find?_eq_none.1 h y hy
  unfold opCreate
  rw [if_neg (by decide), if_neg (by simp [hn])]
  exact ⟨rfl, find_insE_self (x := (logK, [], 0)) hr hn⟩
theorem read_is {M : MD} (hd : M.dw = false) {b : List UInt8} {s : Nat} (h : logIs M.fs b s) : M.read logK = (b, 0) := by
  unfold MD.read
  rw [if_neg (by simp [hd]), h]
theorem restart_is {M : MD} (hr : Rising M.fs) {b : List UInt8} {s : Nat} (h : logIs M.fs b s) (hs : s ≤ b.length) (cap cr : Int) (dn : Bool) (fl kp : List Int) :
    ∃ k, s ≤ k ∧ k ≤ b.length ∧ logIs (M.restart cap cr dn fl kp).fs (b.take k) k := by
  have hrs : Rising (resE M.keep M.fs M.fs.length) := rising_of_names (by rw [resE_names]; exact hr.names)
  obtain ⟨hm, _⟩ := (find_iff hr logK _).1 h
  obtain ⟨i, hi, he⟩ := List.getElem_of_mem hm
  refine ⟨s + min (M.keep.getD i 0).toNat (b.length - s), by omega, by omega, ?_⟩
  show (resE M.keep M.fs M.fs.length).find? (isName logK) = _
  rw [find_iff hrs]
  refine ⟨List.mem_iff_getElem.2 ⟨i, by unfold resE; simpa using hi, ?_⟩, rfl⟩
  unfold resE
  rw [List.getElem_mapIdx, if_pos hi, he]
  rfl
theorem restart_none {M : MD} {k : List UInt8} (h : M.fs.find? (isName k) = none) (cap cr : Int) (dn : Bool) (fl kp : List Int) : (M.restart cap cr dn fl kp).fs.find? (isName k) = none := by
  show (resE M.keep M.fs M.fs.length).find? (isName k) = none
  rw [List.find?_eq_none] at h ⊢
  intro y hy
  obtain ⟨i, hi, he⟩ := List.getElem_of_mem hy
  unfold resE at he hi
  rw [List.getElem_mapIdx] at he
  have hi' : i < M.fs.length := by simpa using hi
  have h1 := h _ (List.getElem_mem hi')
  rw [← he, if_pos hi']
  exact h1
end Go.Proofs.YthcdkggkoanjpaaGreatDoor
namespace Go.Proofs.YthcdkggkoanjpaaGreatDoor
open Go.RowKit Go.Lib
def delP (L : List Prm) (k : ByteArray) : List Prm := L.filter fun y => !decide (y.key = k)
structure Fine (L : List Prm) : Prop where
  rise : Rise L
  len : L.length ≤ 1000
  small : ∀ o ∈ L, o.key.size ≤ 200 ∧ o.val.size ≤ 200
structure FineW (L : List Prm) : Prop where
  rise : Rise L
  len : L.length ≤ 700000
  small : ∀ o ∈ L, o.key.size ≤ 1000000 ∧ o.val.size ≤ 1000000
theorem Fine.wide {L : List Prm} (h : Fine L) : FineW L := ⟨h.rise, by have := h.len; omega, fun o ho => by have := h.small o ho; omega⟩
def INext (C : World → Nat → List Prm → List Nat → Prop) (w w' : World) (x : Nat) (L' : List Prm) (F : List Nat) : Prop :=
  ∃ F', C w' x L' F' ∧ (∀ k ∈ F', k ∈ F ∨ w.heap.size ≤ k) ∧ Turn F w w'
def theIx (x : Nat) : Value := .pointer (some ⟨x, 0, none⟩)
structure IxK (C : World → Nat → List Prm → List Nat → Prop) : Prop where
  lt : ∀ {w x L F}, C w x L F → ∀ k ∈ F, k < w.heap.size
  keep : ∀ {w w' x L F G}, C w x L F → Turn G w w' → (∀ k ∈ F, k ∉ G) → C w' x L F
  new : ∀ (n : Int) (w : World), Calls Tryz.prog 37 #[.int .i64 n] w fun e w' => ∃ x F, e = .returned (theIx x) ∧ C w' x [] F ∧ (∀ k ∈ F, w.heap.size ≤ k) ∧ Turn [] w w'
  put : ∀ {w x L F}, C w x L F → Fine L → ∀ (k v : ByteArray), k.size ≤ 200 → v.size ≤ 200 → Calls Tryz.prog 38 #[theIx x, .string k, .string v] w fun e w' => e = .returned (.tuple #[]) ∧ INext C w w' x (putP ⟨k, v⟩ L) F
  get : ∀ {w x L F}, C w x L F → Fine L → ∀ (k : ByteArray), k.size ≤ 200 → Calls Tryz.prog 58 #[theIx x, .string k] w fun e w' => e = .returned (.tuple #[.string (findP L k).1, .bool (findP L k).2]) ∧ Turn [] w w'
  del : ∀ {w x L F}, C w x L F → Fine L → ∀ (k : ByteArray), k.size ≤ 200 → Calls Tryz.prog 71 #[theIx x, .string k] w fun e w' => e = .returned (.bool (findP L k).2) ∧ INext C w w' x (delP L k) F
  len : ∀ {w x L F}, C w x L F → Fine L → Calls Tryz.prog 87 #[theIx x] w fun e w' => e = .returned (.int .i64 (L.length : Int)) ∧ Turn [] w w'
  all : ∀ {w x L F}, C w x L F → Fine L → Calls Tryz.prog 45 #[theIx x] w fun e w' => ∃ ao q c, e = .returned (.slice ao q c) ∧ Prr w' (.slice ao q c) q L ∧ Turn [] w w'
theorem tb9 {w w' : World} (h : Grow w w') : Turn [] w w' := ⟨h.os, h.tape, h.output, h.size, fun k hk _ => h.block k hk⟩
theorem tg9 {w w' : World} (t : Turn [] w w') : Grow w w' := t.below (Nat.le_refl _) (by simp)
end Go.Proofs.YthcdkggkoanjpaaGreatDoor
namespace Go.Proofs.YthcdkggkoanjpaaGreatDoor
open Go.RowKit Go.Lib
theorem bulkP_filter (p : Prm → Bool) (L : List Prm) : bulkP (L.filter p) ≤ bulkP L := by
  induction L with
  | nil => exact Nat.le_refl _
  | cons y l ih =>
    rw [List.filter_cons]
    split
    · rw [bulkP_cons, bulkP_cons]; omega
    · rw [bulkP_cons]; omega
theorem bulkP_step (L : List Prm) (o : Opm) : bulkP (stepP L o) ≤ bulkP L + (1 + o.key.size + o.val.size) := by
  unfold stepP
  split
  · have := bulkP_filter (fun y => !decide (y.key = o.key)) L; omega
  · have := bulkQ_put ⟨o.key, o.val⟩ L
    rw [bulkPQ, bulkPQ]
    simp only at this
    omega
theorem bulkP_steps : ∀ (O : List Opm) (L : List Prm), bulkP (O.foldl stepP L) ≤ bulkP L + bulkO O
  | [], _ => Nat.le_add_right _ _
  | o :: O, L => by
    rw [List.foldl_cons, bulkO_cons]
    have := bulkP_steps O (stepP L o)
    have := bulkP_step L o
    omega
theorem bulkP_apply (L : List Prm) (O : List Opm) : bulkP (applyP L O) ≤ bulkP L + bulkO O := by
  unfold applyP
  have h1 := bulkP_steps O (baseP L)
  have h2 := bulkP_base L
  omega
theorem fineW_of {L : List Prm} (hR : Rise L) (hb : bulkP L ≤ 690000) : FineW L :=
  ⟨hR, by have := bulkP_len L; omega, fun o ho => by
    have : 1 + o.key.size + o.val.size ≤ bulkP L := by
      clear hR hb
      induction L with
      | nil => cases ho
      | cons y l ih =>
        rw [bulkP_cons]
        rcases List.mem_cons.1 ho with rfl | ho
        · omega
        · have := ih ho; omega
    omega⟩
theorem bulkP_all (L : List Prm) (B : List (List Opm)) : bulkP (applyAll L B) ≤ bulkP L + bulkO B.flatten := by
  unfold applyAll
  induction B generalizing L with
  | nil => exact Nat.le_add_right _ _
  | cons O B ih =>
    rw [List.foldl_cons, List.flatten_cons, bulkO_append]
    have := ih (applyP L O)
    have := bulkP_apply L O
    omega
theorem bulkO_takeB (B : List (List Opm)) (k : Nat) : bulkO (B.take k).flatten ≤ bulkO B.flatten := by
  conv => rhs; rw [← List.take_append_drop k B, List.flatten_append, bulkO_append]
  exact Nat.le_add_right _ _
theorem applyAll_next {L : List Prm} {B : List (List Opm)} {k : Nat} {O : List Opm} (h : B[k]? = some O) : applyAll L (B.take (k + 1)) = applyP (applyAll L (B.take k)) O := by
  rw [take_next h, applyAll_snoc]
structure OFit (K J j : Nat) (M : MD) : Prop where
  well : Well K M j
  j : j + 3 ≤ J
  room : RoomW K J
  log : (M.read logK).1.length ≤ 7200000
  snap : (loadP M).1.length ≤ 1000000
  bulk : bulkP (loadL M) + bulkO (openP M).l.flatten ≤ 650000
  ops : ∀ O ∈ (openP M).l, O.length ≤ 5000
  rise : Rise (loadL M)
theorem openS_bad {M : MD} (h : loadE M ≠ 0) : openS M = ⟨loadE M, M, 0, []⟩ := by unfold openS; rw [if_pos h]
theorem openS_log {M : MD} (h0 : loadE M = 0) (h : (openP M).e ≠ 0) : openS M = ⟨(openP M).e, (openP M).M, 0, []⟩ := by unfold openS; rw [if_neg (by simp [h0]), if_pos h]
theorem openS_ok {M : MD} (h0 : loadE M = 0) (h : (openP M).e = 0) : openS M = ⟨0, (openP M).M, (openP M).n, applyAll (loadL M) (openP M).l⟩ := by unfold openS; rw [if_neg (by simp [h0]), if_neg (by simp [h])]
theorem commitS_bad {most : Int} {M : MD} {n : Nat} {s : Bool} {L : List Prm} {X : List Opm} {W : Wrote} (h : W = commitP M n s X) (he : W.e ≠ 0) : commitS most M n s L X = ⟨W.e, W.M, W.n, W.s, L⟩ := by
  subst h; unfold commitS; rw [if_pos he]
theorem commitS_few {most : Int} {M : MD} {n : Nat} {s : Bool} {L : List Prm} {X : List Opm} {W : Wrote} (h : W = commitP M n s X) (he : W.e = 0) (hm : ¬ most < (W.n : Int)) : commitS most M n s L X = ⟨0, W.M, W.n, W.s, applyP L X⟩ := by
  subst h; unfold commitS; rw [if_neg (by simp [he]), if_neg hm]
theorem commitS_many {most : Int} {M : MD} {n : Nat} {s : Bool} {L : List Prm} {X : List Opm} {W : Wrote} (h : W = commitP M n s X) (he : W.e = 0) (hm : most < (W.n : Int)) : commitS most M n s L X = { checkS W.M W.n W.s (applyP L X) with e := 0 } := by
  subst h; unfold commitS; rw [if_neg (by simp [he]), if_pos hm]
structure SFit (K J j : Nat) (M : MD) (n : Nat) (L : List Prm) (X : List Opm) : Prop where
  well : Well K M j
  j : j + 8 ≤ J
  room : RoomW K J
  x : bulkO X ≤ 5000
  xK : (frms (recs X)).length ≤ K
  n : n ≤ 900000000
  sl : Slim L
  sl2 : Slim (applyP L X)
  sK : (bytesT (applyP L X)).length ≤ K
end Go.Proofs.YthcdkggkoanjpaaGreatDoor
namespace Go.Proofs.YthcdkggkoanjpaaGreatDoor
open Go.RowKit Go.Lib
set_option maxHeartbeats 4000000 in
set_option maxRecDepth 20000 in
theorem replay_from (v : Value) (n : Nat) (ps : List (List UInt8)) (w : World) (hr : Rws w v n ps) (ht : Tab w) (hn : n ≤ 900000) :
    Calls Tryz.prog 109 #[v] w (ReplayFrom ps w) := by
  obtain ⟨ao, c, rfl⟩ := hr.shape
  have HR := Lib.hid hr
  have HTB := Lib.hid ht
  clear hr ht
  go_enter Tryz.func109, Tryz.ntmps109
  go_wp2_with fail
  go_step3
  go_wp2_with fail
  go_step3
  go_wp2_with fail
  go_loopw [2, 3, 4, 11] (fun lv uv nv i wr => ∃ (k j m u cl cn : Nat) (al an : Option Addr), k ≤ n ∧ i = .int .i64 k ∧ lv = .slice al j cl ∧ nv = .slice an m cn ∧ uv = .int .i64 u ∧ Hid (∃ done now vs, ReplayAt ps w wr (.slice al j cl) (.slice an m cn) k j m u done now vs))
    (fun _ _ _ i _ => n - (RowKit.intOf i).toNat)
  case atStart => exact ⟨0, 0, 0, 0, 0, 0, none, none, Nat.zero_le _, rfl, rfl, rfl, rfl, Lib.hid ⟨[], [], [], Batch.nil _ _, Below.refl _ _, by simp, Nat.le_refl _, Nat.le_refl _, Nat.le_refl _, Nat.zero_le _⟩⟩
  case round =>
    obtain ⟨k, j, m, u, cl, cn, al, an, hk, rfl, rfl, rfl, rfl, hrel⟩ := hrel
    obtain ⟨done, now, vs, hat⟩ := hrel.out
    have HAT := Lib.hid hat
    clear hrel
    have hlen : n = ps.length := HR.out.1
    have hm9 : m ≤ k := hat.2.2.2.2.2.1
    by_cases hlt : k < n
    · have h3 : (k : Int) < (n : Int) := by omega
      obtain ⟨a, p, ap, cp, rfl, hp, hc, hrd, hpl⟩ := (HR.out.later hat.2.1).at hlt
      have HP := Lib.hid hp
      have hlen' := Lib.hid hlen
      have G := parts_any _ p.length p wr hrd rfl hpl
      obtain ⟨pl, hpl2⟩ : ∃ pl, pl = p.length := ⟨_, rfl⟩
      rw [← hpl2] at G hc
      clear hat hp hlen hrd hpl hpl2
      go_wp2_with fail
      refine G.mono ?_
      rintro e w2 ⟨hb2, x, T, tn, at_, ct, rfl, hTx, hwhat⟩
      have HW := Lib.hid (hwhat now.length)
      have HB := HAT.out.1.later hb2
      have HB2 := Lib.hid (And.intro HB (And.intro hb2 (HAT.out.2.1.trans (hb2.mono HAT.out.2.1.size))))
      have hTm := hTx.2.2.1
      unfold maxLen at hTm
      have htn := hTx.1
      have HT := Lib.hid hTx
      have hx256 := x.toNat_lt
      clear hc hb2 G HB hTx hwhat
      have hcase : (x = 112 ∧ ∃ s u, T = [s, u]) ∨ (x = 100 ∧ ∃ s, T = [s]) ∨ (x = 99 ∧ ∃ s, T = [s]) ∨
          (isWhat x T now.length = .stop ∧ (((x.toNat : Int) = 112 ∧ ¬ (tn : Int) = 2) ∨ (¬ (x.toNat : Int) = 112 ∧ (x.toNat : Int) = 100 ∧ ¬ (tn : Int) = 1) ∨ (¬ (x.toNat : Int) = 112 ∧ ¬ (x.toNat : Int) = 100 ∧ (x.toNat : Int) = 99 ∧ ¬ (tn : Int) = 1) ∨ (¬ (x.toNat : Int) = 112 ∧ ¬ (x.toNat : Int) = 100 ∧ ¬ (x.toNat : Int) = 99))) := by
        have xi : ∀ c : UInt8, (x.toNat : Int) = (c.toNat : Int) → x = c := fun c h => UInt8.toNat_inj.1 (by omega)
        by_cases x1 : x = 112
        · subst x1
          match T, htn with
          | [s, u], _ => exact .inl ⟨rfl, s, u, rfl⟩
          | [], h => exact .inr (.inr (.inr ⟨rfl, .inl ⟨rfl, by rw [h]; decide⟩⟩))
          | [s], h => exact .inr (.inr (.inr ⟨rfl, .inl ⟨rfl, by rw [h]; simp⟩⟩))
          | s :: u :: v :: l, h => exact .inr (.inr (.inr ⟨rfl, .inl ⟨rfl, by rw [h]; simp; omega⟩⟩))
        · have y1 : ¬ (x.toNat : Int) = 112 := fun h => x1 (xi 112 h)
          by_cases x2 : x = 100
          · subst x2
            match T, htn with
            | [s], _ => exact .inr (.inl ⟨rfl, s, rfl⟩)
            | [], h => exact .inr (.inr (.inr ⟨rfl, .inr (.inl ⟨y1, rfl, by rw [h]; decide⟩)⟩))
            | [s, u], h => exact .inr (.inr (.inr ⟨rfl, .inr (.inl ⟨y1, rfl, by rw [h]; simp⟩)⟩))
            | s :: u :: v :: l, h => exact .inr (.inr (.inr ⟨rfl, .inr (.inl ⟨y1, rfl, by rw [h]; simp; omega⟩)⟩))
          · have y2 : ¬ (x.toNat : Int) = 100 := fun h => x2 (xi 100 h)
            by_cases x3 : x = 99
            · subst x3
              match T, htn with
              | [s], _ => exact .inr (.inr (.inl ⟨rfl, s, rfl⟩))
              | [], h => exact .inr (.inr (.inr ⟨rfl, .inr (.inr (.inl ⟨y1, y2, rfl, by rw [h]; decide⟩))⟩))
              | [s, u], h => exact .inr (.inr (.inr ⟨rfl, .inr (.inr (.inl ⟨y1, y2, rfl, by rw [h]; simp⟩))⟩))
              | s :: u :: v :: l, h => exact .inr (.inr (.inr ⟨rfl, .inr (.inr (.inl ⟨y1, y2, rfl, by rw [h]; simp; omega⟩))⟩))
            · have y3 : ¬ (x.toNat : Int) = 99 := fun h => x3 (xi 99 h)
              refine .inr (.inr (.inr ⟨?_, .inr (.inr (.inr ⟨y1, y2, y3⟩))⟩))
              match T with
              | [] => rfl
              | [s] => simp [isWhat, x2, x3]
              | [s, u] => simp [isWhat, x1]
              | s :: u :: v :: l => rfl
      have HTN := Lib.hid htn
      clear htn
      rcases hcase with ⟨rfl, s, u2, rfl⟩ | ⟨rfl, s, rfl⟩ | ⟨rfl, s, rfl⟩ | ⟨hstop, hst⟩
      · obtain ⟨b0, s', rfl, e1, c0, s1⟩ := HT.out.at (k := 0) (by have := HTN.out; simp at this; omega)
        obtain rfl : s = s' := by simpa using e1
        obtain ⟨b1, s', e0, e2, c1, s2⟩ := HT.out.at (k := 1) (by have := HTN.out; simp at this; omega)
        obtain rfl : b0 = b1 := by simpa using e0
        obtain rfl : u2 = s' := by simpa using e2
        obtain rfl : tn = 2 := HTN.out
        rw [show b0.add 0 = b0 by simp [Addr.add]] at c0
        have c1' : w2.cell? ⟨b0.block, b0.off + 1, none⟩ = some (.string u2) := by simpa [Addr.add] using c1
        have HS := Lib.hid (And.intro s1 s2)
        clear e0 e1 e2 c1 s1 s2
        have d0 : w2.drew.cell? b0 = some (.string s) := c0
        have d1 : w2.drew.cell? ⟨b0.block, b0.off + 1, none⟩ = some (.string u2) := c1'
        go_wp2_with fail
        clear c0 c1'
        have HB3 : Hid (Batch w2.drew w.heap.size (.slice al j cl) (.slice an m cn) j m done now vs ∧ Below w.heap.size w w2.drew) := Lib.hid (And.intro (HB2.out.1.later (below_drewN (Below.refl _ w2) 1)) (below_drewN HB2.out.2.2 1))
        obtain ⟨o, ho⟩ : ∃ o : Opm, o = ⟨false, s, u2⟩ := ⟨_, rfl⟩
        have HO : Hid (what p now.length = .op o ∧ o.key.size ≤ maxLen ∧ o.val.size ≤ maxLen) := Lib.hid ⟨by rw [HW.out, ho]; simp [isWhat], by rw [ho]; exact ⟨HS.out.1, HS.out.2⟩⟩
        have F := Lib.hid (show m + 1 ≤ 1000000 by omega)
        have HC : Hid (Cells (w2.drew.alloc (.cells #[.bool false, .string s, .string u2] 65)) (.slice (some ⟨w2.drew.heap.size, 0, none⟩) 1 1) 3 1 (ov o)) := Lib.hid (by rw [ho]; exact Cells.lit w2.drew (ov ⟨false, s, u2⟩) 65 (0, 0) 3 1 rfl)
        have HB4 := Lib.hid (HB3.out.1.later ((Below.refl _ w2.drew).alloc (Nat.le_refl _) (.cells #[.bool false, .string s, .string u2] 65)))
        have HBB := Lib.hid (HB3.out.2.alloc HB3.out.2.size (.cells #[.bool false, .string s, .string u2] 65))
        clear ho
        go_region_law (refine step_append_gen elemOp rfl (.tmp 29) (.tmp 37) rfl w.heap.size _ m (ovs now) (by simp [Act.eval]) HB4.out.2.2.2.2.2.1 _ 1 (ov o) (by simp [Act.eval]) HC.out (ov_one o) (m + 1) rfl F (by decide) HBB.out.size ?_; intro ao8 c8 w8 hown8 hb8 hg8 ho8)
        all_goals
          have HX := Lib.hid (And.intro hown8 (And.intro hb8 (And.intro hg8 ho8)))
          clear hown8 hb8 hg8 ho8
          go_wp2_with fail
          exact ⟨⟨k + 1, j, m + 1, u, cl, c8, al, ao8, by omega, by simp, rfl, rfl, rfl, Lib.hid ⟨done, _, vs, replay_op HAT.out HP.out HO.out.1 (HB4.out.op o HO.out.2 HX.out.1 HX.out.2.2.1 HX.out.2.2.2) (HBB.out.trans HX.out.2.1)⟩⟩, by simp only [RowKit.intOf]; omega⟩
      · obtain ⟨b0, s', rfl, e1, c0, s1⟩ := HT.out.at (k := 0) (by have := HTN.out; simp at this; omega)
        obtain rfl : s = s' := by simpa using e1
        obtain rfl : tn = 1 := HTN.out
        rw [show b0.add 0 = b0 by simp [Addr.add]] at c0
        have HS := Lib.hid s1
        have HB3 := Lib.hid (And.intro HB2.out.1 HB2.out.2.2)
        obtain ⟨w3, hw3⟩ : ∃ w3, w3 = w2 := ⟨_, rfl⟩
        subst hw3
        clear e1 s1
        obtain ⟨o, ho⟩ : ∃ o : Opm, o = ⟨true, s, ⟨#[]⟩⟩ := ⟨_, rfl⟩
        have HO : Hid (what p now.length = .op o ∧ o.key.size ≤ maxLen ∧ o.val.size ≤ maxLen) := Lib.hid ⟨by rw [HW.out, ho]; simp [isWhat], by rw [ho]; exact ⟨HS.out, Nat.zero_le _⟩⟩
        have F := Lib.hid (show m + 1 ≤ 1000000 by omega)
        have HC : Hid (Cells (w3.alloc (.cells #[.bool true, .string s, .string ⟨#[]⟩] 65)) (.slice (some ⟨w3.heap.size, 0, none⟩) 1 1) 3 1 (ov o)) := Lib.hid (by rw [ho]; exact Cells.lit w3 (ov ⟨true, s, ⟨#[]⟩⟩) 65 (0, 0) 3 1 rfl)
        have HB4 := Lib.hid (HB3.out.1.later ((Below.refl _ w3).alloc (Nat.le_refl _) (.cells #[.bool true, .string s, .string ⟨#[]⟩] 65)))
        have HBB := Lib.hid (HB3.out.2.alloc HB3.out.2.size (.cells #[.bool true, .string s, .string ⟨#[]⟩] 65))
        clear ho
        go_wp2_with (at_builtin; refine wpList_append_gen elemOp rfl (.tmp 47) (.tmp 52) rfl w.heap.size _ m (ovs now) rfl HB4.out.2.2.2.2.2.1 _ 1 (ov o) rfl HC.out (ov_one o) (m + 1) rfl F (by decide) HBB.out.size ?_; intro ao8 c8 w8 hown8 hb8 hg8 ho8)
        exact ⟨⟨k + 1, j, m + 1, u, cl, c8, al, ao8, by omega, by simp, rfl, rfl, rfl, Lib.hid ⟨done, _, vs, replay_op HAT.out HP.out HO.out.1 (HB4.out.op o HO.out.2 hown8 hg8 ho8) (HBB.out.trans hb8)⟩⟩, by simp only [RowKit.intOf]; omega⟩
      · obtain ⟨b0, s', rfl, e1, c0, s1⟩ := HT.out.at (k := 0) (by have := HTN.out; simp at this; omega)
        obtain rfl : s = s' := by simpa using e1
        obtain rfl : tn = 1 := HTN.out
        rw [show b0.add 0 = b0 by simp [Addr.add]] at c0
        have d0 : ∀ w', Grow w2.drew w' → w'.cell? b0 = some (.string s) := fun w' hg => grow_cell hg c0
        have hmn : m = now.length := HAT.out.1.2.1
        have HMN := Lib.hid hmn
        have HB3 : Hid (Batch w2.drew w.heap.size (.slice al j cl) (.slice an m cn) j m done now vs ∧ Below w.heap.size w w2.drew ∧ Grow wr w2.drew) := Lib.hid ⟨HB2.out.1.later (below_drewN (Below.refl _ w2) 1), below_drewN HB2.out.2.2 1, below_drewN HB2.out.2.1 1⟩
        have CNT := count_any _ m now w2.drew (HB3.out.1.now (by unfold maxLen; omega)) (HTB.out.later HB3.out.2.1)
        clear e1 s1 hmn
        by_cases hs : s = txt (digs m)
        · subst hs
          have HO : Hid (what p now.length = .done) := Lib.hid (by rw [HW.out, ← HMN.out]; simp [isWhat])
          go_wp2_with fail
          clear c0
          refine wp_region_mv [(0, 12, true), (12, 1, false), (13, 3, true)] (by kernel_rfl) (by kernel_rfl) ?_
          simp only [mvAll, mvSeg, List.drop_succ_cons, List.drop_zero, List.cons_append, List.nil_append, Nat.reduceAdd]
          iterate 12
            refine wpLin_still ?_ (fun w' hG K hK => ?_) (fun K hK => ?_)
            rotate_left
            · unfold mvVal
              go_simp
              try exact hK
            go_simp
            refine hK _ ?_
            clear hK K
          refine wpLin_call (fun K hK => ?_)
          unfold mvRun
          go_simp
          simp only [mvUpon]
          refine CNT.mono ?_
          rintro e w4 ⟨rfl, hb4⟩
          refine ⟨_, rfl, ?_⟩
          go_simp
          refine hK _ _ hb4 ?_
          clear hK K
          have HB4 : Hid (Batch w4 w.heap.size (.slice al j cl) (.slice an m cn) j m done now vs ∧ Below w.heap.size w w4 ∧ Grow wr w4) := Lib.hid ⟨HB3.out.1.later hb4, HB3.out.2.1.trans (hb4.mono HB3.out.2.1.size), Grow.trans HB3.out.2.2 hb4⟩
          clear hb4 d0 CNT
          iterate 3
            refine wpLin_still ?_ (fun w' hG K hK => ?_) (fun K hK => ?_)
            rotate_left
            · unfold mvVal
              go_simp
              try exact hK
            go_simp
            refine hK _ ?_
            clear hK K
          refine wpLin_nil ?_
          have F := Lib.hid (show j + 1 ≤ 1000000 by have := HAT.out.2.2.2.2.1; omega)
          have HC : Hid (Cells (w4.alloc (.cells #[.slice an m cn] 52)) (.slice (some ⟨w4.heap.size, 0, none⟩) 1 1) 1 1 [.slice an m cn]) := Lib.hid (Cells.lit w4 [.slice an m cn] 52 (0, 0) 1 1 rfl)
          have HB5 := Lib.hid (HB4.out.1.later ((Below.refl _ w4).alloc (Nat.le_refl _) (.cells #[.slice an m cn] 52)))
          have HBB := Lib.hid (HB4.out.2.1.alloc HB4.out.2.1.size (.cells #[.slice an m cn] 52))
          go_wp2_with (at_builtin; refine wpList_append_gen elemOps rfl (.tmp 70) (.tmp 72) rfl w.heap.size _ j vs rfl HB5.out.2.2.1 _ 1 [.slice an m cn] rfl HC.out (by intro u hu; simp only [List.mem_singleton] at hu; subst hu; rfl) (j + 1) rfl F (by decide) HBB.out.size ?_; intro ao8 c8 w8 hown8 hb8 hg8 ho8)
          exact ⟨⟨k + 1, j + 1, 0, k + 1, c8, 0, ao8, none, by omega, by simp, rfl, rfl, by simp, Lib.hid ⟨_, [], _, replay_done HAT.out HP.out HO.out (HB5.out.done (by unfold maxLen; omega) hown8 hg8 ho8) (HBB.out.trans hb8)⟩⟩, by simp only [RowKit.intOf]; omega⟩
        · have z1 : (s.toList == (txt (digs m)).toList) = false := by
            simp only [beq_eq_false_iff_ne, ne_eq]
            exact fun h => hs (text_inj' h)
          have z2 : ¬ s.toList = (txt (digs m)).toList := fun h => hs (text_inj' h)
          have HO : Hid (what p now.length = .stop) := Lib.hid (by rw [HW.out, ← HMN.out]; simp [isWhat, hs])
          have HS := fun w' hg => replay_stops HAT.out (.inr ⟨p, HP.out, HO.out⟩) (by rw [← hlen'.out]; unfold maxLen; omega) w' hg
          have HS := Lib.hid HS
          clear hs
          go_wp2_with fail
          clear c0
          refine wp_region_mv [(0, 12, true), (12, 1, false), (13, 3, true)] (by kernel_rfl) (by kernel_rfl) ?_
          simp only [mvAll, mvSeg, List.drop_succ_cons, List.drop_zero, List.cons_append, List.nil_append, Nat.reduceAdd]
          iterate 12
            refine wpLin_still ?_ (fun w' hG K hK => ?_) (fun K hK => ?_)
            rotate_left
            · unfold mvVal
              go_simp
              try exact hK
            go_simp
            refine hK _ ?_
            clear hK K
          refine wpLin_call (fun K hK => ?_)
          unfold mvRun
          go_simp
          simp only [mvUpon]
          refine CNT.mono ?_
          rintro e w4 ⟨rfl, hb4⟩
          refine ⟨_, rfl, ?_⟩
          go_simp
          refine hK _ _ hb4 ?_
          clear hK K
          have HB4 : Hid (Batch w4 w.heap.size (.slice al j cl) (.slice an m cn) j m done now vs ∧ Below w.heap.size w w4 ∧ Grow wr w4) := Lib.hid ⟨HB3.out.1.later hb4, HB3.out.2.1.trans (hb4.mono HB3.out.2.1.size), Grow.trans HB3.out.2.2 hb4⟩
          clear hb4 d0 CNT
          iterate 3
            refine wpLin_still ?_ (fun w' hG K hK => ?_) (fun K hK => ?_)
            rotate_left
            · unfold mvVal
              go_simp
              try exact hK
            go_simp
            refine hK _ ?_
            clear hK K
          refine wpLin_nil ?_
          go_wp2_with fail
          (try rw [Exit.noGoto_ret])
          go_ret2
          exact HS.out _ HB4.out.2.2
      · have HS := fun w' hg => replay_stops HAT.out (.inr ⟨p, HP.out, by rw [HW.out, hstop]⟩) (by rw [← hlen'.out]; unfold maxLen; omega) w' hg
        have HS := Lib.hid HS
        clear hstop
        rcases hst with ⟨y1, y2⟩ | ⟨y1, y2, y3⟩ | ⟨y1, y2, y3, y4⟩ | ⟨y1, y2, y3⟩
        · have z1 : ((x.toNat : Int) == 99) = false := by rw [y1]; rfl
          have z2 : ((x.toNat : Int) == 100) = false := by rw [y1]; rfl
          have z3 : ((tn : Int) == 2) = false := by simpa using y2
          go_wp2_with fail
          go_quiet (fail)
          go_wp2_with fail
          (try rw [Exit.noGoto_ret])
          go_ret2
          exact HS.out _ (below_drewN HB2.out.2.1 nq)
        · have z0 : ((x.toNat : Int) == 112) = false := by rw [y2]; rfl
          have z1 : ((x.toNat : Int) == 99) = false := by rw [y2]; rfl
          have z3 : ((tn : Int) == 1) = false := by simpa using y3
          go_wp2_with fail
          go_quiet (fail)
          go_wp2_with fail
          (try rw [Exit.noGoto_ret])
          go_ret2
          exact HS.out _ (below_drewN HB2.out.2.1 nq)
        · have z0 : ((x.toNat : Int) == 112) = false := by rw [y3]; rfl
          have z1 : ((x.toNat : Int) == 100) = false := by rw [y3]; rfl
          have z3 : ((tn : Int) == 1) = false := by simpa using y4
          go_wp2_with fail
          go_quiet (fail)
          go_wp2_with fail
          (try rw [Exit.noGoto_ret])
          go_ret2
          exact HS.out _ (below_drewN HB2.out.2.1 nq)
        · have z0 : ((x.toNat : Int) == 112) = false := by simpa using y1
          have z1 : ((x.toNat : Int) == 100) = false := by simpa using y2
          have z3 : ((x.toNat : Int) == 99) = false := by simpa using y3
          go_wp2_with fail
          go_quiet (fail)
          go_wp2_with fail
          (try rw [Exit.noGoto_ret])
          go_ret2
          exact HS.out _ (below_drewN HB2.out.2.1 nq)
    · have h3 : ¬ (k : Int) < (n : Int) := by omega
      have hkn : k = n := by omega
      have HS := fun w' hg => replay_stops HAT.out (.inl (List.drop_eq_nil_of_le (by omega))) (by unfold maxLen; omega) w' hg
      have HS := Lib.hid HS
      clear hat hlen hkn
      go_wp2_with fail
      (try rw [Exit.noGoto_ret])
      go_ret2
      exact HS.out _ (Below.refl _ _)
end Go.Proofs.YthcdkggkoanjpaaGreatDoor
