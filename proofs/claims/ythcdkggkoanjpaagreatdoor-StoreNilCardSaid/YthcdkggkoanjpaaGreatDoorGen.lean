/- append to own rows of whatever elements: ops, lists of ops. Numbers and types by name. -/
import Derived.Test.YthcdkggkoanjpaaGreatDoorWpl
import Derived.Test.YthcdkggkoanjpaaGreatDoorSyn
import Derived.Test.YthcdkggkoanjpaaGreatDoorWri
import Derived.Test.YthcdkggkoanjpaaGreatDoorPlk
import Derived.Test.YthcdkggkoanjpaaGreatDoorDig
import Derived.Test.YthcdkggkoanjpaaGreatDoorPrl
import Derived.BigRegion
import Derived.RegionTactic
import Derived.ChangeAlike
import Derived.Maps.OwnSet
import Derived.Sort.KeysCollected
import Derived.WalkSpells
import Derived.StillTailTactics
import Derived.Shelf.SlSortCmp.KitK
import Derived.Lib.Bytealg
import Derived.Sort.Grow
import Derived.Lib.AppendZerosOnto
import Derived.Lib.SliceRun
import Derived.Sort.Walk0
import Derived.Shelf.SlSortCmp.QuietGrown
import Derived.Laws.BitsLemmas
import Derived.WalkMore
import Derived.Test.YthcdkggkoanjpaaGreatDoorBel
/- A store on a disk as the document says: what each call makes of both. Plain facts. Numbers and types by name. -/
namespace Go.Proofs.YthcdkggkoanjpaaGreatDoor
open Go.RowKit Go.Lib
def applyAll (L : List Prm) (B : List (List Opm)) : List Prm := B.foldl applyP L
theorem applyAll_snoc (L : List Prm) (B : List (List Opm)) (O : List Opm) : applyAll L (B ++ [O]) = applyP (applyAll L B) O := by unfold applyAll; rw [List.foldl_append]; rfl
theorem rise_all {L : List Prm} (h : Rise L) (B : List (List Opm)) : Rise (applyAll L B) := by
  unfold applyAll
  induction B generalizing L with
  | nil => exact h
  | cons O B ih => exact ih (rise_apply L O)
theorem applyAll_flat {L : List Prm} (h : Rise L) (B : List (List Opm)) : applyAll L B = applyP L B.flatten := by
  unfold applyAll
  induction B generalizing L with
  | nil =>
    show L = applyP L []
    unfold applyP
    rw [base_rise h]
    rfl
  | cons O B ih => rw [List.foldl_cons, ih (rise_apply L O), List.flatten_cons, applyP_two]
theorem applyAll_again {L : List Prm} (h : Rise L) (B : List (List Opm)) : applyAll (applyAll L B) B = applyAll L B := by
  rw [applyAll_flat (rise_all h B), applyAll_flat h, applyP_again]
structure SOpen where
  e : Int
  M : MD
  n : Nat
  L : List Prm
noncomputable def openS (M : MD) : SOpen :=
  if loadE M ≠ 0 then ⟨loadE M, M, 0, []⟩ else if (openP M).e ≠ 0 then ⟨(openP M).e, (openP M).M, 0, []⟩ else ⟨0, (openP M).M, (openP M).n, applyAll (loadL M) (openP M).l⟩
structure SWrote where
  e : Int
  M : MD
  n : Nat
  s : Bool
  L : List Prm
noncomputable def checkS (M : MD) (n : Nat) (s : Bool) (L : List Prm) : SWrote :=
  if s = true then ⟨8, M, n, s, L⟩ else if (saveT M L).1 ≠ 0 then ⟨(saveT M L).1, (saveT M L).2, n, s, L⟩
  else ⟨(resetP (saveT M L).2 n s).e, (resetP (saveT M L).2 n s).M, (resetP (saveT M L).2 n s).n, (resetP (saveT M L).2 n s).s, L⟩
noncomputable def commitS (most : Int) (M : MD) (n : Nat) (s : Bool) (L : List Prm) (O : List Opm) : SWrote :=
  if (commitP M n s O).e ≠ 0 then ⟨(commitP M n s O).e, (commitP M n s O).M, (commitP M n s O).n, (commitP M n s O).s, L⟩
  else if most < ((commitP M n s O).n : Int) then { checkS (commitP M n s O).M (commitP M n s O).n (commitP M n s O).s (applyP L O) with e := 0 }
  else ⟨0, (commitP M n s O).M, (commitP M n s O).n, (commitP M n s O).s, applyP L O⟩
theorem checkS_L (M : MD) (n : Nat) (s : Bool) (L : List Prm) : (checkS M n s L).L = L := by
  unfold checkS
  split
  · rfl
  · split <;> rfl
def SparesL (op : Opn) : Prop := ∀ cap fs, Rising fs → (op cap fs).2.find? (isName logK) = fs.find? (isName logK)
theorem act_sparesL {M : MD} {op : Opn} (hs : SparesL op) (h : Rising M.fs) : (M.act op).2.fs.find? (isName logK) = M.fs.find? (isName logK) := by
  cases hd : M.dw with
  | true => rw [act_down hd]
  | false =>
    rcases act_ways hd op with ⟨_, _, h1 | h1⟩ | ⟨_, _, h1⟩ | ⟨_, _, h1⟩ <;> rw [h1]
    · exact hs _ _ h
    · exact hs _ _ h
theorem log_tmp : tmpK ≠ logK := by decide
theorem log_snap : snapK ≠ logK := by decide
theorem sparesL_remove : SparesL (opRemove tmpK) := fun cap fs h => by
  unfold opRemove
  split
  · rfl
  · exact find_woE h log_tmp
theorem sparesL_create : SparesL (opCreate tmpK) := fun cap fs h => by
  unfold opCreate
  rw [if_neg (by decide)]
  by_cases hn : fs.any (isName tmpK) = true
  · rw [if_pos hn]
  · rw [if_neg hn]
    exact find_insE h (by simpa using hn) log_tmp
theorem sparesL_append (x : List UInt8) : SparesL (opAppend tmpK x) := fun cap fs h => by
  unfold opAppend
  split
  · rfl
  · split
    · rfl
    · exact find_upd_ne (u := fun y => (y.1, y.2.1 ++ x, y.2.2)) (fun _ => rfl) log_tmp fs
theorem sparesL_sync : SparesL (opSync tmpK) := fun cap fs h => by
  unfold opSync
  split
  · rfl
  · exact find_upd_ne (u := fun y => (y.1, y.2.1, y.2.1.length)) (fun _ => rfl) log_tmp fs
theorem sparesL_rename : SparesL (opRename tmpK snapK) := fun cap fs h => by
  unfold opRename
  split
  · rfl
  · rename_i y hy
    rw [if_neg (by decide), if_neg (by decide)]
    have e := find_insE (fs := woE snapK (woE tmpK fs)) (x := (snapK, y.2.1, y.2.2)) (woE_rising (woE_rising h)) (by rw [woE_any, if_pos rfl]) (k := logK) log_snap
    exact e.trans ((find_woE (woE_rising h) log_snap).trans (find_woE h log_tmp))
theorem run_sparesL : ∀ (ops : List Opn) (M : MD), Rising M.fs → (∀ op ∈ ops, Keeps op ∧ SparesL op) → (runOps ops M).2.fs.find? (isName logK) = M.fs.find? (isName logK)
  | [], _, _, _ => rfl
  | op :: l, M, hr, h => by
    rw [runOps_one]
    have h0 := h op (by simp)
    have h1 := act_sparesL h0.2 hr
    split
    · exact (run_sparesL l _ (act_rising h0.1 hr) fun o ho => h o (List.mem_cons_of_mem _ ho)).trans h1
    · exact h1
theorem save_log {M : MD} (hr : Rising M.fs) (x : List UInt8) : (saveP M x).2.fs.find? (isName logK) = M.fs.find? (isName logK) := by
  unfold saveP
  refine run_sparesL _ M hr fun op ho => ?_
  unfold saveOps at ho
  rcases List.mem_append.1 ho with ho | ho
  · split at ho
    · rw [List.mem_singleton.1 ho]; exact ⟨keeps_remove tmpK, sparesL_remove⟩
    · cases ho
  · simp only [List.mem_cons, List.not_mem_nil, or_false] at ho
    rcases ho with rfl | rfl | rfl | rfl
    · exact ⟨keeps_create tmpK, sparesL_create⟩
    · exact ⟨keeps_append tmpK x, sparesL_append x⟩
    · exact ⟨keeps_sync tmpK, sparesL_sync⟩
    · exact ⟨keeps_rename tmpK snapK, sparesL_rename⟩
theorem saveT_log {M : MD} (hr : Rising M.fs) (L : List Prm) : (saveT M L).2.fs.find? (isName logK) = M.fs.find? (isName logK) := by
  unfold saveT
  split
  · exact save_log hr _
  · rfl
theorem spares_logA (x : List UInt8) : Spares (opAppend logK x) := fun cap fs h => by
  unfold opAppend
  split
  · rfl
  · split
    · rfl
    · exact find_upd_ne (u := fun y => (y.1, y.2.1 ++ x, y.2.2)) (fun _ => rfl) (by decide) fs
theorem spares_logS : Spares (opSync logK) := fun cap fs h => by
  unfold opSync
  split
  · rfl
  · exact find_upd_ne (u := fun y => (y.1, y.2.1, y.2.1.length)) (fun _ => rfl) (by decide) fs
theorem spares_logC (n : Int) : Spares (opCut logK n) := fun cap fs h => by
  unfold opCut
  split
  · rfl
  · split
    · rfl
    · exact find_upd_ne (u := fun y => (y.1, y.2.1.take n.toNat, min y.2.2 n.toNat)) (fun _ => rfl) (by decide) fs
theorem spares_logN : Spares (opCreate logK) := fun cap fs h => by
  unfold opCreate
  rw [if_neg (by decide)]
  by_cases hn : fs.any (isName logK) = true
  · rw [if_pos hn]
  · rw [if_neg hn]
    exact find_insE h (by simpa using hn) (by decide)
def logIs (fs : List Ent) (b : List UInt8) (s : Nat) : Prop := fs.find? (isName logK) = some (logK, b, s)
theorem append_is {fs : List Ent} {b : List UInt8} {s : Nat} (h : logIs fs b s) (x : List UInt8) (cap : Int) :
    ((opAppend logK x cap fs).1 = 5 ∧ (opAppend logK x cap fs).2 = fs ∧ cap < (tot fs : Int) + x.length) ∨ ((opAppend logK x cap fs).1 = 0 ∧ logIs (opAppend logK x cap fs).2 (b ++ x) s ∧ ¬ cap < (tot fs : Int) + x.length) := by
  unfold opAppend
  rw [h]
  simp only
  by_cases hc : cap < (tot fs : Int) + x.length
  · rw [if_pos hc]; exact .inl ⟨rfl, rfl, hc⟩
  · rw [if_neg hc]
    refine .inr ⟨rfl, ?_, hc⟩
    unfold logIs
    rw [find_upd_self (u := fun y => (y.1, y.2.1 ++ x, y.2.2)) (fun _ => rfl), h]
    rfl
theorem sync_is {fs : List Ent} {b : List UInt8} {s : Nat} (h : logIs fs b s) (cap : Int) : (opSync logK cap fs).1 = 0 ∧ logIs (opSync logK cap fs).2 b b.length := by
  unfold opSync
  rw [h]
  refine ⟨rfl, ?_⟩
  unfold logIs
  show (updE logK _ fs).find? _ = _
  rw [find_upd_self (u := fun y => (y.1, y.2.1, y.2.1.length)) (fun _ => rfl), h]
  rfl
theorem cut_is {fs : List Ent} {b : List UInt8} {s : Nat} (h : logIs fs b s) (n : Nat) (hn : n ≤ b.length) (cap : Int) : (opCut logK n cap fs).1 = 0 ∧ logIs (opCut logK n cap fs).2 (b.take n) (min s n) := by
  unfold opCut
  rw [h]
  simp only
  rw [if_neg (by omega)]
  refine ⟨rfl, ?_⟩
  unfold logIs
  show (updE logK _ fs).find? _ = _
  rw [find_upd_self (u := fun y => (y.1, y.2.1.take (n : Int).toNat, min y.2.2 (n : Int).toNat)) (fun _ => rfl), h]
  simp
theorem create_is {fs : List Ent} (hr : Rising fs) (h : fs.find? (isName logK) = none) (cap : Int) : (opCreate logK cap fs).1 = 0 ∧ logIs (opCreate logK cap fs).2 [] 0 := by
  have hn : fs.any (isName logK) = false := by
    rw [List.any_eq_false]
    intro y hy
    simpa using List.find?_eq_none.1 h y hy
  unfold opCreate
  rw [if_neg (by decide), if_neg (by simp [hn])]
  exact ⟨rfl, find_insE_self (x := (logK, [], 0)) hr hn⟩
theorem read_is {M : MD} (hd : M.dw = false) {b : List UInt8} {s : Nat} (h : logIs M.fs b s) : M.read logK = (b, 0) := by
  unfold MD.read
  rw [if_neg (by simp [hd]), h]
theorem restart_is {M : MD} (hr : Rising M.fs) {b : List UInt8} {s : Nat} (h : logIs M.fs b s) (hs : s ≤ b.length) (cap cr : Int) (dn : Bool) (fl kp : List Int) :
    ∃ k, s ≤ k ∧ k ≤ b.length ∧ logIs (M.restart cap cr dn fl kp).fs (b.take k) k := by
  have hrs : Rising (resE M.keep M.fs M.fs.length) := rising_of_names (by rw [resE_names]; exact hr.names)
  obtain ⟨hm, _⟩ := (find_iff hr logK _).1 h
  obtain ⟨i, hi, he⟩ := List.getElem_of_mem hm
  refine ⟨s + min (M.keep.getD i 0).toNat (b.length - s), by omega, by omega, ?_⟩
  show (resE M.keep M.fs M.fs.length).find? (isName logK) = _
  rw [find_iff hrs]
  refine ⟨List.mem_iff_getElem.2 ⟨i, by unfold resE; simpa using hi, ?_⟩, rfl⟩
  unfold resE
  rw [List.getElem_mapIdx, if_pos hi, he]
  rfl
theorem restart_none {M : MD} {k : List UInt8} (h : M.fs.find? (isName k) = none) (cap cr : Int) (dn : Bool) (fl kp : List Int) : (M.restart cap cr dn fl kp).fs.find? (isName k) = none := by
  show (resE M.keep M.fs M.fs.length).find? (isName k) = none
  rw [List.find?_eq_none] at h ⊢
  intro y hy
  obtain ⟨i, hi, he⟩ := List.getElem_of_mem hy
  unfold resE at he hi
  rw [List.getElem_mapIdx] at he
  have hi' : i < M.fs.length := by simpa using hi
  have h1 := h _ (List.getElem_mem hi')
  rw [← he, if_pos hi']
  exact h1
end Go.Proofs.YthcdkggkoanjpaaGreatDoor

/- What is asked of the code's index: contracts over a predicate of its own. Numbers and types by name. -/
namespace Go.Proofs.YthcdkggkoanjpaaGreatDoor
open Go.RowKit Go.Lib
def delP (L : List Prm) (k : ByteArray) : List Prm := L.filter fun y => !decide (y.key = k)
structure Fine (L : List Prm) : Prop where
  rise : Rise L
  len : L.length ≤ 1000
  small : ∀ o ∈ L, o.key.size ≤ 200 ∧ o.val.size ≤ 200
structure FineW (L : List Prm) : Prop where
  rise : Rise L
  len : L.length ≤ 700000
  small : ∀ o ∈ L, o.key.size ≤ 1000000 ∧ o.val.size ≤ 1000000
theorem Fine.wide {L : List Prm} (h : Fine L) : FineW L := ⟨h.rise, by have := h.len; omega, fun o ho => by have := h.small o ho; omega⟩
def INext (C : World → Nat → List Prm → List Nat → Prop) (w w' : World) (x : Nat) (L' : List Prm) (F : List Nat) : Prop :=
  ∃ F', C w' x L' F' ∧ (∀ k ∈ F', k ∈ F ∨ w.heap.size ≤ k) ∧ Turn F w w'
def theIx (x : Nat) : Value := .pointer (some ⟨x, 0, none⟩)
structure IxK (C : World → Nat → List Prm → List Nat → Prop) : Prop where
  lt : ∀ {w x L F}, C w x L F → ∀ k ∈ F, k < w.heap.size
  keep : ∀ {w w' x L F G}, C w x L F → Turn G w w' → (∀ k ∈ F, k ∉ G) → C w' x L F
  new : ∀ (n : Int) (w : World), Calls Tryz.prog 37 #[.int .i64 n] w fun e w' => ∃ x F, e = .returned (theIx x) ∧ C w' x [] F ∧ (∀ k ∈ F, w.heap.size ≤ k) ∧ Turn [] w w'
  put : ∀ {w x L F}, C w x L F → Fine L → ∀ (k v : ByteArray), k.size ≤ 200 → v.size ≤ 200 → Calls Tryz.prog 38 #[theIx x, .string k, .string v] w fun e w' => e = .returned (.tuple #[]) ∧ INext C w w' x (putP ⟨k, v⟩ L) F
  get : ∀ {w x L F}, C w x L F → Fine L → ∀ (k : ByteArray), k.size ≤ 200 → Calls Tryz.prog 58 #[theIx x, .string k] w fun e w' => e = .returned (.tuple #[.string (findP L k).1, .bool (findP L k).2]) ∧ Turn [] w w'
  del : ∀ {w x L F}, C w x L F → Fine L → ∀ (k : ByteArray), k.size ≤ 200 → Calls Tryz.prog 71 #[theIx x, .string k] w fun e w' => e = .returned (.bool (findP L k).2) ∧ INext C w w' x (delP L k) F
  len : ∀ {w x L F}, C w x L F → Fine L → Calls Tryz.prog 87 #[theIx x] w fun e w' => e = .returned (.int .i64 (L.length : Int)) ∧ Turn [] w w'
  all : ∀ {w x L F}, C w x L F → Fine L → Calls Tryz.prog 45 #[theIx x] w fun e w' => ∃ ao q c, e = .returned (.slice ao q c) ∧ Prr w' (.slice ao q c) q L ∧ Turn [] w w'
theorem tb9 {w w' : World} (h : Grow w w') : Turn [] w w' := ⟨h.os, h.tape, h.output, h.size, fun k hk _ => h.block k hk⟩
theorem tg9 {w w' : World} (t : Turn [] w w') : Grow w w' := t.below (Nat.le_refl _) (by simp)
end Go.Proofs.YthcdkggkoanjpaaGreatDoor

/- How much a map holds behind ops; what a store's calls ask. Plain facts. Numbers and types by name. -/
namespace Go.Proofs.YthcdkggkoanjpaaGreatDoor
open Go.RowKit Go.Lib
theorem bulkP_filter (p : Prm → Bool) (L : List Prm) : bulkP (L.filter p) ≤ bulkP L := by
  induction L with
  | nil => exact Nat.le_refl _
  | cons y l ih =>
    rw [List.filter_cons]
    split
    · rw [bulkP_cons, bulkP_cons]; omega
    · rw [bulkP_cons]; omega
theorem bulkP_step (L : List Prm) (o : Opm) : bulkP (stepP L o) ≤ bulkP L + (1 + o.key.size + o.val.size) := by
  unfold stepP
  split
  · have := bulkP_filter (fun y => !decide (y.key = o.key)) L; omega
  · have := bulkQ_put ⟨o.key, o.val⟩ L
    rw [bulkPQ, bulkPQ]
    simp only at this
    omega
theorem bulkP_steps : ∀ (O : List Opm) (L : List Prm), bulkP (O.foldl stepP L) ≤ bulkP L + bulkO O
  | [], _ => Nat.le_add_right _ _
  | o :: O, L => by
    rw [List.foldl_cons, bulkO_cons]
    have := bulkP_steps O (stepP L o)
    have := bulkP_step L o
    omega
theorem bulkP_apply (L : List Prm) (O : List Opm) : bulkP (applyP L O) ≤ bulkP L + bulkO O := by
  unfold applyP
  have h1 := bulkP_steps O (baseP L)
  have h2 := bulkP_base L
  omega
theorem fineW_of {L : List Prm} (hR : Rise L) (hb : bulkP L ≤ 690000) : FineW L :=
  ⟨hR, by have := bulkP_len L; omega, fun o ho => by
    have : 1 + o.key.size + o.val.size ≤ bulkP L := by
      clear hR hb
      induction L with
      | nil => cases ho
      | cons y l ih =>
        rw [bulkP_cons]
        rcases List.mem_cons.1 ho with rfl | ho
        · omega
        · have := ih ho; omega
    omega⟩
theorem bulkP_all (L : List Prm) (B : List (List Opm)) : bulkP (applyAll L B) ≤ bulkP L + bulkO B.flatten := by
  unfold applyAll
  induction B generalizing L with
  | nil => exact Nat.le_add_right _ _
  | cons O B ih =>
    rw [List.foldl_cons, List.flatten_cons, bulkO_append]
    have := ih (applyP L O)
    have := bulkP_apply L O
    omega
theorem bulkO_takeB (B : List (List Opm)) (k : Nat) : bulkO (B.take k).flatten ≤ bulkO B.flatten := by
  conv => rhs; rw [← List.take_append_drop k B, List.flatten_append, bulkO_append]
  exact Nat.le_add_right _ _
theorem applyAll_next {L : List Prm} {B : List (List Opm)} {k : Nat} {O : List Opm} (h : B[k]? = some O) : applyAll L (B.take (k + 1)) = applyP (applyAll L (B.take k)) O := by
  rw [take_next h, applyAll_snoc]
structure OFit (K J j : Nat) (M : MD) : Prop where
  well : Well K M j
  j : j + 3 ≤ J
  room : RoomW K J
  log : (M.read logK).1.length ≤ 7200000
  snap : (loadP M).1.length ≤ 1000000
  bulk : bulkP (loadL M) + bulkO (openP M).l.flatten ≤ 650000
  ops : ∀ O ∈ (openP M).l, O.length ≤ 5000
  rise : Rise (loadL M)
theorem openS_bad {M : MD} (h : loadE M ≠ 0) : openS M = ⟨loadE M, M, 0, []⟩ := by unfold openS; rw [if_pos h]
theorem openS_log {M : MD} (h0 : loadE M = 0) (h : (openP M).e ≠ 0) : openS M = ⟨(openP M).e, (openP M).M, 0, []⟩ := by unfold openS; rw [if_neg (by simp [h0]), if_pos h]
theorem openS_ok {M : MD} (h0 : loadE M = 0) (h : (openP M).e = 0) : openS M = ⟨0, (openP M).M, (openP M).n, applyAll (loadL M) (openP M).l⟩ := by unfold openS; rw [if_neg (by simp [h0]), if_neg (by simp [h])]
theorem commitS_bad {most : Int} {M : MD} {n : Nat} {s : Bool} {L : List Prm} {X : List Opm} {W : Wrote} (h : W = commitP M n s X) (he : W.e ≠ 0) : commitS most M n s L X = ⟨W.e, W.M, W.n, W.s, L⟩ := by
  subst h; unfold commitS; rw [if_pos he]
theorem commitS_few {most : Int} {M : MD} {n : Nat} {s : Bool} {L : List Prm} {X : List Opm} {W : Wrote} (h : W = commitP M n s X) (he : W.e = 0) (hm : ¬ most < (W.n : Int)) : commitS most M n s L X = ⟨0, W.M, W.n, W.s, applyP L X⟩ := by
  subst h; unfold commitS; rw [if_neg (by simp [he]), if_neg hm]
theorem commitS_many {most : Int} {M : MD} {n : Nat} {s : Bool} {L : List Prm} {X : List Opm} {W : Wrote} (h : W = commitP M n s X) (he : W.e = 0) (hm : most < (W.n : Int)) : commitS most M n s L X = { checkS W.M W.n W.s (applyP L X) with e := 0 } := by
  subst h; unfold commitS; rw [if_neg (by simp [he]), if_pos hm]
structure SFit (K J j : Nat) (M : MD) (n : Nat) (L : List Prm) (X : List Opm) : Prop where
  well : Well K M j
  j : j + 8 ≤ J
  room : RoomW K J
  x : bulkO X ≤ 5000
  xK : (frms (recs X)).length ≤ K
  n : n ≤ 900000000
  sl : Slim L
  sl2 : Slim (applyP L X)
  sK : (bytesT (applyP L X)).length ≤ K
end Go.Proofs.YthcdkggkoanjpaaGreatDoor

/- The reference's store in memory. Numbers and types by name. -/
namespace Go.Proofs.YthcdkggkoanjpaaGreatDoor
open Go.RowKit Go.Lib
set_option maxRecDepth 100000
theorem Prr.turnO {w w' : World} {v : Value} {n : Nat} {L : List Prm} {F : List Nat} (h : Prr w v n L) (t : Turn F w w') (hF : L ≠ [] → ∀ a, v.ownBlock = some a → a ∉ F) : Prr w' v n L := by
  obtain ⟨h1, h2, ⟨ao, c, e, g0, g1, g2, g3⟩, h4⟩ := h
  refine ⟨h1, h2, ⟨ao, c, e, g0, g1, g2, fun a ha j u hj => ?_⟩, h4⟩
  have hc := g3 a ha j u hj
  have hlt := World.block_lt_of_cell? w _ hc
  rw [add_block] at hlt
  rw [World.cell?_of_block (w := w) (w' := w') (by rw [add_block]; exact t.block _ hlt (hF (by rintro rfl; cases hj) _ (by rw [e, ha]; rfl)))]
  exact hc
end Go.Proofs.YthcdkggkoanjpaaGreatDoor

namespace Go.Proofs.YthcdkggkoanjpaaGreatDoor
open Go.RowKit Go.Lib
theorem elemOp : Elem 52 65 (.agg #[.bool false, .string ⟨#[]⟩, .string ⟨#[]⟩]) 3 40 := ⟨Tryz.underlying52, by kernel_rfl, by decide, by decide⟩
theorem elemOps : Elem 23 52 (.slice none 0 0) 1 24 := ⟨Tryz.underlying23, by kernel_rfl, by decide, by decide⟩
end Go.Proofs.YthcdkggkoanjpaaGreatDoor
