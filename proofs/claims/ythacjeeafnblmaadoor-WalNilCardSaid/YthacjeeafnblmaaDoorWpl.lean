/- A log on a disk as the document says: what each call makes of both. Plain facts. Numbers and types by name. -/
import Derived.Test.YthacjeeafnblmaaDoorMvg
import Derived.Test.YthacjeeafnblmaaDoorCub
/- Both disks in one memory. Numbers and types by name. -/
namespace Go.Proofs.YthacjeeafnblmaaDoor
open Go.RowKit Go.Maps Go.Sort Go.WideMaps

/-- The blocks that X names stay as they are. -/
def Stays (X : Nat → Prop) (w w' : World) : Prop := Below 0 w w' ∧ ∀ q, X q → w'.heap[q]? = w.heap[q]?
theorem Stays.refl (X : Nat → Prop) (w : World) : Stays X w w := ⟨Below.refl _ _, fun _ _ => rfl⟩
theorem Stays.trans {X : Nat → Prop} {a b c : World} (h : Stays X a b) (k : Stays X b c) : Stays X a c := ⟨h.1.trans k.1, fun q hq => (k.2 q hq).trans (h.2 q hq)⟩
theorem Stays.less {X Y : Nat → Prop} {a b : World} (h : Stays X a b) (hY : ∀ q, Y q → X q) : Stays Y a b := ⟨h.1, fun q hq => h.2 q (hY q hq)⟩
theorem Stays.below {n : Nat} {a b : World} (h : Stays (· < n) a b) : Below n a b := ⟨h.1.os, h.1.tape, h.1.output, h.1.size, fun q hq => h.2 q hq⟩
theorem Stays.of_turn {X : Nat → Prop} {F : List Nat} {w w' : World} (t : Turn F w w') (hX : ∀ q, X q → q < w.heap.size ∧ q ∉ F) : Stays X w w' :=
  ⟨t.below (Nat.zero_le _) (fun k _ => Nat.zero_le _), fun q hq => t.block q (hX q hq).1 (hX q hq).2⟩
theorem Stays.drew {X : Nat → Prop} (w : World) : Stays X w w.drew := ⟨(Below.refl _ _).drew, fun _ _ => rfl⟩
theorem Stays.cell {X : Nat → Prop} {w w' : World} (h : Stays X w w') {a : Addr} {v : Value} (hX : X a.block) (hc : w.cell? a = some v) : w'.cell? a = some v :=
  (World.cell?_of_block (h.2 _ hX)).trans hc
theorem Stays.reads {X : Nat → Prop} {w w' : World} (h : Stays X w w') {v : Value} {xs : List Value} (hr : Reads w v xs) (hX : xs ≠ [] → ∀ a n c, v = .slice (some a) n c → X a.block) : Reads w' v xs := by
  obtain ⟨ao, c, e, h1, h2, h3⟩ := hr
  refine ⟨ao, c, e, h1, h2, fun a ha j u hj => ?_⟩
  have hne : xs ≠ [] := by rintro rfl; cases hj
  subst ha
  have h0 := h3 a rfl j u hj
  refine h.cell ?_ h0
  have : (a.add j).block = a.block := by unfold Addr.add; split <;> rfl
  rw [this]
  exact hX hne a _ _ e

/-- How much may have come onto a disk by j acts, each of at most K bytes. -/
structure Hold (K : Nat) (M : MD) (j : Nat) : Prop where
  n : M.n ≤ j
  tot : tot M.fs ≤ j * K
  len : M.fs.length ≤ j
  fail : M.fail.length ≤ 200
  keep : M.keep.length ≤ 200
  cap : M.cap ≤ 9223372036854775807

theorem held_lim {K : Nat} (hK : 120 * K < 900000000) {M : MD} {j : Nat} (h : Hold K M j) (hj : j ≤ 120) : Lim M :=
  ⟨by have := h.n; omega, ⟨Nat.lt_of_le_of_lt h.tot (Nat.lt_of_le_of_lt (Nat.mul_le_mul_right K hj) hK), by have := h.len; omega⟩, by have := h.fail; omega, by have := h.keep; omega⟩
theorem held_step {K : Nat} {M : MD} {j : Nat} (h : Hold K M j) (M' : MD) (hn : M'.n ≤ M.n + 1) (ht : tot M'.fs ≤ tot M.fs + K) (hl : M'.fs.length ≤ M.fs.length + 1) (hf : M'.fail = M.fail) (hk : M'.keep = M.keep) (hc : M'.cap = M.cap) : Hold K M' (j + 1) := by
  have h1 := h.n
  have h2 := h.tot
  have h3 := h.len
  refine ⟨by omega, ?_, by omega, by rw [hf]; exact h.fail, by rw [hk]; exact h.keep, by rw [hc]; exact h.cap⟩
  rw [Nat.succ_mul]
  exact Nat.le_trans ht (Nat.add_le_add_right h2 K)
theorem held_more {K : Nat} {M : MD} {j : Nat} (h : Hold K M j) : Hold K M (j + 1) :=
  held_step h M (by omega) (Nat.le_add_right _ _) (Nat.le_add_right _ _) rfl rfl rfl

/-- A call on files: at most so many bytes more, at most a file more. -/
def Adds (op : Opn) (c : Nat) : Prop := ∀ cap fs, Rising fs → tot (op cap fs).2 ≤ tot fs + c ∧ (op cap fs).2.length ≤ fs.length + 1

theorem held_act {K : Nat} {M : MD} {j : Nat} (h : Hold K M j) {op : Opn} (ho : Adds op K) (hr : Rising M.fs) : Hold K (M.act op).2 (j + 1) := by
  have h1 := ho M.cap M.fs hr
  unfold MD.act
  split
  · exact held_more h
  · split
    · refine held_step h _ (Int.le_refl _) ?_ ?_ rfl rfl rfl
      · show tot (if M.dn = true then (op M.cap M.fs).2 else M.fs) ≤ _
        split
        · exact h1.1
        · exact Nat.le_add_right _ _
      · show (if M.dn = true then (op M.cap M.fs).2 else M.fs).length ≤ _
        split
        · exact h1.2
        · exact Nat.le_add_right _ _
    · split
      · exact held_step h _ (Int.le_refl _) (Nat.le_add_right _ _) (Nat.le_add_right _ _) rfl rfl rfl
      · exact held_step h _ (Int.le_refl _) h1.1 h1.2 rfl rfl rfl

theorem tot_insE (x : Ent) (fs : List Ent) : tot (insE x fs) = x.2.1.length + tot fs := by rw [tot_perm (insE_perm x fs), tot_cons]
theorem tot_woE (k : List UInt8) (fs : List Ent) : tot (woE k fs) ≤ tot fs := by
  induction fs with
  | nil => exact Nat.le_refl _
  | cons x l ih =>
    unfold woE at *
    rw [List.filter_cons]
    split
    · rw [tot_cons, tot_cons]; omega
    · rw [tot_cons]; omega
theorem len_woE (k : List UInt8) (fs : List Ent) : (woE k fs).length ≤ fs.length := List.length_filter_le _ _
theorem tot_woE_mem {k : List UInt8} {fs : List Ent} {x : Ent} (h : fs.find? (isName k) = some x) : x.2.1.length + tot (woE k fs) ≤ tot fs := by
  induction fs with
  | nil => cases h
  | cons y l ih =>
    rw [List.find?_cons] at h
    cases hy : isName k y with
    | true =>
      rw [hy] at h
      cases h
      have := tot_woE k l
      unfold woE at *
      rw [List.filter_cons_of_neg (by simp [hy]), tot_cons]
      omega
    | false =>
      rw [hy] at h
      have := ih h
      unfold woE at *
      rw [List.filter_cons_of_pos (by simp [hy]), tot_cons, tot_cons]
      omega
theorem tot_updE {k : List UInt8} {u : Ent → Ent} {c : Nat} (hu : ∀ x, (u x).2.1.length ≤ x.2.1.length + c) {fs : List Ent} (hn : (fs.map (·.1)).Nodup) : tot (updE k u fs) ≤ tot fs + c := by
  induction fs with
  | nil => exact Nat.zero_le _
  | cons y l ih =>
    rw [List.map_cons, List.nodup_cons] at hn
    unfold updE at *
    rw [List.map_cons, tot_cons, tot_cons]
    have h1 := ih hn.2
    by_cases hy : isName k y = true
    · rw [if_pos hy]
      have h2 : l.map (fun x => if isName k x = true then u x else x) = l := by
        conv => rhs; rw [← List.map_id l]
        apply List.map_congr_left
        intro x hx
        rw [if_neg]
        · rfl
        · intro e
          exact hn.1 (List.mem_map.2 ⟨x, hx, (isName_iff.1 e).trans (isName_iff.1 hy).symm⟩)
      rw [h2]
      have := hu y
      omega
    · rw [if_neg hy]
      omega
theorem len_updE (k : List UInt8) (u : Ent → Ent) (fs : List Ent) : (updE k u fs).length = fs.length := by simp [updE]

theorem adds_create (c : Nat) (k : List UInt8) : Adds (opCreate k) c := by
  intro cap fs hr
  unfold opCreate
  split
  · exact ⟨Nat.le_add_right _ _, Nat.le_add_right _ _⟩
  · split
    · exact ⟨Nat.le_add_right _ _, Nat.le_add_right _ _⟩
    · simp only [tot_insE, insE_length, List.length_nil]; omega
theorem adds_append (c : Nat) (k l : List UInt8) (hl : l.length ≤ c) : Adds (opAppend k l) c := by
  intro cap fs hr
  unfold opAppend
  split
  · exact ⟨Nat.le_add_right _ _, Nat.le_add_right _ _⟩
  · split
    · exact ⟨Nat.le_add_right _ _, Nat.le_add_right _ _⟩
    · refine ⟨tot_updE (fun x => ?_) hr.nodup, by show (updE _ _ _).length ≤ _; rw [len_updE]; omega⟩
      simp only [List.length_append]; omega
theorem adds_sync (c : Nat) (k : List UInt8) : Adds (opSync k) c := by
  intro cap fs hr
  unfold opSync
  split
  · exact ⟨Nat.le_add_right _ _, Nat.le_add_right _ _⟩
  · exact ⟨tot_updE (u := fun x => (x.1, x.2.1, x.2.1.length)) (fun x => Nat.le_add_right _ _) hr.nodup, by show (updE _ _ _).length ≤ _; rw [len_updE]; omega⟩
theorem adds_cut (c : Nat) (k : List UInt8) (n : Int) : Adds (opCut k n) c := by
  intro cap fs hr
  unfold opCut
  split
  · exact ⟨Nat.le_add_right _ _, Nat.le_add_right _ _⟩
  · split
    · exact ⟨Nat.le_add_right _ _, Nat.le_add_right _ _⟩
    · exact ⟨tot_updE (fun x => by simp only [List.length_take]; omega) hr.nodup, by show (updE _ _ _).length ≤ _; rw [len_updE]; omega⟩
theorem adds_rename (c : Nat) (k j : List UInt8) : Adds (opRename k j) c := by
  intro cap fs hr
  unfold opRename
  split
  · exact ⟨Nat.le_add_right _ _, Nat.le_add_right _ _⟩
  · rename_i x hx
    split
    · exact ⟨Nat.le_add_right _ _, Nat.le_add_right _ _⟩
    · split
      · exact ⟨Nat.le_add_right _ _, Nat.le_add_right _ _⟩
      · have h1 := tot_woE j (woE k fs)
        have h2 := tot_woE_mem hx
        have h3 := len_woE j (woE k fs)
        have h4 := len_woE k fs
        simp only [tot_insE, insE_length]
        omega
theorem adds_remove (c : Nat) (k : List UInt8) : Adds (opRemove k) c := by
  intro cap fs hr
  unfold opRemove
  split
  · exact ⟨Nat.le_add_right _ _, Nat.le_add_right _ _⟩
  · have h1 := tot_woE k fs
    have h2 := len_woE k fs
    exact ⟨Nat.le_trans h1 (Nat.le_add_right _ _), Nat.le_trans h2 (Nat.le_add_right _ _)⟩
theorem held_restart {K : Nat} {M : MD} {j : Nat} (h : Hold K M j) {cap cr : Int} {dn : Bool} {zs ks : List Int} (hc : cap ≤ 9223372036854775807) (hz : zs.length ≤ 200) (hk : ks.length ≤ 200) : Hold K (M.restart cap cr dn zs ks) (j + 1) := by
  have h1 := tot_res M.keep M.fs M.fs.length
  have h3 := h.len
  refine ⟨by show (0 : Int) ≤ _; omega, ?_, by show (resE M.keep M.fs M.fs.length).length ≤ _; rw [resE_length]; omega, hz, hk, hc⟩
  rw [Nat.succ_mul]
  exact Nat.le_trans (Nat.le_trans h1 h.tot) (Nat.le_add_right _ _)

end Go.Proofs.YthacjeeafnblmaaDoor

namespace Go.Proofs.YthacjeeafnblmaaDoor
open Go.RowKit Go.Lib

def logK : List UInt8 := [108, 111, 103]
def logS : ByteArray := ⟨#[108, 111, 103]⟩
theorem logS_list : logS.data.toList = logK := rfl
theorem logS_size : logS.size = 3 := rfl

/-- The payloads at a text's beginning. -/
noncomputable def scn (b : List UInt8) : List (List UInt8) := Classical.choose (scans_total b)
theorem scn_of {b : List UInt8} {l : List (List UInt8)} {n : Nat} (h : Scans b l n) : scn b = l := by
  obtain ⟨m, hm⟩ := Classical.choose_spec (scans_total b)
  exact (scans_det hm h).1
noncomputable def scnN (b : List UInt8) : Nat := Classical.choose (Classical.choose_spec (scans_total b))
theorem scn_spec (b : List UInt8) : Scans b (scn b) (scnN b) := Classical.choose_spec (Classical.choose_spec (scans_total b))

/-- The batches in bytes, and where the last one ends. -/
noncomputable def batsOf (b : List UInt8) : List (List Opm) := (play (scn b) 0 [] [] 0).1
noncomputable def usedOf (b : List UInt8) : Nat := (play (scn b) 0 [] [] 0).2
noncomputable def endOf (b : List UInt8) : Nat := (frms ((scn b).take (usedOf b))).length

/-- What Open tells: the error, the disk behind it, the log's size, the batches. -/
structure Opened where
  e : Int
  M : MD
  n : Nat
  l : List (List Opm)

noncomputable def openR (M : MD) (b : List UInt8) : Opened :=
  if (M.act (opSync logK)).1 = 0 then ⟨0, (M.act (opSync logK)).2, endOf b, batsOf b⟩ else ⟨(M.act (opSync logK)).1, (M.act (opSync logK)).2, 0, []⟩
noncomputable def openQ (M : MD) (b : List UInt8) : Opened :=
  if endOf b < b.length then
    if (M.act (opCut logK (endOf b))).1 = 0 then openR (M.act (opCut logK (endOf b))).2 b else ⟨(M.act (opCut logK (endOf b))).1, (M.act (opCut logK (endOf b))).2, 0, []⟩
  else openR M b
noncomputable def openP (M : MD) : Opened :=
  if (M.read logK).2 = 3 then
    if (M.act (opCreate logK)).1 = 0 then openQ (M.act (opCreate logK)).2 [] else ⟨(M.act (opCreate logK)).1, (M.act (opCreate logK)).2, 0, []⟩
  else if (M.read logK).2 = 0 then openQ M (M.read logK).1 else ⟨(M.read logK).2, M, 0, []⟩

/-- What Commit and Reset leave: the answer, the disk, the size, whether it is sick. -/
structure Wrote where
  e : Int
  M : MD
  n : Nat
  s : Bool

def commitC (M : MD) (e : Int) (n : Nat) : Wrote :=
  if e = 7 then ⟨7, M, n, true⟩ else ⟨e, (M.act (opCut logK n)).2, n, decide ((M.act (opCut logK n)).1 ≠ 0)⟩
def commitA (M : MD) (n : Nat) (x : List UInt8) : Wrote :=
  if (M.act (opAppend logK x)).1 = 0 then
    if ((M.act (opAppend logK x)).2.act (opSync logK)).1 = 0 then ⟨0, ((M.act (opAppend logK x)).2.act (opSync logK)).2, n + x.length, false⟩
    else commitC ((M.act (opAppend logK x)).2.act (opSync logK)).2 ((M.act (opAppend logK x)).2.act (opSync logK)).1 n
  else commitC (M.act (opAppend logK x)).2 (M.act (opAppend logK x)).1 n
def commitP (M : MD) (n : Nat) (s : Bool) (L : List Opm) : Wrote :=
  if s = true then ⟨8, M, n, s⟩ else if okOps L = false then ⟨1, M, n, s⟩ else commitA M n (frms (recs L))
def resetP (M : MD) (n : Nat) (s : Bool) : Wrote :=
  if s = true then ⟨8, M, n, s⟩ else ⟨(M.act (opCut logK 0)).1, (M.act (opCut logK 0)).2, if (M.act (opCut logK 0)).1 = 0 then 0 else n, decide ((M.act (opCut logK 0)).1 = 7)⟩

/-- How much may be on a disk behind j calls, and its files rise. -/
structure Well (K : Nat) (M : MD) (j : Nat) : Prop where
  held : Hold K M j
  up : Rising M.fs
def Keeps (op : Opn) : Prop := ∀ cap fs, Rising fs → Rising (op cap fs).2

theorem keeps_create (k : List UInt8) : Keeps (opCreate k) := by
  intro cap fs h
  unfold opCreate
  split
  · exact h
  · split
    · exact h
    · rename_i hn
      exact insE_rising h (by simpa using hn)
theorem keeps_append (k l : List UInt8) : Keeps (opAppend k l) := by
  intro cap fs h
  unfold opAppend
  split
  · exact h
  · split
    · exact h
    · exact updE_rising (u := fun x => (x.1, x.2.1 ++ l, x.2.2)) (fun _ => rfl) h
theorem keeps_sync (k : List UInt8) : Keeps (opSync k) := by
  intro cap fs h
  unfold opSync
  split
  · exact h
  · exact updE_rising (u := fun x => (x.1, x.2.1, x.2.1.length)) (fun _ => rfl) h
theorem keeps_cut (k : List UInt8) (n : Int) : Keeps (opCut k n) := by
  intro cap fs h
  unfold opCut
  split
  · exact h
  · split
    · exact h
    · exact updE_rising (u := fun x => (x.1, x.2.1.take n.toNat, min x.2.2 n.toNat)) (fun _ => rfl) h

theorem well_act {K : Nat} {M : MD} {j : Nat} (h : Well K M j) {op : Opn} (ho : Adds op K) (hk : Keeps op) : Well K (M.act op).2 (j + 1) := by
  refine ⟨held_act h.held ho h.up, ?_⟩
  unfold MD.act
  split
  · exact h.up
  · split
    · show Rising (if M.dn = true then (op M.cap M.fs).2 else M.fs)
      split
      · exact hk _ _ h.up
      · exact h.up
    · split
      · exact h.up
      · exact hk _ _ h.up
theorem well_more {K : Nat} {M : MD} {i j : Nat} (h : Well K M i) (hj : i ≤ j) : Well K M j := by
  obtain ⟨d, rfl⟩ := Nat.exists_eq_add_of_le hj
  clear hj
  induction d with
  | zero => exact h
  | succ d ih => exact ⟨held_more ih.held, ih.up⟩
/-- How many calls there may be, and how many bytes each may bring. -/
structure Room (K J : Nat) : Prop where
  all : J * K ≤ 7200000
  calls : J ≤ 100000
theorem well_tot {K J : Nat} (hR : Room K J) {M : MD} {j : Nat} (h : Well K M j) (hj : j ≤ J) : tot M.fs ≤ 7200000 :=
  Nat.le_trans h.held.tot (Nat.le_trans (Nat.mul_le_mul_right K hj) hR.all)
theorem well_lim {K J : Nat} (hR : Room K J) {M : MD} {j : Nat} (h : Well K M j) (hj : j ≤ J) : Lim M := by
  have h1 := h.held.n
  have h3 := h.held.len
  have h4 := h.held.fail
  have h5 := h.held.keep
  have h6 := hR.calls
  have h7 := well_tot hR h hj
  exact ⟨by omega, ⟨by omega, by omega⟩, by omega, by omega⟩
theorem well_read {K J : Nat} (hR : Room K J) {M : MD} {j : Nat} (h : Well K M j) (hj : j ≤ J) (k : List UInt8) : (M.read k).1.length ≤ 7200000 := by
  have h1 := well_tot hR h hj
  unfold MD.read
  split
  · simp
  · split
    · simp
    · rename_i x hx
      have := tot_mem (find_memE hx).1
      show x.2.1.length ≤ _
      omega
theorem mread_none {M : MD} {k : List UInt8} (h : (M.read k).2 = 3) : (M.read k).1 = [] := by
  unfold MD.read at *
  split
  · rfl
  · rename_i hd
    rw [if_neg hd] at h
    split
    · rfl
    · rename_i x hx
      rw [hx] at h
      cases h
theorem mread_bad {M : MD} {k : List UInt8} (h : (M.read k).2 ≠ 0) : (M.read k).1 = [] := by
  unfold MD.read at *
  split
  · rfl
  · rename_i hd
    rw [if_neg hd] at h
    split
    · rfl
    · rename_i x hx
      rw [hx] at h
      exact absurd rfl h

/-- Records are what their payloads make. -/
theorem scans_size {b : List UInt8} {l : List (List UInt8)} {n : Nat} (h : Scans b l n) : (frms l).length = n := by
  induction h with
  | stop _ => simp [frms]
  | more _ _ ih =>
    rw [show ∀ (p : List UInt8) (l : List (List UInt8)), frms (p :: l) = frm p ++ frms l from fun p l => by simp [frms], List.length_append, frm_length, ih]
theorem frms_take (l : List (List UInt8)) (i : Nat) : (frms (l.take i)).length ≤ (frms l).length := by
  conv => rhs; rw [← List.take_append_drop i l, frms_append, List.length_append]
  omega
theorem frms_next {l : List (List UInt8)} {i : Nat} {p : List UInt8} (h : l[i]? = some p) : (frms (l.take (i + 1))).length = (frms (l.take i)).length + 8 + p.length := by
  have hlt := (List.getElem?_eq_some_iff.1 h).1
  rw [List.getElem?_eq_getElem hlt] at h
  rw [List.take_succ_eq_append_getElem hlt, frms_append, List.length_append, Option.some.inj h]
  simp [frms, frm_length]; omega

theorem well_create {K : Nat} {M : MD} {j : Nat} (h : Well K M j) (k : List UInt8) : Well K (M.act (opCreate k)).2 (j + 1) := well_act h (adds_create K k) (keeps_create k)
theorem well_append {K : Nat} {M : MD} {j : Nat} (h : Well K M j) (k l : List UInt8) (hl : l.length ≤ K) : Well K (M.act (opAppend k l)).2 (j + 1) := well_act h (adds_append K k l hl) (keeps_append k l)
theorem well_sync {K : Nat} {M : MD} {j : Nat} (h : Well K M j) (k : List UInt8) : Well K (M.act (opSync k)).2 (j + 1) := well_act h (adds_sync K k) (keeps_sync k)
theorem well_cut {K : Nat} {M : MD} {j : Nat} (h : Well K M j) (k : List UInt8) (n : Int) : Well K (M.act (opCut k n)).2 (j + 1) := well_act h (adds_cut K k n) (keeps_cut k n)

theorem well_openR {K : Nat} {M : MD} {j : Nat} (h : Well K M j) (b : List UInt8) : Well K (openR M b).M (j + 1) := by
  unfold openR
  split <;> exact well_sync h logK
theorem well_openQ {K : Nat} {M : MD} {j : Nat} (h : Well K M j) (b : List UInt8) : Well K (openQ M b).M (j + 2) := by
  unfold openQ
  split
  · split
    · exact well_openR (well_cut h logK _) b
    · exact well_more (well_cut h logK _) (by omega)
  · exact well_more (well_openR h b) (by omega)
theorem well_open {K : Nat} {M : MD} {j : Nat} (h : Well K M j) : Well K (openP M).M (j + 3) := by
  unfold openP
  split
  · split
    · exact well_openQ (well_create h logK) []
    · exact well_more (well_create h logK) (by omega)
  · split
    · exact well_more (well_openQ h _) (by omega)
    · exact well_more h (by omega)
theorem well_commitC {K : Nat} {M : MD} {j : Nat} (h : Well K M j) (e : Int) (n : Nat) : Well K (commitC M e n).M (j + 1) := by
  unfold commitC
  split
  · exact well_more h (by omega)
  · exact well_cut h logK _
theorem well_commitA {K : Nat} {M : MD} {j : Nat} (h : Well K M j) (n : Nat) (x : List UInt8) (hx : x.length ≤ K) : Well K (commitA M n x).M (j + 3) := by
  have ha := well_append h logK x hx
  have hs := well_sync ha logK
  unfold commitA
  split
  · split
    · exact well_more hs (by omega)
    · exact well_commitC hs _ n
  · exact well_more (well_commitC ha _ n) (by omega)
theorem well_commit {K : Nat} {M : MD} {j : Nat} (h : Well K M j) (n : Nat) (s : Bool) (L : List Opm) (hx : (frms (recs L)).length ≤ K) : Well K (commitP M n s L).M (j + 3) := by
  unfold commitP
  split
  · exact well_more h (by omega)
  · split
    · exact well_more h (by omega)
    · exact well_commitA h n _ hx
theorem well_reset {K : Nat} {M : MD} {j : Nat} (h : Well K M j) (n : Nat) (s : Bool) : Well K (resetP M n s).M (j + 1) := by
  unfold resetP
  split
  · exact well_more h (by omega)
  · exact well_cut h logK 0

theorem endOf_nil : endOf [] = 0 := by
  unfold endOf
  rw [scn_of scans_nil]
  simp [frms]
theorem batsOf_nil : batsOf [] = [] := by
  unfold batsOf
  rw [scn_of scans_nil]
  rfl

end Go.Proofs.YthacjeeafnblmaaDoor
