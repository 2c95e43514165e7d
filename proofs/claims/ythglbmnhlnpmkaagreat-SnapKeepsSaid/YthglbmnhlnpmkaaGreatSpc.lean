/- Saves on a disk with no crash and no failure ahead: plain facts. Numbers and types by name. -/
import Derived.Test.YthglbmnhlnpmkaaGreatPr
/- How much may be on a disk as the document says, behind so many calls. Plain facts. Numbers and types by name. -/
namespace Go.Proofs.YthglbmnhlnpmkaaGreat
open Go.RowKit Go.Lib

/-- How much may be on a disk behind j calls, and its files rise. -/
structure Well (K : Nat) (M : MD) (j : Nat) : Prop where
  held : Hold K M j
  up : Rising M.fs
def Keeps (op : Opn) : Prop := ∀ cap fs, Rising fs → Rising (op cap fs).2

theorem keeps_create (k : List UInt8) : Keeps (opCreate k) := by
  intro cap fs h
  unfold opCreate
  split
  · exact h
  · split
    · exact h
    · rename_i hn
      exact insE_rising h (by simpa using hn)
theorem keeps_append (k l : List UInt8) : Keeps (opAppend k l) := by
  intro cap fs h
  unfold opAppend
  split
  · exact h
  · split
    · exact h
    · exact updE_rising (u := fun x => (x.1, x.2.1 ++ l, x.2.2)) (fun _ => rfl) h
theorem keeps_sync (k : List UInt8) : Keeps (opSync k) := by
  intro cap fs h
  unfold opSync
  split
  · exact h
  · exact updE_rising (u := fun x => (x.1, x.2.1, x.2.1.length)) (fun _ => rfl) h
theorem keeps_cut (k : List UInt8) (n : Int) : Keeps (opCut k n) := by
  intro cap fs h
  unfold opCut
  split
  · exact h
  · split
    · exact h
    · exact updE_rising (u := fun x => (x.1, x.2.1.take n.toNat, min x.2.2 n.toNat)) (fun _ => rfl) h

theorem well_act {K : Nat} {M : MD} {j : Nat} (h : Well K M j) {op : Opn} (ho : Adds op K) (hk : Keeps op) : Well K (M.act op).2 (j + 1) := by
  refine ⟨held_act h.held ho h.up, ?_⟩
  unfold MD.act
  split
  · exact h.up
  · split
    · show Rising (if M.dn = true then (op M.cap M.fs).2 else M.fs)
      split
      · exact hk _ _ h.up
      · exact h.up
    · split
      · exact h.up
      · exact hk _ _ h.up
theorem well_more {K : Nat} {M : MD} {i j : Nat} (h : Well K M i) (hj : i ≤ j) : Well K M j := by
  obtain ⟨d, rfl⟩ := Nat.exists_eq_add_of_le hj
  clear hj
  induction d with
  | zero => exact h
  | succ d ih => exact ⟨held_more ih.held, ih.up⟩
/-- How many calls there may be, and how many bytes each may bring. -/
structure Room (K J : Nat) : Prop where
  all : J * K ≤ 7200000
  calls : J ≤ 100000
theorem well_tot {K J : Nat} (hR : Room K J) {M : MD} {j : Nat} (h : Well K M j) (hj : j ≤ J) : tot M.fs ≤ 7200000 :=
  Nat.le_trans h.held.tot (Nat.le_trans (Nat.mul_le_mul_right K hj) hR.all)
theorem well_lim {K J : Nat} (hR : Room K J) {M : MD} {j : Nat} (h : Well K M j) (hj : j ≤ J) : Lim M := by
  have h1 := h.held.n
  have h3 := h.held.len
  have h4 := h.held.fail
  have h5 := h.held.keep
  have h6 := hR.calls
  have h7 := well_tot hR h hj
  exact ⟨by omega, ⟨by omega, by omega⟩, by omega, by omega⟩
theorem well_read {K J : Nat} (hR : Room K J) {M : MD} {j : Nat} (h : Well K M j) (hj : j ≤ J) (k : List UInt8) : (M.read k).1.length ≤ 7200000 := by
  have h1 := well_tot hR h hj
  unfold MD.read
  split
  · simp
  · split
    · simp
    · rename_i x hx
      have := tot_mem (find_memE hx).1
      show x.2.1.length ≤ _
      omega
theorem mread_none {M : MD} {k : List UInt8} (h : (M.read k).2 = 3) : (M.read k).1 = [] := by
  unfold MD.read at *
  split
  · rfl
  · rename_i hd
    rw [if_neg hd] at h
    split
    · rfl
    · rename_i x hx
      rw [hx] at h
      cases h
theorem mread_bad {M : MD} {k : List UInt8} (h : (M.read k).2 ≠ 0) : (M.read k).1 = [] := by
  unfold MD.read at *
  split
  · rfl
  · rename_i hd
    rw [if_neg hd] at h
    split
    · rfl
    · rename_i x hx
      rw [hx] at h
      exact absurd rfl h

theorem well_create {K : Nat} {M : MD} {j : Nat} (h : Well K M j) (k : List UInt8) : Well K (M.act (opCreate k)).2 (j + 1) := well_act h (adds_create K k) (keeps_create k)
theorem well_append {K : Nat} {M : MD} {j : Nat} (h : Well K M j) (k l : List UInt8) (hl : l.length ≤ K) : Well K (M.act (opAppend k l)).2 (j + 1) := well_act h (adds_append K k l hl) (keeps_append k l)
theorem well_sync {K : Nat} {M : MD} {j : Nat} (h : Well K M j) (k : List UInt8) : Well K (M.act (opSync k)).2 (j + 1) := well_act h (adds_sync K k) (keeps_sync k)
theorem well_cut {K : Nat} {M : MD} {j : Nat} (h : Well K M j) (k : List UInt8) (n : Int) : Well K (M.act (opCut k n)).2 (j + 1) := well_act h (adds_cut K k n) (keeps_cut k n)
theorem keeps_remove (k : List UInt8) : Keeps (opRemove k) := by
  intro cap fs h
  unfold opRemove
  split
  · exact h
  · exact woE_rising h
theorem keeps_rename (k j : List UInt8) : Keeps (opRename k j) := by
  intro cap fs h
  unfold opRename
  split
  · exact h
  · split
    · exact h
    · split
      · exact h
      · refine insE_rising (woE_rising (woE_rising h)) ?_
        show (woE j (woE k fs)).any (isName j) = false
        rw [woE_any, if_pos rfl]

end Go.Proofs.YthglbmnhlnpmkaaGreat

/- A snapshot on a disk as the document says: what Save and Load make of it. Plain facts. Numbers and types by name. -/
namespace Go.Proofs.YthglbmnhlnpmkaaGreat
open Go.RowKit Go.Lib

def tmpK : List UInt8 := [116, 109, 112]
def snapK : List UInt8 := [115, 110, 97, 112]
def tmpS : ByteArray := ⟨#[116, 109, 112]⟩
def snapS : ByteArray := ⟨#[115, 110, 97, 112]⟩
theorem tmpS_list : tmpS.data.toList = tmpK := rfl
theorem snapS_list : snapS.data.toList = snapK := rfl
theorem tmp_snap : tmpK ≠ snapK := by decide

/-- Calls one after the other, till one fails. -/
def runOps : List Opn → MD → Int × MD
  | [], M => (0, M)
  | op :: l, M => if (M.act op).1 = 0 then runOps l (M.act op).2 else M.act op
/-- Save's calls. -/
def saveOps (fs : List Ent) (x : List UInt8) : List Opn :=
  (if fs.any (isName tmpK) = true then [opRemove tmpK] else []) ++ [opCreate tmpK, opAppend tmpK x, opSync tmpK, opRename tmpK snapK]
def saveP (M : MD) (x : List UInt8) : Int × MD := runOps (saveOps M.fs x) M
/-- Load's bytes and error. -/
def loadP (M : MD) : List UInt8 × Int := M.read snapK

theorem runOps_one (op : Opn) (l : List Opn) (M : MD) : runOps (op :: l) M = if (M.act op).1 = 0 then runOps l (M.act op).2 else M.act op := rfl

/-- A file that is all synced. -/
def Sure (fs : List Ent) (k b : List UInt8) : Prop := fs.find? (isName k) = some (k, b, b.length)

theorem find_iff {fs : List Ent} (h : Rising fs) (k : List UInt8) (x : Ent) : fs.find? (isName k) = some x ↔ x ∈ fs ∧ x.1 = k := find_key k fs h.nodup x
theorem sure_iff {fs : List Ent} (h : Rising fs) {k b : List UInt8} : Sure fs k b ↔ (k, b, b.length) ∈ fs := by
  unfold Sure
  rw [find_iff h]
  exact ⟨fun h => h.1, fun h => ⟨h, rfl⟩⟩

/-- What another name's call leaves. -/
theorem find_insE {fs : List Ent} (h : Rising fs) {x : Ent} (hx : fs.any (isName x.1) = false) {k : List UInt8} (hk : x.1 ≠ k) : (insE x fs).find? (isName k) = fs.find? (isName k) := by
  apply Option.ext
  intro y
  rw [find_iff (insE_rising h hx), find_iff h, (insE_perm x fs).mem_iff]
  constructor
  · rintro ⟨hm, hy⟩
    rcases List.mem_cons.1 hm with rfl | hm
    · exact absurd hy hk
    · exact ⟨hm, hy⟩
  · rintro ⟨hm, hy⟩
    exact ⟨List.mem_cons_of_mem _ hm, hy⟩
theorem find_insE_self {fs : List Ent} (h : Rising fs) {x : Ent} (hx : fs.any (isName x.1) = false) : (insE x fs).find? (isName x.1) = some x := by
  rw [find_iff (insE_rising h hx), (insE_perm x fs).mem_iff]
  exact ⟨by simp, rfl⟩
theorem find_woE {fs : List Ent} (h : Rising fs) {j k : List UInt8} (hk : j ≠ k) : (woE j fs).find? (isName k) = fs.find? (isName k) := by
  apply Option.ext
  intro y
  rw [find_iff (woE_rising h), find_iff h]
  unfold woE
  rw [List.mem_filter]
  constructor
  · rintro ⟨⟨hm, _⟩, hy⟩
    exact ⟨hm, hy⟩
  · rintro ⟨hm, hy⟩
    refine ⟨⟨hm, ?_⟩, hy⟩
    have : ¬ isName j y = true := fun e => hk ((isName_iff.1 e).symm.trans hy)
    simpa using this
theorem find_upd_self {k : List UInt8} {u : Ent → Ent} (hu : ∀ x, (u x).1 = x.1) (fs : List Ent) : (updE k u fs).find? (isName k) = (fs.find? (isName k)).map u := by
  induction fs with
  | nil => rfl
  | cons y l ih =>
    have e : updE k u (y :: l) = (if isName k y = true then u y else y) :: updE k u l := by simp [updE]
    rw [e]
    by_cases hy : isName k y = true
    · have hu' : isName k (u y) = true := by rw [isName_iff, hu]; exact isName_iff.1 hy
      rw [if_pos hy, List.find?_cons_of_pos hu', List.find?_cons_of_pos hy]
      rfl
    · rw [if_neg hy, List.find?_cons_of_neg hy, List.find?_cons_of_neg hy, ih]
theorem find_upd_ne {j k : List UInt8} {u : Ent → Ent} (hu : ∀ x, (u x).1 = x.1) (hk : j ≠ k) (fs : List Ent) : (updE j u fs).find? (isName k) = fs.find? (isName k) := by
  induction fs with
  | nil => rfl
  | cons y l ih =>
    have e : updE j u (y :: l) = (if isName j y = true then u y else y) :: updE j u l := by simp [updE]
    rw [e]
    by_cases hy : isName j y = true
    · have h1 : ¬ isName k y = true := fun h => hk ((isName_iff.1 hy).symm.trans (isName_iff.1 h))
      have h2 : ¬ isName k (u y) = true := fun h => hk ((isName_iff.1 hy).symm.trans ((hu y).symm.trans (isName_iff.1 h)))
      rw [if_pos hy, List.find?_cons_of_neg h2, List.find?_cons_of_neg h1, ih]
    · rw [if_neg hy]
      by_cases h1 : isName k y = true
      · rw [List.find?_cons_of_pos h1, List.find?_cons_of_pos h1]
      · rw [List.find?_cons_of_neg h1, List.find?_cons_of_neg h1, ih]

/-- What a writing call may do to a disk that is up. -/
theorem act_ways {M : MD} (hd : M.dw = false) (op : Opn) :
    ((M.act op).1 = 7 ∧ (M.act op).2.dw = true ∧ ((M.act op).2.fs = M.fs ∨ (M.act op).2.fs = (op M.cap M.fs).2)) ∨
    ((M.act op).1 = 6 ∧ (M.act op).2.dw = false ∧ (M.act op).2.fs = M.fs) ∨
    ((M.act op).1 = (op M.cap M.fs).1 ∧ (M.act op).2.dw = false ∧ (M.act op).2.fs = (op M.cap M.fs).2) := by
  unfold MD.act
  rw [if_neg (by simp [hd])]
  by_cases h1 : M.n + 1 = M.cr
  · rw [if_pos h1]
    refine .inl ⟨rfl, rfl, ?_⟩
    show (if M.dn = true then _ else _) = _ ∨ (if M.dn = true then _ else _) = _
    split
    · exact .inr rfl
    · exact .inl rfl
  · rw [if_neg h1]
    by_cases h2 : M.fail.contains (M.n + 1) = true
    · rw [if_pos h2]
      exact .inr (.inl ⟨rfl, hd, rfl⟩)
    · rw [if_neg h2]
      exact .inr (.inr ⟨rfl, hd, rfl⟩)
theorem act_down {M : MD} (hd : M.dw = true) (op : Opn) : M.act op = (7, M) := by
  unfold MD.act
  rw [if_pos hd]

/-- The first four kinds of call leave the snapshot's file. -/
def Spares (op : Opn) : Prop := ∀ cap fs, Rising fs → (op cap fs).2.find? (isName snapK) = fs.find? (isName snapK)
theorem spares_remove : Spares (opRemove tmpK) := fun cap fs h => by
  unfold opRemove
  split
  · rfl
  · exact find_woE h tmp_snap
theorem spares_create : Spares (opCreate tmpK) := fun cap fs h => by
  unfold opCreate
  rw [if_neg (by decide)]
  split
  · rfl
  · rename_i hn
    exact find_insE h (by simpa using hn) tmp_snap
theorem spares_append (x : List UInt8) : Spares (opAppend tmpK x) := fun cap fs h => by
  unfold opAppend
  split
  · rfl
  · split
    · rfl
    · exact find_upd_ne (u := fun y => (y.1, y.2.1 ++ x, y.2.2)) (fun _ => rfl) tmp_snap fs
theorem spares_sync : Spares (opSync tmpK) := fun cap fs h => by
  unfold opSync
  split
  · rfl
  · exact find_upd_ne (u := fun y => (y.1, y.2.1, y.2.1.length)) (fun _ => rfl) tmp_snap fs
theorem act_rising {M : MD} {op : Opn} (hk : Keeps op) (h : Rising M.fs) : Rising (M.act op).2.fs := by
  cases hd : M.dw with
  | true => rw [act_down hd]; exact h
  | false =>
    rcases act_ways hd op with ⟨_, _, h1 | h1⟩ | ⟨_, _, h1⟩ | ⟨_, _, h1⟩ <;> rw [h1]
    · exact h
    · exact hk _ _ h
    · exact h
    · exact hk _ _ h
theorem act_spares {M : MD} {op : Opn} (hs : Spares op) (h : Rising M.fs) : (M.act op).2.fs.find? (isName snapK) = M.fs.find? (isName snapK) := by
  cases hd : M.dw with
  | true => rw [act_down hd]
  | false =>
    rcases act_ways hd op with ⟨_, _, h1 | h1⟩ | ⟨_, _, h1⟩ | ⟨_, _, h1⟩ <;> rw [h1]
    · exact hs _ _ h
    · exact hs _ _ h

/-- The file tmp with all of x, synced. -/
def Full (M : MD) (x : List UInt8) : Prop := M.dw = false ∧ M.fs.find? (isName tmpK) = some (tmpK, x, x.length)

theorem act_ok {M : MD} {op : Opn} (h0 : (M.act op).1 = 0) : M.dw = false ∧ (M.act op).2.dw = false ∧ (op M.cap M.fs).1 = 0 ∧ (M.act op).2.fs = (op M.cap M.fs).2 := by
  cases hd : M.dw with
  | true => rw [act_down hd] at h0; cases h0
  | false =>
    rcases act_ways hd op with ⟨h1, _⟩ | ⟨h1, _⟩ | ⟨h1, h2, h3⟩
    · rw [h0] at h1; cases h1
    · rw [h0] at h1; cases h1
    · exact ⟨rfl, h2, h1.symm.trans h0, h3⟩

/-- Rename of a full tmp: the snapshot is the old one, or the new one, and the new one where it told OK. -/
theorem rename_ways {M : MD} {x : List UInt8} (h : Full M x) (hr : Rising M.fs) :
    (((M.act (opRename tmpK snapK)).2.fs.find? (isName snapK) = M.fs.find? (isName snapK)) ∨ Sure (M.act (opRename tmpK snapK)).2.fs snapK x) ∧ ((M.act (opRename tmpK snapK)).1 = 0 → Sure (M.act (opRename tmpK snapK)).2.fs snapK x) := by
  obtain ⟨hd, hf⟩ := h
  have key : (opRename tmpK snapK M.cap M.fs).1 = 0 ∧ Sure (opRename tmpK snapK M.cap M.fs).2 snapK x := by
    unfold opRename
    rw [hf]
    simp only
    rw [if_neg (by decide), if_neg (by decide)]
    exact ⟨rfl, find_insE_self (x := (snapK, x, x.length)) (woE_rising (woE_rising hr)) (by rw [woE_any, if_pos rfl])⟩
  rcases act_ways hd (opRename tmpK snapK) with ⟨h1, _, h2 | h2⟩ | ⟨h1, _, h2⟩ | ⟨h1, _, h2⟩
  · exact ⟨.inl (by rw [h2]), fun h0 => by rw [h1] at h0; cases h0⟩
  · exact ⟨.inr (by rw [h2]; exact key.2), fun h0 => by rw [h1] at h0; cases h0⟩
  · exact ⟨.inl (by rw [h2]), fun h0 => by rw [h1] at h0; cases h0⟩
  · exact ⟨.inr (by rw [h2]; exact key.2), fun _ => by rw [h2]; exact key.2⟩

/-- Behind Create, Append, Sync that told OK tmp is full. -/
theorem full_of {M : MD} {x : List UInt8} (hr : Rising M.fs) (h1 : (M.act (opCreate tmpK)).1 = 0) (h2 : ((M.act (opCreate tmpK)).2.act (opAppend tmpK x)).1 = 0) (h3 : (((M.act (opCreate tmpK)).2.act (opAppend tmpK x)).2.act (opSync tmpK)).1 = 0) :
    Full (((M.act (opCreate tmpK)).2.act (opAppend tmpK x)).2.act (opSync tmpK)).2 x := by
  obtain ⟨_, _, a3, a4⟩ := act_ok h1
  obtain ⟨_, _, b3, b4⟩ := act_ok h2
  obtain ⟨_, c2, c3, c4⟩ := act_ok h3
  have e1 : (M.act (opCreate tmpK)).2.fs.find? (isName tmpK) = some (tmpK, [], 0) := by
    rw [a4]
    unfold opCreate at a3 ⊢
    rw [if_neg (by decide)] at a3 ⊢
    by_cases hn : M.fs.any (isName tmpK) = true
    · rw [if_pos hn] at a3; cases a3
    · rw [if_neg hn]
      exact find_insE_self (x := (tmpK, [], 0)) hr (by simpa using hn)
  have e2 : ((M.act (opCreate tmpK)).2.act (opAppend tmpK x)).2.fs.find? (isName tmpK) = some (tmpK, x, 0) := by
    rw [b4]
    unfold opAppend at b3 ⊢
    rw [e1] at b3 ⊢
    simp only at b3 ⊢
    split at b3
    · cases b3
    · rename_i hc
      rw [if_neg hc]
      simp only
      rw [find_upd_self (u := fun y => (y.1, y.2.1 ++ x, y.2.2)) (fun _ => rfl), e1]
      simp
  refine ⟨c2, ?_⟩
  rw [c4]
  unfold opSync
  rw [e2]
  simp only
  rw [find_upd_self (u := fun y => (y.1, y.2.1, y.2.1.length)) (fun _ => rfl), e2]
  rfl

/-- Save: the snapshot is the old one, or the new one, and the new one where it told OK. -/
theorem save_keeps {M : MD} {x : List UInt8} (hr : Rising M.fs) :
    ((saveP M x).2.fs.find? (isName snapK) = M.fs.find? (isName snapK) ∨ Sure (saveP M x).2.fs snapK x) ∧ ((saveP M x).1 = 0 → Sure (saveP M x).2.fs snapK x) ∧ Rising (saveP M x).2.fs := by
  have tail : ∀ N : MD, Rising N.fs →
      ((runOps [opCreate tmpK, opAppend tmpK x, opSync tmpK, opRename tmpK snapK] N).2.fs.find? (isName snapK) = N.fs.find? (isName snapK) ∨ Sure (runOps [opCreate tmpK, opAppend tmpK x, opSync tmpK, opRename tmpK snapK] N).2.fs snapK x) ∧
      ((runOps [opCreate tmpK, opAppend tmpK x, opSync tmpK, opRename tmpK snapK] N).1 = 0 → Sure (runOps [opCreate tmpK, opAppend tmpK x, opSync tmpK, opRename tmpK snapK] N).2.fs snapK x) ∧ Rising (runOps [opCreate tmpK, opAppend tmpK x, opSync tmpK, opRename tmpK snapK] N).2.fs := by
    intro N hN
    have r1 := act_rising (keeps_create tmpK) hN
    have s1 := act_spares spares_create hN
    rw [runOps_one]
    by_cases h1 : (N.act (opCreate tmpK)).1 = 0
    case neg => rw [if_neg h1]; exact ⟨.inl s1, fun h => absurd h h1, r1⟩
    rw [if_pos h1, runOps_one]
    have r2 := act_rising (keeps_append tmpK x) r1
    have s2 := act_spares (spares_append x) r1
    by_cases h2 : ((N.act (opCreate tmpK)).2.act (opAppend tmpK x)).1 = 0
    case neg => rw [if_neg h2]; exact ⟨.inl (s2.trans s1), fun h => absurd h h2, r2⟩
    rw [if_pos h2, runOps_one]
    have r3 := act_rising (keeps_sync tmpK) r2
    have s3 := act_spares spares_sync r2
    by_cases h3 : (((N.act (opCreate tmpK)).2.act (opAppend tmpK x)).2.act (opSync tmpK)).1 = 0
    case neg => rw [if_neg h3]; exact ⟨.inl (s3.trans (s2.trans s1)), fun h => absurd h h3, r3⟩
    rw [if_pos h3, runOps_one]
    have hfull := full_of hN h1 h2 h3
    have hw := rename_ways hfull r3
    have r4 := act_rising (keeps_rename tmpK snapK) r3
    have e : (if ((((N.act (opCreate tmpK)).2.act (opAppend tmpK x)).2.act (opSync tmpK)).2.act (opRename tmpK snapK)).1 = 0 then runOps [] ((((N.act (opCreate tmpK)).2.act (opAppend tmpK x)).2.act (opSync tmpK)).2.act (opRename tmpK snapK)).2 else (((N.act (opCreate tmpK)).2.act (opAppend tmpK x)).2.act (opSync tmpK)).2.act (opRename tmpK snapK)) = (((N.act (opCreate tmpK)).2.act (opAppend tmpK x)).2.act (opSync tmpK)).2.act (opRename tmpK snapK) := by
      split
      · rename_i h; exact Prod.ext h.symm rfl
      · rfl
    rw [e]
    exact ⟨hw.1.imp (fun h => h.trans (s3.trans (s2.trans s1))) id, hw.2, r4⟩
  unfold saveP saveOps
  by_cases ht : M.fs.any (isName tmpK) = true
  · rw [if_pos ht, List.singleton_append, runOps_one]
    have r0 := act_rising (keeps_remove tmpK) hr
    have s0 := act_spares spares_remove hr
    by_cases h0 : (M.act (opRemove tmpK)).1 = 0
    · rw [if_pos h0]
      obtain ⟨t1, t2, t3⟩ := tail _ r0
      exact ⟨t1.imp (fun h => h.trans s0) id, t2, t3⟩
    · rw [if_neg h0]
      exact ⟨.inl s0, fun h => absurd h h0, r0⟩
  · rw [if_neg ht, List.nil_append]
    exact tail M hr

/-- Behind a restart what was synced is there, whole. -/
theorem sure_restart {M : MD} {k b : List UInt8} (hr : Rising M.fs) (h : Sure M.fs k b) (cap cr : Int) (dn : Bool) (fl kp : List Int) : Sure (M.restart cap cr dn fl kp).fs k b ∧ Rising (M.restart cap cr dn fl kp).fs := by
  have hrs : Rising (resE M.keep M.fs M.fs.length) := rising_of_names (by rw [resE_names]; exact hr.names)
  refine ⟨?_, hrs⟩
  show Sure (resE M.keep M.fs M.fs.length) k b
  rw [sure_iff hrs]
  rw [sure_iff hr] at h
  obtain ⟨i, hi, he⟩ := List.getElem_of_mem h
  refine List.mem_iff_getElem.2 ⟨i, by unfold resE; simpa using hi, ?_⟩
  unfold resE
  rw [List.getElem_mapIdx, if_pos hi, he]
  unfold survE
  simp

end Go.Proofs.YthglbmnhlnpmkaaGreat

namespace Go.Proofs.YthglbmnhlnpmkaaGreat
open Go.RowKit Go.Lib

/-- No crash and no failure ahead. -/
structure Still8 (M : MD) : Prop where
  dw : M.dw = false
  cr : M.cr ≤ M.n
  fail : M.fail = []

theorem Still8.act {M : MD} (h : Still8 M) (op : Opn) : M.act op = ((op M.cap M.fs).1, { M with n := M.n + 1, fs := (op M.cap M.fs).2 }) := by
  unfold MD.act
  rw [if_neg (by simp [h.dw]), if_neg (by have := h.cr; omega), if_neg (by rw [h.fail]; simp)]
theorem Still8.next {M : MD} (h : Still8 M) (fs : List Ent) : Still8 { M with n := M.n + 1, fs := fs } := ⟨h.dw, by have := h.cr; show M.cr ≤ M.n + 1; omega, h.fail⟩

theorem name_t : isName tmpK ((tmpK, ([] : List UInt8), 0) : Ent) = true := by decide
theorem tmp_not_snap (b : List UInt8) (s : Nat) : isName tmpK ((snapK, b, s) : Ent) = false := rfl
theorem snap_not_tmp (b : List UInt8) (s : Nat) : isName snapK ((tmpK, b, s) : Ent) = false := rfl
theorem tmp_is (b : List UInt8) (s : Nat) : isName tmpK ((tmpK, b, s) : Ent) = true := rfl
theorem snap_is (b : List UInt8) (s : Nat) : isName snapK ((snapK, b, s) : Ent) = true := rfl

/-- The four calls on a disk that has, besides tmp, the files of fs (none of them tmp): what is left. -/
theorem four_calls {M : MD} (h : Still8 M) {pre : List Ent} (hp : pre = [] ∨ ∃ b s, pre = [(snapK, b, s)]) (hfs : M.fs = pre) (x : List UInt8) (hc : ¬ M.cap < (tot pre : Int) + x.length) :
    runOps [opCreate tmpK, opAppend tmpK x, opSync tmpK, opRename tmpK snapK] M = (0, { M with n := M.n + 1 + 1 + 1 + 1, fs := [(snapK, x, x.length)] }) := by
  have c1 : opCreate tmpK M.cap pre = (0, pre ++ [(tmpK, [], 0)]) := by
    unfold opCreate
    rcases hp with rfl | ⟨b, s, rfl⟩
    · rfl
    · rw [if_neg (by decide), if_neg (by simp [tmp_not_snap])]
      rfl
  have ht : tot (pre ++ [(tmpK, ([] : List UInt8), 0)]) = tot pre := by rw [tot_append]; simp [tot]
  have c2 : opAppend tmpK x M.cap (pre ++ [(tmpK, [], 0)]) = (0, pre ++ [(tmpK, x, 0)]) := by
    unfold opAppend
    rcases hp with rfl | ⟨b, s, rfl⟩
    · simp only [List.nil_append, List.find?_cons, tmp_is] at *
      rw [if_neg (by rw [ht]; exact hc)]
      simp [updE, tmp_is]
    · simp only [List.singleton_append, List.find?_cons, tmp_is, tmp_not_snap] at *
      rw [if_neg (by rw [ht]; exact hc)]
      simp [updE, tmp_is, tmp_not_snap]
  have c3 : opSync tmpK M.cap (pre ++ [(tmpK, x, 0)]) = (0, pre ++ [(tmpK, x, x.length)]) := by
    unfold opSync
    rcases hp with rfl | ⟨b, s, rfl⟩
    · simp [tmp_is, updE]
    · simp [tmp_is, tmp_not_snap, updE]
  have c4 : opRename tmpK snapK M.cap (pre ++ [(tmpK, x, x.length)]) = (0, [(snapK, x, x.length)]) := by
    unfold opRename
    rcases hp with rfl | ⟨b, s, rfl⟩
    · simp only [List.nil_append, List.find?_cons, tmp_is]
      rw [if_neg (by decide), if_neg (by decide)]
      simp [woE, tmp_is, insE]
    · simp only [List.singleton_append, List.find?_cons, tmp_is, tmp_not_snap]
      rw [if_neg (by decide), if_neg (by decide)]
      simp [woE, tmp_is, tmp_not_snap, snap_is, insE]
  have s1 := h.next (pre ++ [(tmpK, [], 0)])
  have s2 := s1.next (pre ++ [(tmpK, x, 0)])
  have s3 := s2.next (pre ++ [(tmpK, x, x.length)])
  have a1 : M.act (opCreate tmpK) = (0, { M with n := M.n + 1, fs := pre ++ [(tmpK, [], 0)] }) := by rw [h.act, hfs, c1]
  have a2 : ({ M with n := M.n + 1, fs := pre ++ [(tmpK, [], 0)] } : MD).act (opAppend tmpK x) = (0, { M with n := M.n + 1 + 1, fs := pre ++ [(tmpK, x, 0)] }) := by rw [s1.act]; simp only; rw [c2]
  have a3 : ({ M with n := M.n + 1 + 1, fs := pre ++ [(tmpK, x, 0)] } : MD).act (opSync tmpK) = (0, { M with n := M.n + 1 + 1 + 1, fs := pre ++ [(tmpK, x, x.length)] }) := by rw [s2.act]; simp only; rw [c3]
  have a4 : ({ M with n := M.n + 1 + 1 + 1, fs := pre ++ [(tmpK, x, x.length)] } : MD).act (opRename tmpK snapK) = (0, { M with n := M.n + 1 + 1 + 1 + 1, fs := [(snapK, x, x.length)] }) := by rw [s3.act]; simp only; rw [c4]
  rw [runOps_one, a1, if_pos rfl, runOps_one, a2, if_pos rfl, runOps_one, a3, if_pos rfl, runOps_one, a4, if_pos rfl]
  rfl

/-- A save beside the old snapshot, or none, where there is room for both. -/
theorem save_fits {M : MD} (h : Still8 M) {pre : List Ent} (hp : pre = [] ∨ ∃ b s, pre = [(snapK, b, s)]) (hfs : M.fs = pre) (x : List UInt8) (hc : ¬ M.cap < (tot pre : Int) + x.length) :
    saveP M x = (0, { M with n := M.n + 1 + 1 + 1 + 1, fs := [(snapK, x, x.length)] }) := by
  unfold saveP saveOps
  have hn : M.fs.any (isName tmpK) = false := by
    rw [hfs]
    rcases hp with rfl | ⟨b, s, rfl⟩
    · rfl
    · simp [tmp_not_snap]
  rw [if_neg (by simp [hn]), List.nil_append]
  exact four_calls h hp hfs x hc
/-- And where there is none: tmp is left, empty. -/
theorem save_full {M : MD} (h : Still8 M) {b : List UInt8} {s : Nat} (hfs : M.fs = [(snapK, b, s)]) (x : List UInt8) (hc : M.cap < (b.length : Int) + x.length) :
    saveP M x = (5, { M with n := M.n + 1 + 1, fs := [(snapK, b, s), (tmpK, [], 0)] }) := by
  unfold saveP saveOps
  rw [if_neg (by rw [hfs]; simp [tmp_not_snap]), List.nil_append]
  have c1 : opCreate tmpK M.cap [(snapK, b, s)] = (0, [(snapK, b, s), (tmpK, [], 0)]) := by
    unfold opCreate
    rw [if_neg (by decide), if_neg (by simp [tmp_not_snap])]
    rfl
  have c2 : opAppend tmpK x M.cap [(snapK, b, s), (tmpK, [], 0)] = (5, [(snapK, b, s), (tmpK, [], 0)]) := by
    unfold opAppend
    simp only [List.find?_cons, tmp_is, tmp_not_snap]
    rw [if_pos (by simp only [tot, List.map_cons, List.map_nil, List.sum_cons, List.sum_nil, List.length_nil]; omega)]
  have s1 := h.next [(snapK, b, s), (tmpK, [], 0)]
  have a1 : M.act (opCreate tmpK) = (0, { M with n := M.n + 1, fs := [(snapK, b, s), (tmpK, [], 0)] }) := by rw [h.act, hfs, c1]
  have a2 : ({ M with n := M.n + 1, fs := [(snapK, b, s), (tmpK, [], 0)] } : MD).act (opAppend tmpK x) = (5, { M with n := M.n + 1 + 1, fs := [(snapK, b, s), (tmpK, [], 0)] }) := by rw [s1.act]; simp only; rw [c2]
  rw [runOps_one, a1, if_pos rfl, runOps_one, a2, if_neg (by show ¬ (5 : Int) = 0; decide)]
/-- A save where a tmp was left. -/
theorem save_again {M : MD} (h : Still8 M) {b : List UInt8} {s : Nat} (hfs : M.fs = [(snapK, b, s), (tmpK, [], 0)]) (x : List UInt8) (hc : ¬ M.cap < (b.length : Int) + x.length) :
    saveP M x = (0, { M with n := M.n + 1 + 1 + 1 + 1 + 1, fs := [(snapK, x, x.length)] }) := by
  unfold saveP saveOps
  rw [if_pos (by rw [hfs]; simp [tmp_is]), List.singleton_append]
  have c0 : opRemove tmpK M.cap [(snapK, b, s), (tmpK, [], 0)] = (0, [(snapK, b, s)]) := by
    unfold opRemove
    simp [tmp_is, tmp_not_snap, woE]
  have a0 : M.act (opRemove tmpK) = (0, { M with n := M.n + 1, fs := [(snapK, b, s)] }) := by rw [h.act, hfs, c0]
  rw [runOps_one, a0, if_pos rfl]
  exact four_calls (h.next _) (.inr ⟨b, s, rfl⟩) rfl x (by show ¬ M.cap < _; simpa [tot] using hc)
/-- What is left is there behind a restart. -/
theorem restart_two {M : MD} {b : List UInt8} (hfs : M.fs = [(snapK, b, b.length), (tmpK, [], 0)]) (cap : Int) : (M.restart cap 0 false [] []).fs = [(snapK, b, b.length), (tmpK, [], 0)] ∧ Still8 (M.restart cap 0 false [] []) := by
  refine ⟨?_, rfl, Int.le_refl _, rfl⟩
  show resE M.keep M.fs M.fs.length = _
  rw [hfs]
  unfold resE
  simp [survE]
theorem load_snap {M : MD} (hd : M.dw = false) {b : List UInt8} {s : Nat} (hf : M.fs.find? (isName snapK) = some (snapK, b, s)) : loadP M = (b, 0) := by
  unfold loadP MD.read
  rw [if_neg (by simp [hd]), hf]

end Go.Proofs.YthglbmnhlnpmkaaGreat
