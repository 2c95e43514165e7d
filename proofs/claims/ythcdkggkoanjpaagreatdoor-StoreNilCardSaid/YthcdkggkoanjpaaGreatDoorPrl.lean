/- Lists of pairs that are read. Numbers and types by name. -/
import Derived.Test.YthcdkggkoanjpaaGreatDoorWel
import Derived.Test.YthcdkggkoanjpaaGreatDoorBel
/- A snapshot on a disk as the document says: what Save and Load make of it. Plain facts. Numbers and types by name. -/
namespace Go.Proofs.YthcdkggkoanjpaaGreatDoor
open Go.RowKit Go.Lib
def tmpK : List UInt8 := [116, 109, 112]
def snapK : List UInt8 := [115, 110, 97, 112]
def tmpS : ByteArray := ⟨#[116, 109, 112]⟩
def snapS : ByteArray := ⟨#[115, 110, 97, 112]⟩
theorem tmpS_list : tmpS.data.toList = tmpK := rfl
theorem snapS_list : snapS.data.toList = snapK := rfl
theorem tmp_snap : tmpK ≠ snapK := by decide
def runOps : List Opn → MD → Int × MD
  | [], M => (0, M)
  | op :: l, M => if (M.act op).1 = 0 then runOps l (M.act op).2 else M.act op
def saveOps (fs : List Ent) (x : List UInt8) : List Opn :=
  (if fs.any (isName tmpK) = true then [opRemove tmpK] else []) ++ [opCreate tmpK, opAppend tmpK x, opSync tmpK, opRename tmpK snapK]
def saveP (M : MD) (x : List UInt8) : Int × MD := runOps (saveOps M.fs x) M
def loadP (M : MD) : List UInt8 × Int := M.read snapK
theorem runOps_one (op : Opn) (l : List Opn) (M : MD) : runOps (op :: l) M = if (M.act op).1 = 0 then runOps l (M.act op).2 else M.act op := rfl
def Sure (fs : List Ent) (k b : List UInt8) : Prop := fs.find? (isName k) = some (k, b, b.length)
theorem find_iff {fs : List Ent} (h : Rising fs) (k : List UInt8) (x : Ent) : fs.find? (isName k) = some x ↔ x ∈ fs ∧ x.1 = k := find_key k fs h.nodup x
theorem sure_iff {fs : List Ent} (h : Rising fs) {k b : List UInt8} : Sure fs k b ↔ (k, b, b.length) ∈ fs := by
  unfold Sure
  rw [find_iff h]
  exact ⟨fun h => h.1, fun h => ⟨h, rfl⟩⟩
theorem find_insE {fs : List Ent} (h : Rising fs) {x : Ent} (hx : fs.any (isName x.1) = false) {k : List UInt8} (hk : x.1 ≠ k) : (insE x fs).find? (isName k) = fs.find? (isName k) := by
  apply Option.ext
  intro y
  rw [find_iff (insE_rising h hx), find_iff h, (insE_perm x fs).mem_iff]
  constructor
  · rintro ⟨hm, hy⟩
    rcases List.mem_cons.1 hm with rfl | hm
    · exact absurd hy hk
    · exact ⟨hm, hy⟩
  · rintro ⟨hm, hy⟩
    exact ⟨List.mem_cons_of_mem _ hm, hy⟩
theorem find_insE_self {fs : List Ent} (h : Rising fs) {x : Ent} (hx : fs.any (isName x.1) = false) : (insE x fs).find? (isName x.1) = some x := by
  rw [find_iff (insE_rising h hx), (insE_perm x fs).mem_iff]
  exact ⟨by simp, rfl⟩
theorem find_woE {fs : List Ent} (h : Rising fs) {j k : List UInt8} (hk : j ≠ k) : (woE j fs).find? (isName k) = fs.find? (isName k) := by
  apply Option.ext
  intro y
  rw [find_iff (woE_rising h), find_iff h]
  unfold woE
  rw [List.mem_filter]
  constructor
  · rintro ⟨⟨hm, _⟩, hy⟩
    exact ⟨hm, hy⟩
  · rintro ⟨hm, hy⟩
    refine ⟨⟨hm, ?_⟩, hy⟩
    have : ¬ isName j y = true := fun e => hk ((isName_iff.1 e).symm.trans hy)
    simpa using this
theorem find_upd_self {k : List UInt8} {u : Ent → Ent} (hu : ∀ x, (u x).1 = x.1) (fs : List Ent) : (updE k u fs).find? (isName k) = (fs.find? (isName k)).map u := by
  induction fs with
  | nil => rfl
  | cons y l ih =>
    have e : updE k u (y :: l) = (if isName k y = true then u y else y) :: updE k u l := by simp [updE]
    rw [e]
    by_cases hy : isName k y = true
    · have hu' : isName k (u y) = true := by rw [isName_iff, hu]; exact isName_iff.1 hy
      rw [if_pos hy, List.find?_cons_of_pos hu', List.find?_cons_of_pos hy]
      rfl
    · rw [if_neg hy, List.find?_cons_of_neg hy, List.find?_cons_of_neg hy, ih]
theorem find_upd_ne {j k : List UInt8} {u : Ent → Ent} (hu : ∀ x, (u x).1 = x.1) (hk : j ≠ k) (fs : List Ent) : (updE j u fs).find? (isName k) = fs.find? (isName k) := by
  induction fs with
  | nil => rfl
  | cons y l ih =>
    have e : updE j u (y :: l) = (if isName j y = true then u y else y) :: updE j u l := by simp [updE]
    rw [e]
    by_cases hy : isName j y = true
    · have h1 : ¬ isName k y = true := fun h => hk ((isName_iff.1 hy).symm.trans (isName_iff.1 h))
      have h2 : ¬ isName k (u y) = true := fun h => hk ((isName_iff.1 hy).symm.trans ((hu y).symm.trans (isName_iff.1 h)))
      rw [if_pos hy, List.find?_cons_of_neg h2, List.find?_cons_of_neg h1, ih]
    · rw [if_neg hy]
      by_cases h1 : isName k y = true
      · rw [List.find?_cons_of_pos h1, List.find?_cons_of_pos h1]
      · rw [List.find?_cons_of_neg h1, List.find?_cons_of_neg h1, ih]
theorem act_ways {M : MD} (hd : M.dw = false) (op : Opn) :
    ((M.act op).1 = 7 ∧ (M.act op).2.dw = true ∧ ((M.act op).2.fs = M.fs ∨ (M.act op).2.fs = (op M.cap M.fs).2)) ∨
    ((M.act op).1 = 6 ∧ (M.act op).2.dw = false ∧ (M.act op).2.fs = M.fs) ∨
    ((M.act op).1 = (op M.cap M.fs).1 ∧ (M.act op).2.dw = false ∧ (M.act op).2.fs = (op M.cap M.fs).2) := by
  unfold MD.act
  rw [if_neg (by simp [hd])]
  by_cases h1 : M.n + 1 = M.cr
  · rw [if_pos h1]
    refine .inl ⟨rfl, rfl, ?_⟩
    show (if M.dn = true then _ else _) = _ ∨ (if M.dn = true then _ else _) = _
    split
    · exact .inr rfl
    · exact .inl rfl
  · rw [if_neg h1]
    by_cases h2 : M.fail.contains (M.n + 1) = true
    · rw [if_pos h2]
      exact .inr (.inl ⟨rfl, hd, rfl⟩)
    · rw [if_neg h2]
      exact .inr (.inr ⟨rfl, hd, rfl⟩)
theorem act_down {M : MD} (hd : M.dw = true) (op : Opn) : M.act op = (7, M) := by
  unfold MD.act
  rw [if_pos hd]
def Spares (op : Opn) : Prop := ∀ cap fs, Rising fs → (op cap fs).2.find? (isName snapK) = fs.find? (isName snapK)
theorem spares_remove : Spares (opRemove tmpK) := fun cap fs h => by
  unfold opRemove
  split
  · rfl
  · exact find_woE h tmp_snap
theorem spares_create : Spares (opCreate tmpK) := fun cap fs h => by
  unfold opCreate
  rw [if_neg (by decide)]
  split
  · rfl
  · rename_i hn
    exact find_insE h (by simpa using hn) tmp_snap
theorem spares_append (x : List UInt8) : Spares (opAppend tmpK x) := fun cap fs h => by
  unfold opAppend
  split
  · rfl
  · split
    · rfl
    · exact find_upd_ne (u := fun y => (y.1, y.2.1 ++ x, y.2.2)) (fun _ => rfl) tmp_snap fs
theorem spares_sync : Spares (opSync tmpK) := fun cap fs h => by
  unfold opSync
  split
  · rfl
  · exact find_upd_ne (u := fun y => (y.1, y.2.1, y.2.1.length)) (fun _ => rfl) tmp_snap fs
theorem act_rising {M : MD} {op : Opn} (hk : Keeps op) (h : Rising M.fs) : Rising (M.act op).2.fs := by
  cases hd : M.dw with
  | true => rw [act_down hd]; exact h
  | false =>
    rcases act_ways hd op with ⟨_, _, h1 | h1⟩ | ⟨_, _, h1⟩ | ⟨_, _, h1⟩ <;> rw [h1]
    · exact h
    · exact hk _ _ h
    · exact h
    · exact hk _ _ h
theorem act_spares {M : MD} {op : Opn} (hs : Spares op) (h : Rising M.fs) : (M.act op).2.fs.find? (isName snapK) = M.fs.find? (isName snapK) := by
  cases hd : M.dw with
  | true => rw [act_down hd]
  | false =>
    rcases act_ways hd op with ⟨_, _, h1 | h1⟩ | ⟨_, _, h1⟩ | ⟨_, _, h1⟩ <;> rw [h1]
    · exact hs _ _ h
    · exact hs _ _ h
def Full (M : MD) (x : List UInt8) : Prop := M.dw = false ∧ M.fs.find? (isName tmpK) = some (tmpK, x, x.length)
theorem act_ok {M : MD} {op : Opn} (h0 : (M.act op).1 = 0) : M.dw = false ∧ (M.act op).2.dw = false ∧ (op M.cap M.fs).1 = 0 ∧ (M.act op).2.fs = (op M.cap M.fs).2 := by
  cases hd : M.dw with
  | true => rw [act_down hd] at h0; cases h0
  | false =>
    rcases act_ways hd op with ⟨h1, _⟩ | ⟨h1, _⟩ | ⟨h1, h2, h3⟩
    · rw [h0] at h1; cases h1
    · rw [h0] at h1; cases h1
    · exact ⟨rfl, h2, h1.symm.trans h0, h3⟩
theorem rename_ways {M : MD} {x : List UInt8} (h : Full M x) (hr : Rising M.fs) :
    (((M.act (opRename tmpK snapK)).2.fs.find? (isName snapK) = M.fs.find? (isName snapK)) ∨ Sure (M.act (opRename tmpK snapK)).2.fs snapK x) ∧ ((M.act (opRename tmpK snapK)).1 = 0 → Sure (M.act (opRename tmpK snapK)).2.fs snapK x) := by
  obtain ⟨hd, hf⟩ := h
  have key : (opRename tmpK snapK M.cap M.fs).1 = 0 ∧ Sure (opRename tmpK snapK M.cap M.fs).2 snapK x := by
    unfold opRename
    rw [hf]
    simp only
    rw [if_neg (by decide), if_neg (by decide)]
    exact ⟨rfl, find_insE_self (x := (snapK, x, x.length)) (woE_rising (woE_rising hr)) (by rw [woE_any, if_pos rfl])⟩
  rcases act_ways hd (opRename tmpK snapK) with ⟨h1, _, h2 | h2⟩ | ⟨h1, _, h2⟩ | ⟨h1, _, h2⟩
  · exact ⟨.inl (by rw [h2]), fun h0 => by rw [h1] at h0; cases h0⟩
  · exact ⟨.inr (by rw [h2]; exact key.2), fun h0 => by rw [h1] at h0; cases h0⟩
  · exact ⟨.inl (by rw [h2]), fun h0 => by rw [h1] at h0; cases h0⟩
  · exact ⟨.inr (by rw [h2]; exact key.2), fun _ => by rw [h2]; exact key.2⟩
theorem full_of {M : MD} {x : List UInt8} (hr : Rising M.fs) (h1 : (M.act (opCreate tmpK)).1 = 0) (h2 : ((M.act (opCreate tmpK)).2.act (opAppend tmpK x)).1 = 0) (h3 : (((M.act (opCreate tmpK)).2.act (opAppend tmpK x)).2.act (opSync tmpK)).1 = 0) :
    Full (((M.act (opCreate tmpK)).2.act (opAppend tmpK x)).2.act (opSync tmpK)).2 x := by
  obtain ⟨_, _, a3, a4⟩ := act_ok h1
  obtain ⟨_, _, b3, b4⟩ := act_ok h2
  obtain ⟨_, c2, c3, c4⟩ := act_ok h3
  have e1 : (M.act (opCreate tmpK)).2.fs.find? (isName tmpK) = some (tmpK, [], 0) := by
    rw [a4]
    unfold opCreate at a3 ⊢
    rw [if_neg (by decide)] at a3 ⊢
    by_cases hn : M.fs.any (isName tmpK) = true
    · rw [if_pos hn] at a3; cases a3
    · rw [if_neg hn]
      exact find_insE_self (x := (tmpK, [], 0)) hr (by simpa using hn)
  have e2 : ((M.act (opCreate tmpK)).2.act (opAppend tmpK x)).2.fs.find? (isName tmpK) = some (tmpK, x, 0) := by
    rw [b4]
    unfold opAppend at b3 ⊢
    rw [e1] at b3 ⊢
    simp only at b3 ⊢
    split at b3
    · cases b3
    · rename_i hc
      rw [if_neg hc]
      simp only
      rw [find_upd_self (u := fun y => (y.1, y.2.1 ++ x, y.2.2)) (fun _ => rfl), e1]
      simp
  refine ⟨c2, ?_⟩
  rw [c4]
  unfold opSync
  rw [e2]
  simp only
  rw [find_upd_self (u := fun y => (y.1, y.2.1, y.2.1.length)) (fun _ => rfl), e2]
  rfl
theorem save_keeps {M : MD} {x : List UInt8} (hr : Rising M.fs) :
    ((saveP M x).2.fs.find? (isName snapK) = M.fs.find? (isName snapK) ∨ Sure (saveP M x).2.fs snapK x) ∧ ((saveP M x).1 = 0 → Sure (saveP M x).2.fs snapK x) ∧ Rising (saveP M x).2.fs := by
  have tail : ∀ N : MD, Rising N.fs →
      ((runOps [opCreate tmpK, opAppend tmpK x, opSync tmpK, opRename tmpK snapK] N).2.fs.find? (isName snapK) = N.fs.find? (isName snapK) ∨ Sure (runOps [opCreate tmpK, opAppend tmpK x, opSync tmpK, opRename tmpK snapK] N).2.fs snapK x) ∧
      ((runOps [opCreate tmpK, opAppend tmpK x, opSync tmpK, opRename tmpK snapK] N).1 = 0 → Sure (runOps [opCreate tmpK, opAppend tmpK x, opSync tmpK, opRename tmpK snapK] N).2.fs snapK x) ∧ Rising (runOps [opCreate tmpK, opAppend tmpK x, opSync tmpK, opRename tmpK snapK] N).2.fs := by
    intro N hN
    have r1 := act_rising (keeps_create tmpK) hN
    have s1 := act_spares spares_create hN
    rw [runOps_one]
    by_cases h1 : (N.act (opCreate tmpK)).1 = 0
    case neg => rw [if_neg h1]; exact ⟨.inl s1, fun h => absurd h h1, r1⟩
    rw [if_pos h1, runOps_one]
    have r2 := act_rising (keeps_append tmpK x) r1
    have s2 := act_spares (spares_append x) r1
    by_cases h2 : ((N.act (opCreate tmpK)).2.act (opAppend tmpK x)).1 = 0
    case neg => rw [if_neg h2]; exact ⟨.inl (s2.trans s1), fun h => absurd h h2, r2⟩
    rw [if_pos h2, runOps_one]
    have r3 := act_rising (keeps_sync tmpK) r2
    have s3 := act_spares spares_sync r2
    by_cases h3 : (((N.act (opCreate tmpK)).2.act (opAppend tmpK x)).2.act (opSync tmpK)).1 = 0
    case neg => rw [if_neg h3]; exact ⟨.inl (s3.trans (s2.trans s1)), fun h => absurd h h3, r3⟩
    rw [if_pos h3, runOps_one]
    have hfull := full_of hN h1 h2 h3
    have hw := rename_ways hfull r3
    have r4 := act_rising (keeps_rename tmpK snapK) r3
    have e : (if ((((N.act (opCreate tmpK)).2.act (opAppend tmpK x)).2.act (opSync tmpK)).2.act (opRename tmpK snapK)).1 = 0 then runOps [] ((((N.act (opCreate tmpK)).2.act (opAppend tmpK x)).2.act (opSync tmpK)).2.act (opRename tmpK snapK)).2 else (((N.act (opCreate tmpK)).2.act (opAppend tmpK x)).2.act (opSync tmpK)).2.act (opRename tmpK snapK)) = (((N.act (opCreate tmpK)).2.act (opAppend tmpK x)).2.act (opSync tmpK)).2.act (opRename tmpK snapK) := by
      split
      · rename_i h; exact Prod.ext h.symm rfl
      · rfl
    rw [e]
    exact ⟨hw.1.imp (fun h => h.trans (s3.trans (s2.trans s1))) id, hw.2, r4⟩
  unfold saveP saveOps
  by_cases ht : M.fs.any (isName tmpK) = true
  · rw [if_pos ht, List.singleton_append, runOps_one]
    have r0 := act_rising (keeps_remove tmpK) hr
    have s0 := act_spares spares_remove hr
    by_cases h0 : (M.act (opRemove tmpK)).1 = 0
    · rw [if_pos h0]
      obtain ⟨t1, t2, t3⟩ := tail _ r0
      exact ⟨t1.imp (fun h => h.trans s0) id, t2, t3⟩
    · rw [if_neg h0]
      exact ⟨.inl s0, fun h => absurd h h0, r0⟩
  · rw [if_neg ht, List.nil_append]
    exact tail M hr
theorem sure_restart {M : MD} {k b : List UInt8} (hr : Rising M.fs) (h : Sure M.fs k b) (cap cr : Int) (dn : Bool) (fl kp : List Int) : Sure (M.restart cap cr dn fl kp).fs k b ∧ Rising (M.restart cap cr dn fl kp).fs := by
  have hrs : Rising (resE M.keep M.fs M.fs.length) := rising_of_names (by rw [resE_names]; exact hr.names)
  refine ⟨?_, hrs⟩
  show Sure (resE M.keep M.fs M.fs.length) k b
  rw [sure_iff hrs]
  rw [sure_iff hr] at h
  obtain ⟨i, hi, he⟩ := List.getElem_of_mem h
  refine List.mem_iff_getElem.2 ⟨i, by unfold resE; simpa using hi, ?_⟩
  unfold resE
  rw [List.getElem_mapIdx, if_pos hi, he]
  unfold survE
  simp
end Go.Proofs.YthcdkggkoanjpaaGreatDoor

/- How much may be on a disk behind saves: plain facts. Numbers and types by name. -/
namespace Go.Proofs.YthcdkggkoanjpaaGreatDoor
open Go.RowKit Go.Lib
theorem well_run {K : Nat} : ∀ (ops : List Opn) (M : MD) (j : Nat), Well K M j → (∀ op ∈ ops, Adds op K ∧ Keeps op) → Well K (runOps ops M).2 (j + ops.length)
  | [], M, j, h, _ => h
  | op :: l, M, j, h, ho => by
    rw [runOps_one]
    have h1 := well_act h (ho op (by simp)).1 (ho op (by simp)).2
    split
    · have := well_run l _ (j + 1) h1 fun o hm => ho o (List.mem_cons_of_mem _ hm)
      rw [List.length_cons, show j + (l.length + 1) = j + 1 + l.length by omega]
      exact this
    · exact well_more h1 (by rw [List.length_cons]; omega)
theorem saveOps_all {K : Nat} (fs : List Ent) {x : List UInt8} (hx : x.length ≤ K) : ∀ op ∈ saveOps fs x, Adds op K ∧ Keeps op := by
  intro op hm
  unfold saveOps at hm
  rcases List.mem_append.1 hm with h | h
  · split at h
    · rw [List.mem_singleton.1 h]; exact ⟨adds_remove K tmpK, keeps_remove tmpK⟩
    · cases h
  · simp only [List.mem_cons, List.not_mem_nil, or_false] at h
    rcases h with rfl | rfl | rfl | rfl
    · exact ⟨adds_create K tmpK, keeps_create tmpK⟩
    · exact ⟨adds_append K tmpK x hx, keeps_append tmpK x⟩
    · exact ⟨adds_sync K tmpK, keeps_sync tmpK⟩
    · exact ⟨adds_rename K tmpK snapK, keeps_rename tmpK snapK⟩
theorem saveOps_length (fs : List Ent) (x : List UInt8) : (saveOps fs x).length ≤ 5 := by
  unfold saveOps
  split <;> simp
theorem well_save {K : Nat} {M : MD} {j : Nat} (h : Well K M j) {x : List UInt8} (hx : x.length ≤ K) : Well K (saveP M x).2 (j + 5) := by
  have h1 := well_run (saveOps M.fs x) M j h (saveOps_all M.fs hx)
  have h2 := saveOps_length M.fs x
  exact well_more h1 (by omega)
end Go.Proofs.YthcdkggkoanjpaaGreatDoor

namespace Go.Proofs.YthcdkggkoanjpaaGreatDoor
open Go.RowKit Go.Lib
structure Prm where
  key : ByteArray
  val : ByteArray
  deriving DecidableEq
def pv (o : Prm) : List Value := [.string o.key, .string o.val]
def pvs (L : List Prm) : List Value := L.flatMap pv
theorem pvs_length (L : List Prm) : (pvs L).length = L.length * 2 := by
  induction L with
  | nil => rfl
  | cons o L ih => simp only [pvs, List.flatMap_cons, List.length_append, List.length_cons] at *; rw [ih]; simp [pv]; omega
theorem pvs_at {L : List Prm} {k : Nat} {o : Prm} (h : L[k]? = some o) (j : Nat) (hj : j < 2) : (pvs L)[k * 2 + j]? = (pv o)[j]? := by
  induction L generalizing k with
  | nil => cases h
  | cons p L ih =>
    have e : pvs (p :: L) = pv p ++ pvs L := by simp [pvs]
    cases k with
    | zero =>
      simp only [List.getElem?_cons_zero, Option.some.injEq] at h
      subst h
      rw [e, Nat.zero_mul, Nat.zero_add, List.getElem?_append_left (by simp [pv]; omega)]
    | succ k =>
      rw [List.getElem?_cons_succ] at h
      rw [e, List.getElem?_append_right (by simp [pv]; omega), ← ih h]
      congr 1
      simp [pv]; omega
def Prr (w : World) (v : Value) (n : Nat) (L : List Prm) : Prop := n = L.length ∧ n ≤ maxLen ∧ Cells w v 2 n (pvs L) ∧ ∀ o ∈ L, o.key.size ≤ maxLen ∧ o.val.size ≤ maxLen
theorem Prr.shape {w : World} {v : Value} {n : Nat} {L : List Prm} (h : Prr w v n L) : ∃ ao c, v = .slice ao n c := by
  obtain ⟨_, _, ⟨ao, c, rfl, _⟩, _⟩ := h
  exact ⟨ao, c, rfl⟩
theorem Prr.later {w w' : World} {v : Value} {n : Nat} {L : List Prm} (h : Prr w v n L) (hg : Grow w w') : Prr w' v n L := ⟨h.1, h.2.1, h.2.2.1.later hg, h.2.2.2⟩
theorem Prr.nil (w : World) : Prr w (.slice none 0 0) 0 [] := ⟨rfl, Nat.zero_le _, ⟨none, 0, rfl, rfl, Nat.le_refl _, fun _ => ⟨rfl, rfl⟩, fun a h => by cases h⟩, fun o h => by cases h⟩
theorem Prr.at {w : World} {ao : Option Addr} {n c : Nat} {L : List Prm} (h : Prr w (.slice ao n c) n L) {k : Nat} (hk : k < n) :
    ∃ a o, ao = some a ∧ L[k]? = some o ∧ w.cell? (a.add (k * 2)) = some (.string o.key) ∧ w.cell? ⟨(a.add (k * 2)).block, (a.add (k * 2)).off + 1, none⟩ = some (.string o.val) ∧ o.key.size ≤ maxLen ∧ o.val.size ≤ maxLen := by
  obtain ⟨h1, h2, ⟨ao', c', e, h0, hnc, hn, hc⟩, hs⟩ := h
  simp only [Value.slice.injEq] at e
  obtain ⟨rfl, _, rfl⟩ := e
  have hx : L[k]? = some (L[k]'(by omega)) := List.getElem?_eq_getElem (by omega)
  generalize L[k]'(by omega) = o at hx
  cases ao with
  | none => have := (hn rfl).1; omega
  | some a =>
    have hm := hs o (List.mem_of_getElem? hx)
    refine ⟨a, o, rfl, hx, ?_, ?_, hm.1, hm.2⟩
    · exact hc a rfl (k * 2) _ (by have := pvs_at hx 0 (by omega); rw [Nat.add_zero] at this; rw [this]; rfl)
    · have := hc a rfl _ _ (show (pvs L)[k * 2 + 1]? = some (.string o.val) by rw [pvs_at hx 1 (by omega)]; rfl)
      rw [← Addr.add_add] at this
      exact this
def kOf (o : Prm) : List UInt8 := o.key.toList
def Rise (L : List Prm) : Prop := L.Pairwise fun a b => kOf a < kOf b
instance riseDec (L : List Prm) : Decidable (Rise L) := by unfold Rise; infer_instance
theorem rise_steps {L : List Prm} (h : ∀ j a b, L[j]? = some a → L[j + 1]? = some b → kOf a < kOf b) : Rise L := by
  unfold Rise
  induction L with
  | nil => exact List.Pairwise.nil
  | cons x L ih =>
    have hL := ih fun j a b h1 h2 => h (j + 1) a b (by simpa using h1) (by simpa using h2)
    refine List.Pairwise.cons (fun y hy => ?_) hL
    cases L with
    | nil => cases hy
    | cons z L =>
      have h0 := h 0 x z rfl rfl
      rcases List.mem_cons.1 hy with rfl | hy
      · exact h0
      · exact List.lt_trans h0 ((List.pairwise_cons.1 hL).1 y hy)
theorem rise_next {L : List Prm} (h : Rise L) {j : Nat} {a b : Prm} (ha : L[j]? = some a) (hb : L[j + 1]? = some b) : kOf a < kOf b := by
  obtain ⟨h1, e1⟩ := List.getElem?_eq_some_iff.1 ha
  obtain ⟨h2, e2⟩ := List.getElem?_eq_some_iff.1 hb
  have := List.pairwise_iff_getElem.1 h j (j + 1) h1 h2 (by omega)
  rw [e1, e2] at this
  exact this
def SameP (ps qs : List Prm) (w : World) (e : Ending) (w' : World) : Prop := ∃ k, e = .returned (.bool (decide (ps = qs))) ∧ w' = w.drewN k
theorem same_pairs (v1 v2 : Value) (n m : Nat) (ps qs : List Prm) (w : World) (h1 : Prr w v1 n ps) (h2 : Prr w v2 m qs) :
    Calls Tryz.prog 25 #[v1, v2] w (SameP ps qs w) := by
  obtain ⟨a1, c1, rfl⟩ := h1.shape
  obtain ⟨a2, c2, rfl⟩ := h2.shape
  have H1 := Lib.hid h1
  have H2 := Lib.hid h2
  have hm := h1.2.1
  unfold maxLen at hm
  clear h1 h2
  by_cases hne : n = m
  · subst hne
    go_enter Tryz.func25, Tryz.ntmps25
    go_wp2_with fail
    go_loopw [5] (fun i wr => ∃ k q : Nat, k ≤ n ∧ i = .int .i64 k ∧ wr = w.drewN q ∧ Hid (ps.take k = qs.take k))
      (fun i _ => n - (intOf i).toNat)
    case atStart => exact ⟨0, 0, Nat.zero_le _, rfl, rfl, Lib.hid rfl⟩
    case round =>
      obtain ⟨k, q, hk, rfl, hw, hs⟩ := hrel
      by_cases h1 : k < n
      · have h3 : (k : Int) < (n : Int) := by omega
        have R1 : Prr wr (.slice a1 n c1) n ps := by rw [hw]; exact H1.out
        have R2 : Prr wr (.slice a2 n c2) n qs := by rw [hw]; exact H2.out
        obtain ⟨x1, o1, rfl, e1, ca0, ca1, _, _⟩ := R1.at h1
        obtain ⟨x2, o2, rfl, e2, cb0, cb1, _, _⟩ := R2.at h1
        have HW := Lib.hid (And.intro hw (And.intro e1 e2))
        clear hw e1 e2 R1 R2
        obtain ⟨k1, v1⟩ := o1
        obtain ⟨k2, v2⟩ := o2
        simp only at ca0 ca1 cb0 cb1
        by_cases heq : k1.toList = k2.toList ∧ v1.toList = v2.toList
        · obtain ⟨hk2, hv2⟩ := heq
          obtain rfl := text_inj' hk2
          obtain rfl := text_inj' hv2
          have HN : Hid (ps.take (k + 1) = qs.take (k + 1)) := Lib.hid (by rw [take_next HW.out.2.1, take_next HW.out.2.2, hs.out])
          clear hk2 hv2
          go_wp2_with fail
          go_quiet (fail)
          go_wp2
          exact ⟨⟨k + 1, q + nq, by omega, by simp, by rw [HW.out.1, World.drewN_drewN], HN⟩, by simp [intOf]; omega⟩
        · have HN : Hid (ps ≠ qs) := Lib.hid (by
            rintro rfl
            have e := HW.out.2.1.symm.trans HW.out.2.2
            simp only [Option.some.injEq, Prm.mk.injEq] at e
            exact heq ⟨by rw [e.1], by rw [e.2]⟩)
          have hcase : (¬ k1.toList = k2.toList) ∨ (k1.toList = k2.toList ∧ ¬ v1.toList = v2.toList) := by
            by_cases x2 : k1.toList = k2.toList
            · exact .inr ⟨x2, fun x3 => heq ⟨x2, x3⟩⟩
            · exact .inl x2
          clear heq
          rcases hcase with x2 | ⟨x2, x3⟩
          · go_wp2_with fail
            go_quiet (fail)
            go_wp2
            go_ret
            exact ⟨q + nq, by rw [decide_eq_false HN.out]; rfl, by rw [HW.out.1, World.drewN_drewN]⟩
          · go_wp2_with fail
            go_quiet (fail)
            go_wp2
            go_ret
            exact ⟨q + nq, by rw [decide_eq_false HN.out]; rfl, by rw [HW.out.1, World.drewN_drewN]⟩
      · have h3 : ¬ (k : Int) < (n : Int) := by omega
        obtain rfl : k = n := by omega
        have HW := Lib.hid hw
        clear hw
        go_wp2_with fail
        go_ret
        have h5 := hs.out
        rw [List.take_of_length_le (by have := H1.out.1; omega), List.take_of_length_le (by have := H2.out.1; omega)] at h5
        exact ⟨q, by rw [decide_eq_true h5]; rfl, HW.out⟩
  · have h3 : ¬ (n : Int) = (m : Int) := by omega
    have h4 : ((n : Int) != (m : Int)) = true := by simpa using h3
    go_enter Tryz.func25, Tryz.ntmps25
    go_wp2_with fail
    go_ret
    refine ⟨0, ?_, rfl⟩
    rw [decide_eq_false]
    · rfl
    intro h; exact absurd (by have := H1.out.1; have := H2.out.1; rw [h] at *; omega) hne
end Go.Proofs.YthcdkggkoanjpaaGreatDoor
