/- A disk as the document says: its files by rising names, and what each call makes of them. Plain facts. Numbers and types by name. -/
import Derived.Test.YthacjeeafnblmaaGreatDoorAp4
import Derived.Test.YthacjeeafnblmaaGreatDoorBe4
import Derived.Sort.KeysCollected
/- The closures of the writing calls, each way; the methods over what write does. Numbers and types by name. -/
namespace Go.Proofs.YthacjeeafnblmaaGreatDoor
open Go.RowKit Go.Maps Go.Sort Go.WideMaps

/-- Create over what write does. -/
theorem create_via (b : Nat) (name : ByteArray) (w : World) (R : Int → World → Prop)
    (hw : ∀ W, W = (w.alloc (.cells #[theDisk b] 27)).alloc (.cells #[.string name] 9) →
      Calls Tryz.prog 57 #[theDisk b, .func (.func 58) #[] #[.pointer (some ⟨w.heap.size + 1, 0, none⟩), .pointer (some ⟨w.heap.size, 0, none⟩)]] W (Left R)) :
    Calls Tryz.prog 28 #[theDisk b, .string name] w (Left R) := by
  have hmf := hmf
  unfold theDisk at hw
  unfold theDisk
  go_enter Tryz.func28, Tryz.ntmps28
  go_wp2_with fail
  refine (hw _ rfl).mono ?_
  rintro e w' ⟨k, rfl, hk⟩
  have HK := Lib.hid hk
  clear hk hw
  go_wp2
  go_ret
  exact ⟨k, rfl, HK.out⟩

/-- What lies in memory when the closure of Create runs. -/
theorem create_boxes {w w1 : World} {b : Nat} {name : ByteArray} (t1 : Turn [b] ((w.alloc (.cells #[theDisk b] 27)).alloc (.cells #[.string name] 9)) w1) (hbl : b < w.heap.size) :
    w1.cell? ⟨w.heap.size, 0, none⟩ = some (theDisk b) ∧ w1.cell? ⟨w.heap.size + 1, 0, none⟩ = some (.string name) ∧ w.heap.size ≤ w1.heap.size := by
  refine ⟨?_, ?_, ?_⟩
  · have h0 : ((w.alloc (.cells #[theDisk b] 27)).alloc (.cells #[.string name] 9)).heap[w.heap.size]? = some (.cells #[theDisk b] 27 (0, 0)) := by
      rw [Below.heap_alloc _ _ _ (by simp)]; exact heap_alloc_new _ _
    exact cells_of (t1.heap h0 (by simp; omega)) 0 _ rfl
  · have h0 : ((w.alloc (.cells #[theDisk b] 27)).alloc (.cells #[.string name] 9)).heap[w.heap.size + 1]? = some (.cells #[.string name] 9 (0, 0)) := by
      have := heap_alloc_new (w.alloc (.cells #[theDisk b] 27)) (.cells #[.string name] 9)
      simpa using this
    exact cells_of (t1.heap h0 (by simp; omega)) 0 _ rfl
  · have := t1.size; simp at this; omega

/-- Read of a disk that is down. -/
theorem read_down (base b : Nat) (S : DM) (s : DS) (name : Value) (w : World) (hR : Rep w base b S s) (hdw : S.dw = true) :
    Calls Tryz.prog 32 #[theDisk b, name] w fun e w' => e = .returned (.tuple #[.slice none 0 0, .int .i64 7]) ∧ w = w' := by
  have c8 := hR.disk.c8
  rw [hR.dw, hdw] at c8
  clear hR
  unfold theDisk
  go_enter Tryz.func32, Tryz.ntmps32
  go_wp2
  go_ret2
  exact ⟨rfl, rfl⟩

theorem down_rep (base b : Nat) (S : DM) (s : DS) (w : World) (hR : Rep w base b S s) :
    Calls Tryz.prog 50 #[theDisk b] w fun e w' => e = .returned (.bool S.dw) ∧ w = w' := by
  have c8 := hR.disk.c8
  rw [hR.dw] at c8
  clear hR
  unfold theDisk
  go_enter Tryz.func50, Tryz.ntmps50
  go_wp2
  go_ret
  exact ⟨rfl, rfl⟩

/-- A file that is not there. -/
theorem read_none (base b : Nat) (S : DM) (s : DS) (name : ByteArray) (w : World) (hR : Rep w base b S s) (hdw : S.dw = false) (hf : S.files.find? (named name.data.toList) = none) (hl : name.size ≤ maxLen) :
    Calls Tryz.prog 32 #[theDisk b, .string name] w fun e w' => e = .returned (.tuple #[.slice none 0 0, .int .i64 3]) ∧ w = w' := by
  have c8 := hR.disk.c8
  rw [hR.dw, hdw] at c8
  have c5 := hR.disk.c5
  have hlk : (Instr.lookup 69 s.fs (.string name) false).run Tryz.prog w = .ok (.pointer none) w := by
    rw [hR.look name hl]; simp [ptrOf, hf]
  clear hR hdw hf hl
  unfold theDisk
  go_enter Tryz.func32, Tryz.ntmps32
  go_wp2
  go_ret2
  exact ⟨rfl, rfl⟩

/-- Append over what write does. -/
theorem append_via (b : Nat) (name : ByteArray) (aob : Option Addr) (nb cb : Nat) (w : World) (R : Int → World → Prop)
    (hw : ∀ W, W = ((w.alloc (.cells #[theDisk b] 27)).alloc (.cells #[.string name] 9)).alloc (.cells #[.slice aob nb cb] 24) →
      Calls Tryz.prog 57 #[theDisk b, .func (.func 60) #[] #[.pointer (some ⟨w.heap.size, 0, none⟩), .pointer (some ⟨w.heap.size + 1, 0, none⟩), .pointer (some ⟨w.heap.size + 1 + 1, 0, none⟩)]] W (Left R)) :
    Calls Tryz.prog 29 #[theDisk b, .string name, .slice aob nb cb] w (Left R) := by
  have hmf := hmf
  unfold theDisk at hw
  unfold theDisk
  go_enter Tryz.func29, Tryz.ntmps29
  go_wp2_with fail
  refine (hw _ rfl).mono ?_
  rintro e w' ⟨k, rfl, hk⟩
  have HK := Lib.hid hk
  clear hk hw
  go_wp2
  go_ret
  exact ⟨k, rfl, HK.out⟩

/-- Append's closure where there is no such file. -/
theorem append_clo_none (pd pn pb base b : Nat) (S : DM) (s : DS) (name : ByteArray) (vb : Value) (w : World) (hR : Rep w base b S s)
    (hd : w.cell? ⟨pd, 0, none⟩ = some (theDisk b)) (hn : w.cell? ⟨pn, 0, none⟩ = some (.string name)) (_hb : w.cell? ⟨pb, 0, none⟩ = some vb)
    (hf : S.files.find? (named name.data.toList) = none) (hl : name.size ≤ maxLen) :
    Calls Tryz.prog 60 #[.pointer (some ⟨pd, 0, none⟩), .pointer (some ⟨pn, 0, none⟩), .pointer (some ⟨pb, 0, none⟩)] w (Left fun k w' => k = 3 ∧ Turn [] w w') := by
  have hlk : ∀ n, (Instr.lookup 69 s.fs (.string name) false).run Tryz.prog (w.drewN n) = .ok (.pointer none) (w.drewN n) := by
    intro n
    have := (hR.new ((Turn.refl [] w).drewN n)).look name hl
    rw [this]; simp [ptrOf, hf]
  have c5 := hR.disk.c5
  unfold theDisk at hd
  clear hR hf hl
  go_enter Tryz.func60, Tryz.ntmps60
  go_wp2
  go_quiet (fail)
  go_wp2
  go_ret
  exact ⟨3, rfl, rfl, (Turn.refl [] w).drewN _⟩

/-- Append's closure where there is no room. -/
theorem append_clo_full (pd pn pb base b : Nat) (S : DM) (s : DS) (name : ByteArray) (aob : Option Addr) (nb cb : Nat) (f : FM) (w : World) (hR : Rep w base b S s)
    (hd : w.cell? ⟨pd, 0, none⟩ = some (theDisk b)) (hn : w.cell? ⟨pn, 0, none⟩ = some (.string name)) (hb : w.cell? ⟨pb, 0, none⟩ = some (.slice aob nb cb))
    (hf : S.files.find? (named name.data.toList) = some f) (hl : name.size ≤ maxLen) (hsz : s.sz = total S.files) (hs1 : total S.files + nb < 1000000000) (hcap : S.cap < (total S.files : Int) + nb) :
    Calls Tryz.prog 60 #[.pointer (some ⟨pd, 0, none⟩), .pointer (some ⟨pn, 0, none⟩), .pointer (some ⟨pb, 0, none⟩)] w (Left fun k w' => k = 5 ∧ Turn [] w w') := by
  have hlk : ∀ n, (Instr.lookup 69 s.fs (.string name) false).run Tryz.prog (w.drewN n) = .ok (.pointer (some ⟨f.blk, 0, none⟩)) (w.drewN n) := by
    intro n
    have := (hR.new ((Turn.refl [] w).drewN n)).look name hl
    rw [this]; simp [ptrOf, hf]
  have c5 := hR.disk.c5
  have c0 := hR.disk.c0
  have c6 := hR.disk.c6
  rw [hR.cap] at c0
  rw [hsz] at c6
  generalize total S.files = T at *
  generalize S.cap = C at *
  have HCAP : decide (C < (T : Int) + (nb : Int)) = true := by simp; omega
  have HC2 : C < (T : Int) + (nb : Int) := hcap
  unfold theDisk at hd
  clear hR hf hl hsz
  go_enter Tryz.func60, Tryz.ntmps60
  go_wp2
  go_quiet (fail)
  go_wp2
  go_quiet (fail)
  go_wp2
  go_ret
  rw [World.drewN_drewN]
  exact ⟨5, rfl, rfl, (Turn.refl [] w).drewN _⟩

end Go.Proofs.YthacjeeafnblmaaGreatDoor

namespace Go.Proofs.YthacjeeafnblmaaGreatDoor
open Go.Sort

/-- A file: its name, its bytes, how many are synced. -/
abbrev Ent := List UInt8 × List UInt8 × Nat
def isName (k : List UInt8) (x : Ent) : Bool := x.1 == k
def tot (fs : List Ent) : Nat := (fs.map fun x => x.2.1.length).sum
def Rising (fs : List Ent) : Prop := fs.Pairwise fun x y => x.1 < y.1

def insE (x : Ent) : List Ent → List Ent
  | [] => [x]
  | y :: l => if y.1 < x.1 then y :: insE x l else x :: y :: l
def updE (k : List UInt8) (u : Ent → Ent) (fs : List Ent) : List Ent := fs.map fun x => if isName k x = true then u x else x
def woE (k : List UInt8) (fs : List Ent) : List Ent := fs.filter fun x => !isName k x

structure MD where
  cap : Int
  cr : Int
  dn : Bool
  fail : List Int
  keep : List Int
  fs : List Ent
  n : Int
  dw : Bool

abbrev Opn := Int → List Ent → Int × List Ent

def opCreate (k : List UInt8) : Opn := fun _ fs => if k = [] then (1, fs) else if fs.any (isName k) = true then (4, fs) else (0, insE (k, [], 0) fs)
def opAppend (k l : List UInt8) : Opn := fun cap fs => match fs.find? (isName k) with
  | none => (3, fs)
  | some _ => if cap < (tot fs : Int) + l.length then (5, fs) else (0, updE k (fun x => (x.1, x.2.1 ++ l, x.2.2)) fs)
def opSync (k : List UInt8) : Opn := fun _ fs => match fs.find? (isName k) with
  | none => (3, fs)
  | some _ => (0, updE k (fun x => (x.1, x.2.1, x.2.1.length)) fs)
def opCut (k : List UInt8) (n : Int) : Opn := fun _ fs => match fs.find? (isName k) with
  | none => (3, fs)
  | some x => if n < 0 ∨ (x.2.1.length : Int) < n then (1, fs) else (0, updE k (fun x => (x.1, x.2.1.take n.toNat, min x.2.2 n.toNat)) fs)
def opRename (k j : List UInt8) : Opn := fun _ fs => match fs.find? (isName k) with
  | none => (3, fs)
  | some x => if j = [] then (1, fs) else if k = j then (0, fs) else (0, insE (j, x.2.1, x.2.2) (woE j (woE k fs)))
def opRemove (k : List UInt8) : Opn := fun _ fs => match fs.find? (isName k) with
  | none => (3, fs)
  | some _ => (0, woE k fs)

/-- A writing call under the plan. -/
def MD.act (M : MD) (op : Opn) : Int × MD :=
  if M.dw = true then (7, M)
  else if M.n + 1 = M.cr then (7, { M with n := M.n + 1, dw := true, fs := if M.dn = true then (op M.cap M.fs).2 else M.fs })
  else if M.fail.contains (M.n + 1) = true then (6, { M with n := M.n + 1 })
  else ((op M.cap M.fs).1, { M with n := M.n + 1, fs := (op M.cap M.fs).2 })

def survE (q : Int) (x : Ent) : Ent := (x.1, x.2.1.take (x.2.2 + min q.toNat (x.2.1.length - x.2.2)), x.2.2 + min q.toNat (x.2.1.length - x.2.2))
/-- Behind the first k files of a restart. -/
def resE (keep : List Int) (fs : List Ent) (k : Nat) : List Ent := fs.mapIdx fun i x => if i < k then survE (keep.getD i 0) x else x
def MD.restart (M : MD) (cap cr : Int) (dn : Bool) (fail keep : List Int) : MD :=
  { cap := cap, cr := cr, dn := dn, fail := fail, keep := keep, fs := resE M.keep M.fs M.fs.length, n := 0, dw := false }

theorem isName_iff {k : List UInt8} {x : Ent} : isName k x = true ↔ x.1 = k := by simp [isName]

theorem insE_perm (x : Ent) (fs : List Ent) : (insE x fs).Perm (x :: fs) := by
  induction fs with
  | nil => exact List.Perm.refl _
  | cons y l ih =>
    unfold insE
    split
    · exact (ih.cons y).trans (List.Perm.swap x y l)
    · exact List.Perm.refl _
theorem insE_length (x : Ent) (fs : List Ent) : (insE x fs).length = fs.length + 1 := by simpa using (insE_perm x fs).length_eq

theorem lt_of_not {a b : List UInt8} (h : ¬ a < b) (hne : a ≠ b) : b < a := by
  by_cases h1 : b < a
  · exact h1
  · exact absurd (List.le_antisymm (List.not_lt.1 h1) (List.not_lt.1 h)) hne

theorem insE_rising {x : Ent} {fs : List Ent} (h : Rising fs) (hx : fs.any (isName x.1) = false) : Rising (insE x fs) := by
  induction fs with
  | nil => exact List.pairwise_singleton _ _
  | cons y l ih =>
    unfold Rising at *
    simp only [List.any_cons, Bool.or_eq_false_iff] at hx
    have hne : y.1 ≠ x.1 := fun e => by have := hx.1; rw [isName_iff.2 e] at this; cases this
    rw [List.pairwise_cons] at h
    unfold insE
    split
    · rename_i hlt
      rw [List.pairwise_cons]
      refine ⟨fun z hz => ?_, ih h.2 hx.2⟩
      rcases List.mem_cons.1 ((insE_perm x l).mem_iff.1 hz) with rfl | hz
      · exact hlt
      · exact h.1 z hz
    · rename_i hlt
      have hxy : x.1 < y.1 := lt_of_not hlt hne
      rw [List.pairwise_cons, List.pairwise_cons]
      refine ⟨fun z hz => ?_, h⟩
      rcases List.mem_cons.1 hz with rfl | hz
      · exact hxy
      · exact List.lt_trans hxy (h.1 z hz)

theorem Rising.names {fs : List Ent} (h : Rising fs) : (fs.map (·.1)).Pairwise (· < ·) := by
  unfold Rising at h
  rw [List.pairwise_map]
  exact h
theorem Rising.nodup {fs : List Ent} (h : Rising fs) : (fs.map (·.1)).Nodup := h.names.imp fun hlt e => by subst e; exact List.lt_irrefl _ hlt
theorem rising_of_names {fs : List Ent} (h : (fs.map (·.1)).Pairwise (· < ·)) : Rising fs := by rwa [List.pairwise_map] at h
theorem updE_names (k : List UInt8) (u : Ent → Ent) (hu : ∀ x, (u x).1 = x.1) (fs : List Ent) : (updE k u fs).map (·.1) = fs.map (·.1) := by
  unfold updE
  rw [List.map_map]
  apply List.map_congr_left
  intro x _
  simp only [Function.comp]
  split
  · exact hu x
  · rfl
theorem updE_rising {k : List UInt8} {u : Ent → Ent} (hu : ∀ x, (u x).1 = x.1) {fs : List Ent} (h : Rising fs) : Rising (updE k u fs) :=
  rising_of_names (by rw [updE_names k u hu]; exact h.names)
theorem woE_rising {k : List UInt8} {fs : List Ent} (h : Rising fs) : Rising (woE k fs) := List.Pairwise.filter _ h
theorem woE_any (k x : List UInt8) (fs : List Ent) : (woE k fs).any (isName x) = if x = k then false else fs.any (isName x) := by
  induction fs with
  | nil => simp [woE]
  | cons y l ih =>
    unfold woE at *
    by_cases hy : isName k y = true
    · rw [List.filter_cons_of_neg (by simp [hy]), ih]
      by_cases hx : x = k
      · simp [hx]
      · have : isName x y = false := by
          cases e : isName x y with
          | false => rfl
          | true => exact absurd ((isName_iff.1 e).symm.trans (isName_iff.1 hy)) hx
        simp [hx, this]
    · rw [List.filter_cons_of_pos (by simp [hy]), List.any_cons, ih]
      by_cases hx : x = k
      · subst hx; simp [hy]
      · simp [hx]

theorem find_key (k : List UInt8) : ∀ (a : List Ent), (a.map (·.1)).Nodup → ∀ x, a.find? (isName k) = some x ↔ x ∈ a ∧ x.1 = k := by
  intro a
  induction a with
  | nil => intro _ x; simp
  | cons y a ih =>
    intro hn x
    simp only [List.map_cons, List.nodup_cons, List.mem_map, not_exists, not_and] at hn
    rw [List.find?_cons]
    by_cases hy : isName k y = true
    · rw [hy]
      simp only [Option.some.injEq, List.mem_cons]
      constructor
      · rintro rfl; exact ⟨.inl rfl, isName_iff.1 hy⟩
      · rintro ⟨rfl | hx, hk⟩
        · rfl
        · exact absurd (hk.trans (isName_iff.1 hy).symm) (hn.1 x hx)
    · have hyf : isName k y = false := by simpa using hy
      rw [hyf]
      simp only []
      rw [ih hn.2 x]
      simp only [List.mem_cons]
      constructor
      · rintro ⟨h1, h2⟩; exact ⟨.inr h1, h2⟩
      · rintro ⟨rfl | h1, h2⟩
        · exact absurd (isName_iff.2 h2) hy
        · exact ⟨h1, h2⟩

/-- Lists that are one but for order, of unlike names, find alike. -/
theorem find_perm {l l' : List Ent} (h : l.Perm l') (hn : (l.map (·.1)).Nodup) (k : List UInt8) : l.find? (isName k) = l'.find? (isName k) := by
  have hn' : (l'.map (·.1)).Nodup := (h.map _).nodup_iff.1 hn
  apply Option.ext
  intro x
  rw [find_key k l hn x, find_key k l' hn' x, h.mem_iff]
theorem find_self {fs : List Ent} (h : Rising fs) {x : Ent} (hx : x ∈ fs) : fs.find? (isName x.1) = some x := (find_key x.1 fs h.nodup x).2 ⟨hx, rfl⟩
theorem any_perm {l l' : List Ent} (h : l.Perm l') (k : List UInt8) : l.any (isName k) = l'.any (isName k) := h.any_eq
theorem tot_perm {l l' : List Ent} (h : l.Perm l') : tot l = tot l' := (h.map _).sum_nat
theorem any_find {fs : List Ent} {k : List UInt8} : fs.any (isName k) = (fs.find? (isName k)).isSome := by
  rw [Bool.eq_iff_iff, List.find?_isSome, List.any_eq_true]

theorem tot_append (a b : List Ent) : tot (a ++ b) = tot a + tot b := by simp [tot]
theorem tot_cons (a : Ent) (b : List Ent) : tot (a :: b) = a.2.1.length + tot b := by simp [tot]
theorem tot_mem {fs : List Ent} {x : Ent} (h : x ∈ fs) : x.2.1.length ≤ tot fs := by
  induction fs with
  | nil => cases h
  | cons a l ih =>
    rw [tot_cons]
    rcases List.mem_cons.1 h with rfl | h
    · omega
    · have := ih h; omega
theorem find_memE {k : List UInt8} {fs : List Ent} {x : Ent} (h : fs.find? (isName k) = some x) : x ∈ fs ∧ x.1 = k :=
  ⟨List.mem_of_find?_eq_some h, isName_iff.1 (List.find?_some h)⟩

/-- What holds of every file, whatever is called. -/
structure Fit (fs : List Ent) : Prop where
  rising : Rising fs
  sy : ∀ x ∈ fs, x.2.2 ≤ x.2.1.length
  name : ∀ x ∈ fs, x.1.length ≤ 1000000

theorem Fit.nil : Fit [] := ⟨List.Pairwise.nil, by simp, by simp⟩
theorem Fit.ins {fs : List Ent} (h : Fit fs) {x : Ent} (hx : fs.any (isName x.1) = false) (h1 : x.2.2 ≤ x.2.1.length) (h2 : x.1.length ≤ 1000000) : Fit (insE x fs) :=
  ⟨insE_rising h.rising hx, fun y hy => by
    rcases List.mem_cons.1 ((insE_perm x fs).mem_iff.1 hy) with rfl | hy
    · exact h1
    · exact h.sy y hy, fun y hy => by
    rcases List.mem_cons.1 ((insE_perm x fs).mem_iff.1 hy) with rfl | hy
    · exact h2
    · exact h.name y hy⟩
theorem Fit.upd {fs : List Ent} (h : Fit fs) (k : List UInt8) {u : Ent → Ent} (hu : ∀ x, (u x).1 = x.1) (hs : ∀ x ∈ fs, isName k x = true → (u x).2.2 ≤ (u x).2.1.length) : Fit (updE k u fs) :=
  ⟨updE_rising hu h.rising, fun y hy => by
    obtain ⟨x, hx, rfl⟩ := List.mem_map.1 hy
    split
    · exact hs x hx (by assumption)
    · exact h.sy x hx, fun y hy => by
    obtain ⟨x, hx, rfl⟩ := List.mem_map.1 hy
    split
    · rw [hu]; exact h.name x hx
    · exact h.name x hx⟩
theorem Fit.wo {fs : List Ent} (h : Fit fs) (k : List UInt8) : Fit (woE k fs) :=
  ⟨woE_rising h.rising, fun x hx => h.sy x (List.mem_filter.1 hx).1, fun x hx => h.name x (List.mem_filter.1 hx).1⟩

theorem resE_names (keep : List Int) (fs : List Ent) (k : Nat) : (resE keep fs k).map (·.1) = fs.map (·.1) := by
  unfold resE
  apply List.ext_getElem?
  intro i
  rw [List.getElem?_map, List.getElem?_mapIdx, List.getElem?_map]
  cases fs[i]? with
  | none => rfl
  | some x => simp only [Option.map_some]; split <;> rfl
theorem Fit.res {fs : List Ent} (h : Fit fs) (keep : List Int) (k : Nat) : Fit (resE keep fs k) := by
  refine ⟨rising_of_names (by rw [resE_names]; exact h.rising.names), fun y hy => ?_, fun y hy => ?_⟩
  · obtain ⟨i, hi, rfl⟩ := List.getElem_of_mem hy
    have hi2 : i < fs.length := by simpa [resE] using hi
    have hs := h.sy fs[i] (List.getElem_mem hi2)
    simp only [resE, List.getElem_mapIdx]
    split
    · simp only [survE, List.length_take]; omega
    · exact hs
  · have h1 : y.1 ∈ (resE keep fs k).map (·.1) := List.mem_map.2 ⟨y, hy, rfl⟩
    rw [resE_names] at h1
    obtain ⟨x, hx, e⟩ := List.mem_map.1 h1
    rw [← e]
    exact h.name x hx

theorem tot_le {l l' : List Ent} (hl : l'.length = l.length) (h : ∀ i (h1 : i < l'.length) (h2 : i < l.length), l'[i].2.1.length ≤ l[i].2.1.length) : tot l' ≤ tot l := by
  induction l generalizing l' with
  | nil =>
    have : l' = [] := List.eq_nil_of_length_eq_zero hl
    subst this; exact Nat.le_refl _
  | cons a l ih =>
    cases l' with
    | nil => simp at hl
    | cons b l' =>
      rw [tot_cons, tot_cons]
      have h0 := h 0 (by simp) (by simp)
      have h1 := ih (l' := l') (by simpa using hl) (fun i h1 h2 => h (i + 1) (by simpa using h1) (by simpa using h2))
      simp only [List.getElem_cons_zero] at h0
      omega
theorem tot_res (keep : List Int) (fs : List Ent) (k : Nat) : tot (resE keep fs k) ≤ tot fs := by
  refine tot_le (by simp [resE]) fun i h1 h2 => ?_
  simp only [resE, List.getElem_mapIdx]
  split
  · simp only [survE, List.length_take]; omega
  · exact Nat.le_refl _

end Go.Proofs.YthacjeeafnblmaaGreatDoor
