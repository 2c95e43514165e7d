/- The code's disk against the document's: what a writing call does, whatever its closure does. Numbers and types by name. -/
import Derived.Test.YthcdkggkoanjpaaGreatDoorCut
import Derived.Test.YthcdkggkoanjpaaGreatDoorChecked
import Derived.WalkKit
import Derived.WalkLawsBesides
import Derived.Lib.Hide
import Derived.BigQuiet
import Derived.Deep.QuietTactic
import Derived.ArgAppend
import Derived.OwnWalk
import Derived.Deep.RegionLaw
import Derived.Deep.AppendLies
import Derived.Lib.AppendStr
import Derived.Laws.IdiomStrings
import Derived.Lib.SlBytesConst
import Derived.Sort.KeysCollected
import Derived.Test.YthcdkggkoanjpaaGreatDoorClo
namespace Go.Proofs.YthcdkggkoanjpaaGreatDoor
open Go.RowKit Go.Maps Go.Sort Go.WideMaps
theorem write_down (base b g : Nat) (cb : Array Value) (S : DM) (s : DS) (w : World) (hR : Rep w base b S s) (hdw : S.dw = true) :
    Calls Tryz.prog 60 #[theDisk b, .func (.func g) #[] cb] w fun e w' => e = .returned (.int .i64 7) ∧ w = w' := by
  have c8 := hR.disk.c8
  rw [hR.dw, hdw] at c8
  unfold theDisk
  clear hR
  go_enter Tryz.func60, Tryz.ntmps60
  go_wp2
  go_step3
  go_wp2_with fail
  go_step3
  go_wp2_with fail
  rw [Exit.noGoto_ret]
  go_ret
  exact ⟨rfl, rfl⟩
set_option maxRecDepth 100000 in
theorem write_io (base b g : Nat) (cb : Array Value) (S : DM) (s : DS) (w : World) (hR : Rep w base b S s) (hdw : S.dw = false) (hcr : S.ca + 1 ≠ S.cr) (hfail : S.fail.contains (S.ca + 1) = true) (hca0 : 0 ≤ S.ca) (hca1 : S.ca < 1000000) (hfl : S.fail.length < 1000000) :
    Calls Tryz.prog 60 #[theDisk b, .func (.func g) #[] cb] w fun e w' => e = .returned (.int .i64 6) ∧ Rep w' base b { S with ca := S.ca + 1 } { s with ca := S.ca + 1 } ∧ Turn [b] w w' := by
  have c8 := hR.disk.c8
  have c7 := hR.disk.c7
  have c3 := hR.disk.c3
  have c2 := hR.disk.c2
  have e7 := hR.disk.free 7
  rw [hR.dw, hdw] at c8
  rw [hR.ca] at c7
  rw [hR.cr] at c2
  have hb1 : ((S.ca + 1 : Int) == S.cr) = false := by simpa using hcr
  have hR1 := hR.count (S.ca + 1)
  have t1 : Turn [b] w (w.setCell ⟨b, 7, none⟩ (.int .i64 (S.ca + 1))) := (Turn.refl [b] w).set (.inl (by simp)) 7 _
  have HR := Lib.hid (And.intro hR1 t1)
  have HF := Lib.hid hfail
  have HL := Lib.hid hfl
  unfold theDisk
  clear hR hR1 t1 hfail hfl hcr
  go_enter Tryz.func60, Tryz.ntmps60
  go_wp2
  go_step3
  go_wp2_with fail
  go_step3
  go_wp2_with fail
  obtain ⟨hR1, t1⟩ := HR.out
  generalize w.setCell ⟨b, 7, none⟩ (.int .i64 (S.ca + 1)) = w1 at *
  clear HR c8 c7 c3 c2 e7
  have c7 := hR1.disk.c7
  have c2 := hR1.disk.c2
  rw [hR1.ca] at c7
  rw [hR1.cr] at c2
  have HR := Lib.hid (And.intro hR1 t1)
  clear hR1 t1
  simp only at c7 c2
  go_quiet (fail)
  go_wp2_with fail
  refine ((HR.out.1.new ((Turn.refl [] w1).drewN nq)).fails HL.out).mono ?_
  rintro e w2 ⟨rfl, n2, rfl⟩
  rw [show ({ S with ca := S.ca + 1 } : DM).fail.contains ({ S with ca := S.ca + 1 } : DM).ca = true from HF.out]
  rw [World.drewN_drewN]
  have HT : Hid (Rep (w1.drewN (nq + n2)) base b { S with ca := S.ca + 1 } { s with ca := S.ca + 1 } ∧ Turn [b] w (w1.drewN (nq + n2))) := Lib.hid ⟨HR.out.1.new ((Turn.refl [] w1).drewN _), HR.out.2.drewN _⟩
  generalize w1.drewN (nq + n2) = w2 at *
  clear HR c7 c2 HL HF hb1 hca0 hca1
  go_wp2_with fail
  rw [Exit.noGoto_ret]
  go_ret
  exact ⟨rfl, HT.out⟩
set_option maxRecDepth 100000 in
theorem write_crash (base b g : Nat) (cb : Array Value) (S : DM) (s : DS) (w : World) (hR : Rep w base b S s) (hdw : S.dw = false) (hcr : S.ca + 1 = S.cr) (hdn : S.dn = false) (hca0 : 0 ≤ S.ca) (hca1 : S.ca < 1000000) :
    Calls Tryz.prog 60 #[theDisk b, .func (.func g) #[] cb] w fun e w' => e = .returned (.int .i64 7) ∧ Rep w' base b { S with ca := S.ca + 1, dw := true } { s with ca := S.ca + 1, dw := true } ∧ Turn [b] w w' := by
  have c8 := hR.disk.c8
  have c7 := hR.disk.c7
  have c3 := hR.disk.c3
  have c2 := hR.disk.c2
  have e7 := hR.disk.free 7
  rw [hR.dw, hdw] at c8
  rw [hR.ca] at c7
  rw [hR.cr] at c2
  rw [hR.dn, hdn] at c3
  have hb1 : ((S.ca + 1 : Int) == S.cr) = true := by simpa using hcr
  have hR1 := hR.count (S.ca + 1)
  have t1 : Turn [b] w (w.setCell ⟨b, 7, none⟩ (.int .i64 (S.ca + 1))) := (Turn.refl [b] w).set (.inl (by simp)) 7 _
  have HR := Lib.hid (And.intro hR1 t1)
  unfold theDisk
  clear hR hR1 t1 hcr
  go_enter Tryz.func60, Tryz.ntmps60
  go_wp2
  go_step3
  go_wp2_with fail
  go_step3
  go_wp2_with fail
  obtain ⟨hR1, t1⟩ := HR.out
  generalize w.setCell ⟨b, 7, none⟩ (.int .i64 (S.ca + 1)) = w1 at *
  clear HR c8 c7 c3 c2 e7
  have c7 := hR1.disk.c7
  have c2 := hR1.disk.c2
  rw [hR1.ca] at c7
  rw [hR1.cr] at c2
  have HR := Lib.hid (And.intro hR1 t1)
  clear hR1 t1
  simp only at c7 c2
  go_quiet (fail)
  have hR2 := HR.out.1.new ((Turn.refl [] w1).drewN nq)
  have hT2 := HR.out.2.drewN nq
  generalize w1.drewN nq = w2 at *
  have c3 := hR2.disk.c3
  rw [hR2.dn] at c3
  simp only [hdn] at c3
  have e8 := hR2.disk.free 8
  have c8 := hR2.disk.c8
  rw [hR2.dw] at c8
  simp only [hdw] at c8
  have hR3 := hR2.own ((Turn.refl [b] w2).set (c := b) (.inl (by simp)) 8 (.bool true)) (S.ca + 1) s.sz true (hR2.disk.set8 true)
  have HD := Lib.hid (And.intro hR3 (hT2.set (c := b) (.inl (by simp)) 8 (.bool true)))
  clear hR2 hT2 hR3 HR c7 c2
  go_wp2_with fail
  go_ret
  exact ⟨rfl, HD.out⟩
set_option maxRecDepth 100000 in
theorem write_done (base b g : Nat) (cb : Array Value) (S : DM) (s : DS) (R : Int → World → Prop) (w : World) (hR : Rep w base b S s) (hdw : S.dw = false) (hcr : S.ca + 1 = S.cr) (hdn : S.dn = true) (hca0 : 0 ≤ S.ca) (hca1 : S.ca < 1000000)
    (hent : ∀ (args : Array Value) (w : World), (callFunc g args).run Tryz.prog w = .ok (.enter g args) w)
    (hcl : ∀ w1, Rep w1 base b { S with ca := S.ca + 1, dw := true } { s with ca := S.ca + 1, dw := true } → Turn [b] w w1 → Calls Tryz.prog g cb w1 (Left R)) :
    Calls Tryz.prog 60 #[theDisk b, .func (.func g) #[] cb] w fun e w' => e = .returned (.int .i64 7) ∧ ∃ k, R k w' := by
  have c8 := hR.disk.c8
  have c7 := hR.disk.c7
  have c3 := hR.disk.c3
  have c2 := hR.disk.c2
  have e7 := hR.disk.free 7
  rw [hR.dw, hdw] at c8
  rw [hR.ca] at c7
  rw [hR.cr] at c2
  rw [hR.dn, hdn] at c3
  have hb1 : ((S.ca + 1 : Int) == S.cr) = true := by simpa using hcr
  have hR1 := hR.count (S.ca + 1)
  have t1 : Turn [b] w (w.setCell ⟨b, 7, none⟩ (.int .i64 (S.ca + 1))) := (Turn.refl [b] w).set (.inl (by simp)) 7 _
  have HR := Lib.hid (And.intro hR1 t1)
  have HC := Lib.hid hcl
  unfold theDisk
  clear hR hR1 t1 hcr hcl
  go_enter Tryz.func60, Tryz.ntmps60
  go_wp2
  go_step3
  go_wp2_with fail
  go_step3
  go_wp2_with fail
  obtain ⟨hR1, t1⟩ := HR.out
  generalize w.setCell ⟨b, 7, none⟩ (.int .i64 (S.ca + 1)) = w1 at *
  clear HR c8 c7 c3 c2 e7
  have c7 := hR1.disk.c7
  have c2 := hR1.disk.c2
  rw [hR1.ca] at c7
  rw [hR1.cr] at c2
  have HR := Lib.hid (And.intro hR1 t1)
  clear hR1 t1
  simp only at c7 c2
  go_quiet (fail)
  have hR2 := HR.out.1.new ((Turn.refl [] w1).drewN nq)
  have hT2 := HR.out.2.drewN nq
  generalize w1.drewN nq = w2 at *
  have c3 := hR2.disk.c3
  rw [hR2.dn] at c3
  simp only [hdn] at c3
  have e8 := hR2.disk.free 8
  have c8 := hR2.disk.c8
  rw [hR2.dw] at c8
  simp only [hdw] at c8
  have hR3 := hR2.own ((Turn.refl [b] w2).set (c := b) (.inl (by simp)) 8 (.bool true)) (S.ca + 1) s.sz true (hR2.disk.set8 true)
  have HD := Lib.hid (And.intro hR3 (hT2.set (c := b) (.inl (by simp)) 8 (.bool true)))
  clear hR2 hT2 hR3 HR c7 c2
  go_wp2_with fail
  refine (HC.out _ HD.out.1 HD.out.2).mono ?_
  rintro e w3 ⟨k, rfl, hk⟩
  have HK := Lib.hid hk
  clear hk HC HD hent c8 c3 e8
  go_wp2_with fail
  rw [Exit.noGoto_ret]
  go_ret
  exact ⟨rfl, k, HK.out⟩
end Go.Proofs.YthcdkggkoanjpaaGreatDoor
namespace Go.Proofs.YthcdkggkoanjpaaGreatDoor
open Go.Sort
abbrev Ent := List UInt8 × List UInt8 × Nat
def isName (k : List UInt8) (x : Ent) : Bool := x.1 == k
def tot (fs : List Ent) : Nat := (fs.map fun x => x.2.1.length).sum
def Rising (fs : List Ent) : Prop := fs.Pairwise fun x y => x.1 < y.1
def insE (x : Ent) : List Ent → List Ent
  | [] => [x]
  | y :: l => if y.1 < x.1 then y :: insE x l else x :: y :: l
def updE (k : List UInt8) (u : Ent → Ent) (fs : List Ent) : List Ent := fs.map fun x => if isName k x = true then u x else x
def woE (k : List UInt8) (fs : List Ent) : List Ent := fs.filter fun x => !isName k x
structure MD where
  cap : Int
  cr : Int
  dn : Bool
  fail : List Int
  keep : List Int
  fs : List Ent
  n : Int
  dw : Bool
abbrev Opn := Int → List Ent → Int × List Ent
def opCreate (k : List UInt8) : Opn := fun _ fs => if k = [] then (1, fs) else if fs.any (isName k) = true then (4, fs) else (0, insE (k, [], 0) fs)
def opAppend (k l : List UInt8) : Opn := fun cap fs => match fs.find? (isName k) with
  | none => (3, fs)
  | some _ => if cap < (tot fs : Int) + l.length then (5, fs) else (0, updE k (fun x => (x.1, x.2.1 ++ l, x.2.2)) fs)
def opSync (k : List UInt8) : Opn := fun _ fs => match fs.find? (isName k) with
  | none => (3, fs)
  | some _ => (0, updE k (fun x => (x.1, x.2.1, x.2.1.length)) fs)
def opCut (k : List UInt8) (n : Int) : Opn := fun _ fs => match fs.find? (isName k) with
  | none => (3, fs)
  | some x => if n < 0 ∨ (x.2.1.length : Int) < n then (1, fs) else (0, updE k (fun x => (x.1, x.2.1.take n.toNat, min x.2.2 n.toNat)) fs)
def opRename (k j : List UInt8) : Opn := fun _ fs => match fs.find? (isName k) with
  | none => (3, fs)
  | some x => if j = [] then (1, fs) else if k = j then (0, fs) else (0, insE (j, x.2.1, x.2.2) (woE j (woE k fs)))
def opRemove (k : List UInt8) : Opn := fun _ fs => match fs.find? (isName k) with
  | none => (3, fs)
  | some _ => (0, woE k fs)
def MD.act (M : MD) (op : Opn) : Int × MD :=
  if M.dw = true then (7, M)
  else if M.n + 1 = M.cr then (7, { M with n := M.n + 1, dw := true, fs := if M.dn = true then (op M.cap M.fs).2 else M.fs })
  else if M.fail.contains (M.n + 1) = true then (6, { M with n := M.n + 1 })
  else ((op M.cap M.fs).1, { M with n := M.n + 1, fs := (op M.cap M.fs).2 })
def survE (q : Int) (x : Ent) : Ent := (x.1, x.2.1.take (x.2.2 + min q.toNat (x.2.1.length - x.2.2)), x.2.2 + min q.toNat (x.2.1.length - x.2.2))
def resE (keep : List Int) (fs : List Ent) (k : Nat) : List Ent := fs.mapIdx fun i x => if i < k then survE (keep.getD i 0) x else x
def MD.restart (M : MD) (cap cr : Int) (dn : Bool) (fail keep : List Int) : MD :=
  { cap := cap, cr := cr, dn := dn, fail := fail, keep := keep, fs := resE M.keep M.fs M.fs.length, n := 0, dw := false }
theorem isName_iff {k : List UInt8} {x : Ent} : isName k x = true ↔ x.1 = k := by simp [isName]
theorem insE_perm (x : Ent) (fs : List Ent) : (insE x fs).Perm (x :: fs) := by
  induction fs with
  | nil => exact List.Perm.refl _
  | cons y l ih =>
    unfold insE
    split
    · exact (ih.cons y).trans (List.Perm.swap x y l)
    · exact List.Perm.refl _
theorem insE_length (x : Ent) (fs : List Ent) : (insE x fs).length = fs.length + 1 := by simpa using (insE_perm x fs).length_eq
theorem lt_of_not {a b : List UInt8} (h : ¬ a < b) (hne : a ≠ b) : b < a := by
  by_cases h1 : b < a
  · exact h1
  · exact absurd (List.le_antisymm (List.not_lt.1 h1) (List.not_lt.1 h)) hne
theorem insE_rising {x : Ent} {fs : List Ent} (h : Rising fs) (hx : fs.any (isName x.1) = false) : Rising (insE x fs) := by
  induction fs with
  | nil => exact List.pairwise_singleton _ _
  | cons y l ih =>
    unfold Rising at *
    simp only [List.any_cons, Bool.or_eq_false_iff] at hx
    have hne : y.1 ≠ x.1 := fun e => by have := hx.1; rw [isName_iff.2 e] at this; cases this
    rw [List.pairwise_cons] at h
    unfold insE
    split
    · rename_i hlt
      rw [List.pairwise_cons]
      refine ⟨fun z hz => ?_, ih h.2 hx.2⟩
      rcases List.mem_cons.1 ((insE_perm x l).mem_iff.1 hz) with rfl | hz
      · exact hlt
      · exact h.1 z hz
    · rename_i hlt
      have hxy : x.1 < y.1 := lt_of_not hlt hne
      rw [List.pairwise_cons, List.pairwise_cons]
      refine ⟨fun z hz => ?_, h⟩
      rcases List.mem_cons.1 hz with rfl | hz
      · exact hxy
      · exact List.lt_trans hxy (h.1 z hz)
theorem Rising.names {fs : List Ent} (h : Rising fs) : (fs.map (·.1)).Pairwise (· < ·) := by
  unfold Rising at h
  rw [List.pairwise_map]
  exact h
theorem Rising.nodup {fs : List Ent} (h : Rising fs) : (fs.map (·.1)).Nodup := h.names.imp fun hlt e => by subst e; exact List.lt_irrefl _ hlt
theorem rising_of_names {fs : List Ent} (h : (fs.map (·.1)).Pairwise (· < ·)) : Rising fs := by rwa [List.pairwise_map] at h
theorem updE_names (k : List UInt8) (u : Ent → Ent) (hu : ∀ x, (u x).1 = x.1) (fs : List Ent) : (updE k u fs).map (·.1) = fs.map (·.1) := by
  unfold updE
  rw [List.map_map]
  apply List.map_congr_left
  intro x _
  simp only [Function.comp]
  split
  · exact hu x
  · rfl
theorem updE_rising {k : List UInt8} {u : Ent → Ent} (hu : ∀ x, (u x).1 = x.1) {fs : List Ent} (h : Rising fs) : Rising (updE k u fs) :=
  rising_of_names (by rw [updE_names k u hu]; exact h.names)
theorem woE_rising {k : List UInt8} {fs : List Ent} (h : Rising fs) : Rising (woE k fs) := List.Pairwise.filter _ h
theorem woE_any (k x : List UInt8) (fs : List Ent) : (woE k fs).any (isName x) = if x = k then false else fs.any (isName x) := by
  induction fs with
  | nil => simp [woE]
  | cons y l ih =>
    unfold woE at *
    by_cases hy : isName k y = true
    · rw [List.filter_cons_of_neg (by simp [hy]), ih]
      by_cases hx : x = k
      · simp [hx]
      · have : isName x y = false := by
          cases e : isName x y with
          | false => rfl
          | true => exact absurd ((isName_iff.1 e).symm.trans (isName_iff.1 hy)) hx
        simp [hx, this]
    · rw [List.filter_cons_of_pos (by simp [hy]), List.any_cons, ih]
      by_cases hx : x = k
      · subst hx; simp [hy]
      · simp [hx]
theorem find_key (k : List UInt8) : ∀ (a : List Ent), (a.map (·.1)).Nodup → ∀ x, a.find? (isName k) = some x ↔ x ∈ a ∧ x.1 = k := by
  intro a
  induction a with
  | nil => intro _ x; simp
  | cons y a ih =>
    intro hn x
    simp only [List.map_cons, List.nodup_cons, List.mem_map, not_exists, not_and] at hn
    rw [List.find?_cons]
    by_cases hy : isName k y = true
    · rw [hy]
      simp only [Option.some.injEq, List.mem_cons]
      constructor
      · rintro rfl; exact ⟨.inl rfl, isName_iff.1 hy⟩
      · rintro ⟨rfl | hx, hk⟩
        · rfl
        · exact absurd (hk.trans (isName_iff.1 hy).symm) (hn.1 x hx)
    · have hyf : isName k y = false := by simpa using hy
      rw [hyf]
      simp only []
      rw [ih hn.2 x]
      simp only [List.mem_cons]
      constructor
      · rintro ⟨h1, h2⟩; exact ⟨.inr h1, h2⟩
      · rintro ⟨rfl | h1, h2⟩
        · exact absurd (isName_iff.2 h2) hy
        · exact ⟨h1, h2⟩
theorem find_perm {l l' : List Ent} (h : l.Perm l') (hn : (l.map (·.1)).Nodup) (k : List UInt8) : l.find? (isName k) = l'.find? (isName k) := by
  have hn' : (l'.map (·.1)).Nodup := (h.map _).nodup_iff.1 hn
  apply Option.ext
  intro x
  rw [find_key k l hn x, find_key k l' hn' x, h.mem_iff]
theorem find_self {fs : List Ent} (h : Rising fs) {x : Ent} (hx : x ∈ fs) : fs.find? (isName x.1) = some x := (find_key x.1 fs h.nodup x).2 ⟨hx, rfl⟩
theorem any_perm {l l' : List Ent} (h : l.Perm l') (k : List UInt8) : l.any (isName k) = l'.any (isName k) := h.any_eq
theorem tot_perm {l l' : List Ent} (h : l.Perm l') : tot l = tot l' := (h.map _).sum_nat
theorem any_find {fs : List Ent} {k : List UInt8} : fs.any (isName k) = (fs.find? (isName k)).isSome := by
  rw [Bool.eq_iff_iff, List.find?_isSome, List.any_eq_true]
theorem tot_append (a b : List Ent) : tot (a ++ b) = tot a + tot b := by simp [tot]
theorem tot_cons (a : Ent) (b : List Ent) : tot (a :: b) = a.2.1.length + tot b := by simp [tot]
theorem tot_mem {fs : List Ent} {x : Ent} (h : x ∈ fs) : x.2.1.length ≤ tot fs := by
  induction fs with
  | nil => cases h
  | cons a l ih =>
    rw [tot_cons]
    rcases List.mem_cons.1 h with rfl | h
    · omega
    · have := ih h; omega
theorem find_memE {k : List UInt8} {fs : List Ent} {x : Ent} (h : fs.find? (isName k) = some x) : x ∈ fs ∧ x.1 = k :=
  ⟨List.mem_of_find?_eq_some h, isName_iff.1 (List.find?_some h)⟩
structure Fit (fs : List Ent) : Prop where
  rising : Rising fs
  sy : ∀ x ∈ fs, x.2.2 ≤ x.2.1.length
  name : ∀ x ∈ fs, x.1.length ≤ 1000000
theorem Fit.nil : Fit [] := ⟨List.Pairwise.nil, by simp, by simp⟩
theorem Fit.ins {fs : List Ent} (h : Fit fs) {x : Ent} (hx : fs.any (isName x.1) = false) (h1 : x.2.2 ≤ x.2.1.length) (h2 : x.1.length ≤ 1000000) : Fit (insE x fs) :=
  ⟨insE_rising h.rising hx, fun y hy => by
    rcases List.mem_cons.1 ((insE_perm x fs).mem_iff.1 hy) with rfl | hy
    · exact h1
    · exact h.sy y hy, fun y hy => by
    rcases List.mem_cons.1 ((insE_perm x fs).mem_iff.1 hy) with rfl | hy
    · exact h2
    · exact h.name y hy⟩
theorem Fit.upd {fs : List Ent} (h : Fit fs) (k : List UInt8) {u : Ent → Ent} (hu : ∀ x, (u x).1 = x.1) (hs : ∀ x ∈ fs, isName k x = true → (u x).2.2 ≤ (u x).2.1.length) : Fit (updE k u fs) :=
  ⟨updE_rising hu h.rising, fun y hy => by
    obtain ⟨x, hx, rfl⟩ := List.mem_map.1 hy
    split
    · exact hs x hx (by assumption)
    · exact h.sy x hx, fun y hy => by
    obtain ⟨x, hx, rfl⟩ := List.mem_map.1 hy
    split
    · rw [hu]; exact h.name x hx
    · exact h.name x hx⟩
theorem Fit.wo {fs : List Ent} (h : Fit fs) (k : List UInt8) : Fit (woE k fs) :=
  ⟨woE_rising h.rising, fun x hx => h.sy x (List.mem_filter.1 hx).1, fun x hx => h.name x (List.mem_filter.1 hx).1⟩
theorem resE_names (keep : List Int) (fs : List Ent) (k : Nat) : (resE keep fs k).map (·.1) = fs.map (·.1) := by
  unfold resE
  apply List.ext_getElem?
  intro i
  rw [List.getElem?_map, List.getElem?_mapIdx, List.getElem?_map]
  cases fs[i]? with
  | none => rfl
  | some x => simp only [Option.map_some]; split <;> rfl
theorem Fit.res {fs : List Ent} (h : Fit fs) (keep : List Int) (k : Nat) : Fit (resE keep fs k) := by
  refine ⟨rising_of_names (by rw [resE_names]; exact h.rising.names), fun y hy => ?_, fun y hy => ?_⟩
  · obtain ⟨i, hi, rfl⟩ := List.getElem_of_mem hy
    have hi2 : i < fs.length := by simpa [resE] using hi
    have hs := h.sy fs[i] (List.getElem_mem hi2)
    simp only [resE, List.getElem_mapIdx]
    split
    · simp only [survE, List.length_take]; omega
    · exact hs
  · have h1 : y.1 ∈ (resE keep fs k).map (·.1) := List.mem_map.2 ⟨y, hy, rfl⟩
    rw [resE_names] at h1
    obtain ⟨x, hx, e⟩ := List.mem_map.1 h1
    rw [← e]
    exact h.name x hx
theorem tot_le {l l' : List Ent} (hl : l'.length = l.length) (h : ∀ i (h1 : i < l'.length) (h2 : i < l.length), l'[i].2.1.length ≤ l[i].2.1.length) : tot l' ≤ tot l := by
  induction l generalizing l' with
  | nil =>
    have : l' = [] := List.eq_nil_of_length_eq_zero hl
    subst this; exact Nat.le_refl _
  | cons a l ih =>
    cases l' with
    | nil => simp at hl
    | cons b l' =>
      rw [tot_cons, tot_cons]
      have h0 := h 0 (by simp) (by simp)
      have h1 := ih (l' := l') (by simpa using hl) (fun i h1 h2 => h (i + 1) (by simpa using h1) (by simpa using h2))
      simp only [List.getElem_cons_zero] at h0
      omega
theorem tot_res (keep : List Int) (fs : List Ent) (k : Nat) : tot (resE keep fs k) ≤ tot fs := by
  refine tot_le (by simp [resE]) fun i h1 h2 => ?_
  simp only [resE, List.getElem_mapIdx]
  split
  · simp only [survE, List.length_take]; omega
  · exact Nat.le_refl _
end Go.Proofs.YthcdkggkoanjpaaGreatDoor
namespace Go.Proofs.YthcdkggkoanjpaaGreatDoor
open Go.RowKit Go.Maps Go.Sort Go.WideMaps
def view (f : FM) : Ent := (f.name, f.bytes, f.sy)
def footAll (b : Nat) (S : DM) : List Nat := foot b S ++ (S.fr.toList ++ S.kr.toList)
structure Pl (S : DM) (M : MD) : Prop where
  cap : S.cap = M.cap
  cr : S.cr = M.cr
  ca : S.ca = M.n
  dn : S.dn = M.dn
  dw : S.dw = M.dw
  fail : S.fail = M.fail.mergeSort leI
  keep : S.keep = M.keep
  n0 : 0 ≤ M.n
def CD (w : World) (base b : Nat) (M : MD) (F : List Nat) : Prop :=
  base ≤ w.heap.size ∧ Fit M.fs ∧ ∃ S s, Rep w base b S s ∧ s.sz = total S.files ∧ (S.files.map view).Perm M.fs ∧ Pl S M ∧ F = footAll b S
structure LimF (fs : List Ent) : Prop where
  tot : tot fs < 900000000
  len : fs.length < 900000
structure Lim (M : MD) : Prop where
  n : M.n < 900000
  fs : LimF M.fs
  fail : M.fail.length < 900000
  keep : M.keep.length < 900000
def Next (w w' : World) (base b : Nat) (M' : MD) (F : List Nat) : Prop :=
  ∃ F', CD w' base b M' F' ∧ (∀ k ∈ F', k ∈ F ∨ w.heap.size ≤ k) ∧ Turn F w w'
theorem mem_footAll {b : Nat} {S : DM} {k : Nat} : k ∈ footAll b S ↔ k ∈ foot b S ∨ S.fr = some k ∨ S.kr = some k := by
  simp only [footAll, List.mem_append, Option.mem_toList]
theorem CD.lt {w : World} {base b : Nat} {M : MD} {F : List Nat} (h : CD w base b M F) : ∀ k ∈ F, base ≤ k ∧ k < w.heap.size := by
  obtain ⟨h0, _, S, s, hR, _, _, _, rfl⟩ := h
  intro k hk
  obtain ⟨ao, c, ao', c', h1, h2, h3, h4, h5, h6, h7, h8⟩ := hR.lists
  rcases mem_footAll.1 hk with hk | hk | hk
  · exact ⟨hR.low k hk, hR.lt k hk⟩
  · exact h3.lt k (h5.trans hk)
  · exact h4.lt k (h6.trans hk)
theorem CD.own {w : World} {base b : Nat} {M : MD} {F : List Nat} (h : CD w base b M F) : b ∈ F := by
  obtain ⟨_, _, S, s, hR, _, _, _, rfl⟩ := h
  exact mem_footAll.2 (.inl (by simp [foot]))
theorem CD.keep {w w' : World} {base b : Nat} {M : MD} {F G : List Nat} (h : CD w base b M F) (t : Turn G w w') (hd : ∀ k ∈ F, k ∉ G) : CD w' base b M F := by
  obtain ⟨h0, hf, S, s, hR, h1, h2, h3, rfl⟩ := h
  exact ⟨Nat.le_trans h0 t.size, hf, S, s, hR.keep t (fun k hk => hd k (mem_footAll.2 (.inl hk))) (fun g hg => hd g (mem_footAll.2 (.inr (.inl hg)))) (fun g hg => hd g (mem_footAll.2 (.inr (.inr hg)))), h1, h2, h3, rfl⟩
theorem CD.new {w w' : World} {base b : Nat} {M : MD} {F : List Nat} (h : CD w base b M F) (t : Turn [] w w') : CD w' base b M F := h.keep t (by simp)
theorem CD.next {w : World} {base b : Nat} {M : MD} {F : List Nat} (h : CD w base b M F) : Next w w base b M F := ⟨F, h, fun k hk => .inl hk, Turn.refl _ _⟩
theorem CD.next_new {w w' : World} {base b : Nat} {M : MD} {F : List Nat} (h : CD w base b M F) (t : Turn [] w w') : Next w w' base b M F := ⟨F, h.new t, fun k hk => .inl hk, t.mono (by simp)⟩
theorem Next.after {w w1 w' : World} {base b : Nat} {M' : MD} {F : List Nat} (t : Turn F w w1) (h : Next w1 w' base b M' F) : Next w w' base b M' F := by
  obtain ⟨F', h1, h2, h3⟩ := h
  exact ⟨F', h1, fun k hk => (h2 k hk).imp id (fun h => Nat.le_trans t.size h), t.trans h3⟩
theorem Next.trans {w w1 w' : World} {base b : Nat} {M1 M2 : MD} {F F1 : List Nat} (h : CD w1 base b M1 F1) (hs : ∀ k ∈ F1, k ∈ F ∨ w.heap.size ≤ k) (t : Turn F w w1) (h2 : Next w1 w' base b M2 F1) : Next w w' base b M2 F := by
  obtain ⟨F', g1, g2, g3⟩ := h2
  refine ⟨F', g1, fun k hk => ?_, t.trans' g3 hs⟩
  rcases g2 k hk with g | g
  · exact hs k g
  · exact .inr (Nat.le_trans t.size g)
theorem tot_view (files : List FM) : tot (files.map view) = total files := by
  simp [tot, total, view, Function.comp_def]
theorem find_view (k : List UInt8) (files : List FM) : (files.map view).find? (isName k) = (files.find? (named k)).map view := by
  rw [List.find?_map]; rfl
theorem any_view (k : List UInt8) (files : List FM) : (files.map view).any (isName k) = files.any (named k) := by
  rw [List.any_map]; rfl
theorem map_mapF (k : List UInt8) (u : FM → FM) (v : Ent → Ent) (huv : ∀ g, view (u g) = v (view g)) (files : List FM) : (mapF k u files).map view = updE k v (files.map view) := by
  unfold mapF updE
  rw [List.map_map, List.map_map]
  apply List.map_congr_left
  intro g _
  simp only [Function.comp]
  have : isName k (view g) = named k g := rfl
  rw [this]
  split
  · exact huv g
  · rfl
theorem map_without (k : List UInt8) (files : List FM) : (without k files).map view = woE k (files.map view) := by
  unfold without woE
  rw [List.filter_map]
  rfl
theorem find_both {w : World} {base b : Nat} {S : DM} {s : DS} {fs : List Ent} (hR : Rep w base b S s) (hp : (S.files.map view).Perm fs) (k : List UInt8) : fs.find? (isName k) = (S.files.find? (named k)).map view := by
  rw [← find_perm hp (by rw [List.map_map]; exact hR.names), find_view]
theorem any_both {S : DM} {fs : List Ent} (hp : (S.files.map view).Perm fs) (k : List UInt8) : fs.any (isName k) = S.files.any (named k) := by
  rw [← any_perm hp, any_view]
theorem tot_both {S : DM} {fs : List Ent} (hp : (S.files.map view).Perm fs) : tot fs = total S.files := by rw [← tot_perm hp, tot_view]
theorem len_both {S : DM} {fs : List Ent} (hp : (S.files.map view).Perm fs) : fs.length = S.files.length := by have := hp.length_eq; simpa using this.symm
theorem has_sort (zs : List Int) (x : Int) : (zs.mergeSort leI).contains x = zs.contains x := by
  rw [Bool.eq_iff_iff]
  simp [List.mem_mergeSort]
theorem CD.counted {w w' : World} {base b : Nat} {M : MD} {S : DM} {s : DS} (h0 : base ≤ w.heap.size) (hf : Fit M.fs) (hs : s.sz = total S.files) (hp : (S.files.map view).Perm M.fs) (hP : Pl S M) (d : Bool)
    (hR : Rep w' base b { S with ca := S.ca + 1, dw := d } { s with ca := S.ca + 1, dw := d }) (t : Turn [b] w w') : CD w' base b { M with n := M.n + 1, dw := d } (footAll b S) :=
  ⟨Nat.le_trans h0 t.size, hf, _, _, hR, hs, hp, ⟨hP.cap, hP.cr, by show S.ca + 1 = _; rw [hP.ca], hP.dn, rfl, hP.fail, hP.keep, by have := hP.n0; show 0 ≤ M.n + 1; omega⟩, rfl⟩
theorem met_any (base b g : Nat) (cb : Array Value) (M : MD) (F : List Nat) (op : Opn) (w : World) (h : CD w base b M F) (hl : Lim M)
    (hent : ∀ (args : Array Value) (w : World), (callFunc g args).run Tryz.prog w = .ok (.enter g args) w)
    (hcl : ∀ d w1, CD w1 base b { M with n := M.n + 1, dw := d } F → Turn F w w1 → Calls Tryz.prog g cb w1 (Left fun k w' => k = (op M.cap M.fs).1 ∧ Next w1 w' base b { M with n := M.n + 1, dw := d, fs := (op M.cap M.fs).2 } F)) :
    Calls Tryz.prog 60 #[theDisk b, .func (.func g) #[] cb] w (Left fun k w' => k = (M.act op).1 ∧ Next w w' base b (M.act op).2 F) := by
  have h' := h
  obtain ⟨h0, hf, S, s, hR, hs, hp, hP, rfl⟩ := h
  have hbF : ∀ x, x ∈ [b] → x ∈ footAll b S := by intro x hx; simp at hx; subst hx; exact h'.own
  have hn0 := hP.n0
  have hn1 := hl.n
  have hfl : S.fail.length < 1000000 := by rw [hP.fail, List.length_mergeSort]; have := hl.fail; omega
  have hcon : S.fail.contains (S.ca + 1) = M.fail.contains (M.n + 1) := by rw [hP.fail, has_sort, hP.ca]
  unfold MD.act
  by_cases hdw : M.dw = true
  · rw [if_pos hdw]
    refine (write_down base b g cb S s w hR (by rw [hP.dw, hdw])).mono ?_
    rintro e w' ⟨rfl, rfl⟩
    exact ⟨7, rfl, rfl, h'.next⟩
  · rw [if_neg hdw]
    rw [Bool.not_eq_true] at hdw
    have hdS : S.dw = false := by rw [hP.dw, hdw]
    have hsd : s.dw = false := by rw [hR.dw, hdS]
    have eM : ∀ fs, ({ M with n := M.n + 1, dw := false, fs := fs } : MD) = { M with n := M.n + 1, fs := fs } := fun fs => by rw [← hdw]
    have eM0 : ({ M with n := M.n + 1, dw := false } : MD) = { M with n := M.n + 1 } := by rw [← hdw]
    have eS : ({ S with ca := S.ca + 1, dw := false } : DM) = { S with ca := S.ca + 1 } := by rw [← hdS]
    have es : ({ s with ca := S.ca + 1, dw := false } : DS) = { s with ca := S.ca + 1 } := by rw [← hsd]
    by_cases hcr : M.n + 1 = M.cr
    · rw [if_pos hcr]
      have hcrS : S.ca + 1 = S.cr := by rw [hP.ca, hP.cr, hcr]
      by_cases hdn : M.dn = true
      rotate_left
      · rw [if_neg hdn]
        rw [Bool.not_eq_true] at hdn
        refine (write_crash base b g cb S s w hR hdS hcrS (by rw [hP.dn, hdn]) (by rw [hP.ca]; exact hn0) (by rw [hP.ca]; omega)).mono ?_
        rintro e w' ⟨rfl, hR', t⟩
        refine ⟨7, rfl, rfl, footAll b S, ?_, fun k hk => .inl hk, t.mono hbF⟩
        exact CD.counted h0 hf hs hp hP true hR' t
      · rw [if_pos hdn]
        refine (write_done base b g cb S s (fun _ w' => Next w w' base b { M with n := M.n + 1, dw := true, fs := (op M.cap M.fs).2 } (footAll b S)) w hR hdS hcrS (by rw [hP.dn, hdn]) (by rw [hP.ca]; exact hn0) (by rw [hP.ca]; omega) hent ?_).mono ?_
        · intro w1 hR1 t1
          refine (hcl true w1 (CD.counted h0 hf hs hp hP true hR1 t1) (t1.mono hbF)).mono ?_
          rintro e w' ⟨k, rfl, _, hN⟩
          exact ⟨k, rfl, hN.after (t1.mono hbF)⟩
        · rintro e w' ⟨rfl, k, hN⟩
          exact ⟨7, rfl, rfl, hN⟩
    · rw [if_neg hcr]
      have hcrS : S.ca + 1 ≠ S.cr := by rw [hP.ca, hP.cr]; exact hcr
      by_cases hfa : M.fail.contains (M.n + 1) = true
      · rw [if_pos hfa]
        refine (write_io base b g cb S s w hR hdS hcrS (by rw [hcon]; exact hfa) (by rw [hP.ca]; exact hn0) (by rw [hP.ca]; omega) hfl).mono ?_
        rintro e w' ⟨rfl, hR', t⟩
        refine ⟨6, rfl, rfl, footAll b S, ?_, fun k hk => .inl hk, t.mono hbF⟩
        rw [← eM0]
        exact CD.counted h0 hf hs hp hP false (by rw [eS, es]; exact hR') t
      · rw [if_neg hfa]
        rw [Bool.not_eq_true] at hfa
        refine write_run base b g cb S s _ w hR hdS hcrS (by rw [hcon]; exact hfa) (by rw [hP.ca]; exact hn0) (by rw [hP.ca]; omega) hfl hent ?_
        intro w1 hR1 t1
        refine (hcl false w1 (CD.counted h0 hf hs hp hP false (by rw [eS, es]; exact hR1) t1) (t1.mono hbF)).mono ?_
        rintro e w' ⟨k, rfl, hk, hN⟩
        refine ⟨k, rfl, hk, ?_⟩
        rw [← eM]
        exact hN.after (t1.mono hbF)
end Go.Proofs.YthcdkggkoanjpaaGreatDoor
