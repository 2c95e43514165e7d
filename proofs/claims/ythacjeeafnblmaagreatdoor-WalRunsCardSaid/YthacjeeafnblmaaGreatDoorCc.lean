/- The closures of the writing calls, against the document's disk. Numbers and types by name. -/
import Derived.Test.YthacjeeafnblmaaGreatDoorMod
/- The code's disk against the document's: what a writing call does, whatever its closure does. Numbers and types by name. -/
namespace Go.Proofs.YthacjeeafnblmaaGreatDoor
open Go.RowKit Go.Maps Go.Sort Go.WideMaps

def view (f : FM) : Ent := (f.name, f.bytes, f.sy)
/-- All blocks of a disk. -/
def footAll (b : Nat) (S : DM) : List Nat := foot b S ++ (S.fr.toList ++ S.kr.toList)

structure Pl (S : DM) (M : MD) : Prop where
  cap : S.cap = M.cap
  cr : S.cr = M.cr
  ca : S.ca = M.n
  dn : S.dn = M.dn
  dw : S.dw = M.dw
  fail : S.fail = M.fail.mergeSort leI
  keep : S.keep = M.keep
  n0 : 0 ≤ M.n

/-- The code's disk at b is M; F: its blocks. -/
def CD (w : World) (base b : Nat) (M : MD) (F : List Nat) : Prop :=
  base ≤ w.heap.size ∧ Fit M.fs ∧ ∃ S s, Rep w base b S s ∧ s.sz = total S.files ∧ (S.files.map view).Perm M.fs ∧ Pl S M ∧ F = footAll b S

/-- How much may be on a disk. -/
structure LimF (fs : List Ent) : Prop where
  tot : tot fs < 900000000
  len : fs.length < 900000
structure Lim (M : MD) : Prop where
  n : M.n < 900000
  fs : LimF M.fs
  fail : M.fail.length < 900000
  keep : M.keep.length < 900000

def Next (w w' : World) (base b : Nat) (M' : MD) (F : List Nat) : Prop :=
  ∃ F', CD w' base b M' F' ∧ (∀ k ∈ F', k ∈ F ∨ w.heap.size ≤ k) ∧ Turn F w w'

theorem mem_footAll {b : Nat} {S : DM} {k : Nat} : k ∈ footAll b S ↔ k ∈ foot b S ∨ S.fr = some k ∨ S.kr = some k := by
  simp only [footAll, List.mem_append, Option.mem_toList]

theorem CD.lt {w : World} {base b : Nat} {M : MD} {F : List Nat} (h : CD w base b M F) : ∀ k ∈ F, base ≤ k ∧ k < w.heap.size := by
  obtain ⟨h0, _, S, s, hR, _, _, _, rfl⟩ := h
  intro k hk
  obtain ⟨ao, c, ao', c', h1, h2, h3, h4, h5, h6, h7, h8⟩ := hR.lists
  rcases mem_footAll.1 hk with hk | hk | hk
  · exact ⟨hR.low k hk, hR.lt k hk⟩
  · exact h3.lt k (h5.trans hk)
  · exact h4.lt k (h6.trans hk)
theorem CD.own {w : World} {base b : Nat} {M : MD} {F : List Nat} (h : CD w base b M F) : b ∈ F := by
  obtain ⟨_, _, S, s, hR, _, _, _, rfl⟩ := h
  exact mem_footAll.2 (.inl (by simp [foot]))
theorem CD.keep {w w' : World} {base b : Nat} {M : MD} {F G : List Nat} (h : CD w base b M F) (t : Turn G w w') (hd : ∀ k ∈ F, k ∉ G) : CD w' base b M F := by
  obtain ⟨h0, hf, S, s, hR, h1, h2, h3, rfl⟩ := h
  exact ⟨Nat.le_trans h0 t.size, hf, S, s, hR.keep t (fun k hk => hd k (mem_footAll.2 (.inl hk))) (fun g hg => hd g (mem_footAll.2 (.inr (.inl hg)))) (fun g hg => hd g (mem_footAll.2 (.inr (.inr hg)))), h1, h2, h3, rfl⟩
theorem CD.new {w w' : World} {base b : Nat} {M : MD} {F : List Nat} (h : CD w base b M F) (t : Turn [] w w') : CD w' base b M F := h.keep t (by simp)
theorem CD.next {w : World} {base b : Nat} {M : MD} {F : List Nat} (h : CD w base b M F) : Next w w base b M F := ⟨F, h, fun k hk => .inl hk, Turn.refl _ _⟩
theorem CD.next_new {w w' : World} {base b : Nat} {M : MD} {F : List Nat} (h : CD w base b M F) (t : Turn [] w w') : Next w w' base b M F := ⟨F, h.new t, fun k hk => .inl hk, t.mono (by simp)⟩
theorem Next.after {w w1 w' : World} {base b : Nat} {M' : MD} {F : List Nat} (t : Turn F w w1) (h : Next w1 w' base b M' F) : Next w w' base b M' F := by
  obtain ⟨F', h1, h2, h3⟩ := h
  exact ⟨F', h1, fun k hk => (h2 k hk).imp id (fun h => Nat.le_trans t.size h), t.trans h3⟩
/-- A call, and one behind it. -/
theorem Next.trans {w w1 w' : World} {base b : Nat} {M1 M2 : MD} {F F1 : List Nat} (h : CD w1 base b M1 F1) (hs : ∀ k ∈ F1, k ∈ F ∨ w.heap.size ≤ k) (t : Turn F w w1) (h2 : Next w1 w' base b M2 F1) : Next w w' base b M2 F := by
  obtain ⟨F', g1, g2, g3⟩ := h2
  refine ⟨F', g1, fun k hk => ?_, t.trans' g3 hs⟩
  rcases g2 k hk with g | g
  · exact hs k g
  · exact .inr (Nat.le_trans t.size g)

theorem tot_view (files : List FM) : tot (files.map view) = total files := by
  simp [tot, total, view, Function.comp_def]
theorem find_view (k : List UInt8) (files : List FM) : (files.map view).find? (isName k) = (files.find? (named k)).map view := by
  rw [List.find?_map]; rfl
theorem any_view (k : List UInt8) (files : List FM) : (files.map view).any (isName k) = files.any (named k) := by
  rw [List.any_map]; rfl
theorem map_mapF (k : List UInt8) (u : FM → FM) (v : Ent → Ent) (huv : ∀ g, view (u g) = v (view g)) (files : List FM) : (mapF k u files).map view = updE k v (files.map view) := by
  unfold mapF updE
  rw [List.map_map, List.map_map]
  apply List.map_congr_left
  intro g _
  simp only [Function.comp]
  have : isName k (view g) = named k g := rfl
  rw [this]
  split
  · exact huv g
  · rfl
theorem map_without (k : List UInt8) (files : List FM) : (without k files).map view = woE k (files.map view) := by
  unfold without woE
  rw [List.filter_map]
  rfl

/-- What the model finds, the code finds. -/
theorem find_both {w : World} {base b : Nat} {S : DM} {s : DS} {fs : List Ent} (hR : Rep w base b S s) (hp : (S.files.map view).Perm fs) (k : List UInt8) : fs.find? (isName k) = (S.files.find? (named k)).map view := by
  rw [← find_perm hp (by rw [List.map_map]; exact hR.names), find_view]
theorem any_both {S : DM} {fs : List Ent} (hp : (S.files.map view).Perm fs) (k : List UInt8) : fs.any (isName k) = S.files.any (named k) := by
  rw [← any_perm hp, any_view]
theorem tot_both {S : DM} {fs : List Ent} (hp : (S.files.map view).Perm fs) : tot fs = total S.files := by rw [← tot_perm hp, tot_view]
theorem len_both {S : DM} {fs : List Ent} (hp : (S.files.map view).Perm fs) : fs.length = S.files.length := by have := hp.length_eq; simpa using this.symm

theorem has_sort (zs : List Int) (x : Int) : (zs.mergeSort leI).contains x = zs.contains x := by
  rw [Bool.eq_iff_iff]
  simp [List.mem_mergeSort]

theorem CD.counted {w w' : World} {base b : Nat} {M : MD} {S : DM} {s : DS} (h0 : base ≤ w.heap.size) (hf : Fit M.fs) (hs : s.sz = total S.files) (hp : (S.files.map view).Perm M.fs) (hP : Pl S M) (d : Bool)
    (hR : Rep w' base b { S with ca := S.ca + 1, dw := d } { s with ca := S.ca + 1, dw := d }) (t : Turn [b] w w') : CD w' base b { M with n := M.n + 1, dw := d } (footAll b S) :=
  ⟨Nat.le_trans h0 t.size, hf, _, _, hR, hs, hp, ⟨hP.cap, hP.cr, by show S.ca + 1 = _; rw [hP.ca], hP.dn, rfl, hP.fail, hP.keep, by have := hP.n0; show 0 ≤ M.n + 1; omega⟩, rfl⟩

theorem met_any (base b g : Nat) (cb : Array Value) (M : MD) (F : List Nat) (op : Opn) (w : World) (h : CD w base b M F) (hl : Lim M)
    (hent : ∀ (args : Array Value) (w : World), (callFunc g args).run Tryz.prog w = .ok (.enter g args) w)
    (hcl : ∀ d w1, CD w1 base b { M with n := M.n + 1, dw := d } F → Turn F w w1 → Calls Tryz.prog g cb w1 (Left fun k w' => k = (op M.cap M.fs).1 ∧ Next w1 w' base b { M with n := M.n + 1, dw := d, fs := (op M.cap M.fs).2 } F)) :
    Calls Tryz.prog 57 #[theDisk b, .func (.func g) #[] cb] w (Left fun k w' => k = (M.act op).1 ∧ Next w w' base b (M.act op).2 F) := by
  have h' := h
  obtain ⟨h0, hf, S, s, hR, hs, hp, hP, rfl⟩ := h
  have hbF : ∀ x, x ∈ [b] → x ∈ footAll b S := by intro x hx; simp at hx; subst hx; exact h'.own
  have hn0 := hP.n0
  have hn1 := hl.n
  have hfl : S.fail.length < 1000000 := by rw [hP.fail, List.length_mergeSort]; have := hl.fail; omega
  have hcon : S.fail.contains (S.ca + 1) = M.fail.contains (M.n + 1) := by rw [hP.fail, has_sort, hP.ca]
  unfold MD.act
  by_cases hdw : M.dw = true
  · rw [if_pos hdw]
    refine (write_down base b g cb S s w hR (by rw [hP.dw, hdw])).mono ?_
    rintro e w' ⟨rfl, rfl⟩
    exact ⟨7, rfl, rfl, h'.next⟩
  · rw [if_neg hdw]
    rw [Bool.not_eq_true] at hdw
    have hdS : S.dw = false := by rw [hP.dw, hdw]
    have hsd : s.dw = false := by rw [hR.dw, hdS]
    have eM : ∀ fs, ({ M with n := M.n + 1, dw := false, fs := fs } : MD) = { M with n := M.n + 1, fs := fs } := fun fs => by rw [← hdw]
    have eM0 : ({ M with n := M.n + 1, dw := false } : MD) = { M with n := M.n + 1 } := by rw [← hdw]
    have eS : ({ S with ca := S.ca + 1, dw := false } : DM) = { S with ca := S.ca + 1 } := by rw [← hdS]
    have es : ({ s with ca := S.ca + 1, dw := false } : DS) = { s with ca := S.ca + 1 } := by rw [← hsd]
    by_cases hcr : M.n + 1 = M.cr
    · rw [if_pos hcr]
      have hcrS : S.ca + 1 = S.cr := by rw [hP.ca, hP.cr, hcr]
      by_cases hdn : M.dn = true
      rotate_left
      · rw [if_neg hdn]
        rw [Bool.not_eq_true] at hdn
        refine (write_crash base b g cb S s w hR hdS hcrS (by rw [hP.dn, hdn]) (by rw [hP.ca]; exact hn0) (by rw [hP.ca]; omega)).mono ?_
        rintro e w' ⟨rfl, hR', t⟩
        refine ⟨7, rfl, rfl, footAll b S, ?_, fun k hk => .inl hk, t.mono hbF⟩
        exact CD.counted h0 hf hs hp hP true hR' t
      · rw [if_pos hdn]
        refine (write_done base b g cb S s (fun _ w' => Next w w' base b { M with n := M.n + 1, dw := true, fs := (op M.cap M.fs).2 } (footAll b S)) w hR hdS hcrS (by rw [hP.dn, hdn]) (by rw [hP.ca]; exact hn0) (by rw [hP.ca]; omega) hent ?_).mono ?_
        · intro w1 hR1 t1
          refine (hcl true w1 (CD.counted h0 hf hs hp hP true hR1 t1) (t1.mono hbF)).mono ?_
          rintro e w' ⟨k, rfl, _, hN⟩
          exact ⟨k, rfl, hN.after (t1.mono hbF)⟩
        · rintro e w' ⟨rfl, k, hN⟩
          exact ⟨7, rfl, rfl, hN⟩
    · rw [if_neg hcr]
      have hcrS : S.ca + 1 ≠ S.cr := by rw [hP.ca, hP.cr]; exact hcr
      by_cases hfa : M.fail.contains (M.n + 1) = true
      · rw [if_pos hfa]
        refine (write_io base b g cb S s w hR hdS hcrS (by rw [hcon]; exact hfa) (by rw [hP.ca]; exact hn0) (by rw [hP.ca]; omega) hfl).mono ?_
        rintro e w' ⟨rfl, hR', t⟩
        refine ⟨6, rfl, rfl, footAll b S, ?_, fun k hk => .inl hk, t.mono hbF⟩
        rw [← eM0]
        exact CD.counted h0 hf hs hp hP false (by rw [eS, es]; exact hR') t
      · rw [if_neg hfa]
        rw [Bool.not_eq_true] at hfa
        refine write_run base b g cb S s _ w hR hdS hcrS (by rw [hcon]; exact hfa) (by rw [hP.ca]; exact hn0) (by rw [hP.ca]; omega) hfl hent ?_
        intro w1 hR1 t1
        refine (hcl false w1 (CD.counted h0 hf hs hp hP false (by rw [eS, es]; exact hR1) t1) (t1.mono hbF)).mono ?_
        rintro e w' ⟨k, rfl, hk, hN⟩
        refine ⟨k, rfl, hk, ?_⟩
        rw [← eM]
        exact hN.after (t1.mono hbF)

end Go.Proofs.YthacjeeafnblmaaGreatDoor

namespace Go.Proofs.YthacjeeafnblmaaGreatDoor
open Go.RowKit Go.Maps Go.Sort Go.WideMaps

theorem name_nil {name : ByteArray} (h : name.data.toList = []) : name = ⟨#[]⟩ := by
  have h3 : name.data = #[] := by
    rw [← Array.toList_inj]
    simpa using h
  cases name
  simp only at h3
  rw [h3]
theorem name_empty (name : ByteArray) : name.toList.isEmpty = decide (name.data.toList = []) := by
  rw [ByteArray.toList_eq]
  cases name.data.toList <;> simp
theorem name_eq {a b : ByteArray} (h : a.data.toList = b.data.toList) : a = b := by
  cases a; cases b
  simp only at h
  rw [Array.toList_inj.1 h]
theorem name_beq (a b : ByteArray) : (a.toList == b.toList) = decide (a.data.toList = b.data.toList) := by
  rw [ByteArray.toList_eq, ByteArray.toList_eq, Bool.eq_iff_iff]
  simp

theorem next_cc {w w' : World} {base b : Nat} {M : MD} {S : DM} {s' : DS} {fs' : List Ent} {x : List FM} {y : Option Nat} (h0 : base ≤ w.heap.size) (hf' : Fit fs') (hR' : Rep w' base b { S with files := x, mp := y } s') (hs' : s'.sz = total x)
    (hp' : (x.map view).Perm fs') (hP : Pl S M) (hfoot : ∀ k ∈ foot b { S with files := x, mp := y }, k ∈ foot b S ∨ w.heap.size ≤ k) (t : Turn (foot b S) w w') : Next w w' base b { M with fs := fs' } (footAll b S) := by
  refine ⟨footAll b { S with files := x, mp := y }, ⟨Nat.le_trans h0 t.size, hf', _, s', hR', hs', hp', ⟨hP.cap, hP.cr, hP.ca, hP.dn, hP.dw, hP.fail, hP.keep, hP.n0⟩, rfl⟩, fun k hk => ?_, t.mono fun k hk => mem_footAll.2 (.inl hk)⟩
  rcases mem_footAll.1 hk with hk | hk
  · exact (hfoot k hk).imp (fun h => mem_footAll.2 (.inl h)) id
  · exact .inl (mem_footAll.2 (.inr hk))

theorem mem_foot {b : Nat} {S : DM} {k : Nat} : k ∈ foot b S ↔ k = b ∨ S.mp = some k ∨ ∃ f ∈ S.files, k ∈ f.foot := by
  simp only [foot, List.mem_cons, List.mem_append, Option.mem_toList, List.mem_flatMap]

theorem create_cc (pn pd base b : Nat) (M : MD) (F : List Nat) (name : ByteArray) (w : World) (h : CD w base b M F) (hl : LimF M.fs) (hn : w.cell? ⟨pn, 0, none⟩ = some (.string name)) (hd : w.cell? ⟨pd, 0, none⟩ = some (theDisk b)) (hz : name.size ≤ 1000000) :
    Calls Tryz.prog 58 #[.pointer (some ⟨pn, 0, none⟩), .pointer (some ⟨pd, 0, none⟩)] w (Left fun k w' => k = (opCreate name.data.toList M.cap M.fs).1 ∧ Next w w' base b { M with fs := (opCreate name.data.toList M.cap M.fs).2 } F) := by
  have h' := h
  obtain ⟨h0, hf, S, s, hR, hs, hp, hP, rfl⟩ := h
  have hz2 : name.size ≤ maxLen := by unfold maxLen; omega
  unfold opCreate
  by_cases hk : name.data.toList = []
  · rw [if_pos hk]
    obtain rfl := name_nil hk
    refine (create_empty pn pd b w hn hd).mono ?_
    rintro e w' ⟨rfl, rfl⟩
    exact ⟨1, rfl, rfl, h'.next⟩
  · rw [if_neg hk]
    have hne : name.toList.isEmpty = false := by rw [name_empty]; simpa using hk
    by_cases ha : M.fs.any (isName name.data.toList) = true
    · rw [if_pos ha]
      obtain ⟨f, hff⟩ : ∃ f, S.files.find? (named name.data.toList) = some f := by
        rw [any_find, find_both hR hp] at ha
        cases e : S.files.find? (named name.data.toList) with
        | none => rw [e] at ha; cases ha
        | some f => exact ⟨f, rfl⟩
      refine (create_twice pn pd base b S s name f w hn hd hR hne hff hz2).mono ?_
      rintro e w' ⟨rfl, n, rfl⟩
      exact ⟨4, rfl, rfl, h'.next_new ((Turn.refl [] w).drewN n)⟩
    · rw [if_neg ha]
      rw [Bool.not_eq_true] at ha
      have ha2 := ha
      rw [any_both hp] at ha
      refine (create_new_at pn pd base b S s name w hn hd hR hne ha hz2 (by have := len_both hp; have := hl.len; unfold maxLen; omega) h0).mono ?_
      rintro e w' ⟨rfl, f, m, s', hm, h1, h2, h3, h4, h5, hR', h7, t⟩
      refine ⟨0, rfl, rfl, next_cc h0 (hf.ins ha2 (Nat.le_refl _) hz) hR' (by rw [h7, hs]; simp [total, h2]) ?_ hP (fun k hk => ?_) (t.mono fun k hk => ?_)⟩
      · rw [List.map_append]
        refine (List.perm_append_comm.trans ?_).trans (insE_perm _ _).symm
        simpa [view, h1, h2, h3] using hp
      · rcases mem_foot.1 hk with rfl | hk | ⟨g, hg, hk⟩
        · exact .inl (mem_foot.2 (.inl rfl))
        · have : m = k := by simpa using hk
          subst this
          exact hm.imp (fun h => mem_foot.2 (.inr (.inl h))) id
        · rcases List.mem_append.1 hg with hg | hg
          · exact .inl (mem_foot.2 (.inr (.inr ⟨g, hg, hk⟩)))
          · rw [List.mem_singleton] at hg
            rw [hg] at hk
            have hk2 : k = f.blk := by simpa [FM.foot, h5] using hk
            rw [hk2]
            exact .inr h4
      · simp only [List.mem_cons, Option.mem_toList] at hk
        exact mem_foot.2 (hk.imp id .inl)

/-- One file turns, its block stays. -/
theorem foot_mapF {w : World} {b : Nat} {S : DM} {k : Nat} {nm : List UInt8} {u : FM → FM} {row : Option Nat} {f : FM} (hn : (S.files.map (·.name)).Nodup) (hf : S.files.find? (named nm) = some f) (hb : ∀ g, (u g).blk = g.blk) (hu : (u f).row = row) (hrow : row = f.row ∨ ∃ g, row = some g ∧ w.heap.size ≤ g)
    (hk : k ∈ foot b { S with files := mapF nm u S.files }) : k ∈ foot b S ∨ w.heap.size ≤ k := by
  obtain ⟨hfm, hfn⟩ := find_mem hf
  rcases mem_foot.1 hk with rfl | hk | ⟨g, hg, hk⟩
  · exact .inl (mem_foot.2 (.inl rfl))
  · exact .inl (mem_foot.2 (.inr (.inl hk)))
  · obtain ⟨g0, hg0, rfl⟩ := List.mem_map.1 hg
    by_cases hnm : named nm g0 = true
    · rw [if_pos hnm] at hk
      have e : g0 = f := only_named hn hg0 hfm (by rw [hfn]; simpa [named] using hnm)
      subst e
      simp only [FM.foot, List.mem_cons, Option.mem_toList] at hk
      rcases hk with hk | hk
      · exact .inl (mem_foot.2 (.inr (.inr ⟨g0, hg0, by simp [FM.foot, hk, hb]⟩)))
      · rw [hu] at hk
        rcases hrow with e | ⟨g, e, hg2⟩
        · rw [e] at hk
          exact .inl (mem_foot.2 (.inr (.inr ⟨g0, hg0, by simp [FM.foot, hk]⟩)))
        · rw [e] at hk
          have : g = k := by simpa using hk
          subst this
          exact .inr hg2
    · rw [if_neg hnm] at hk
      exact .inl (mem_foot.2 (.inr (.inr ⟨g0, hg0, hk⟩)))

theorem append_cc (pd pn pb base b : Nat) (M : MD) (F : List Nat) (name : ByteArray) (vb : Value) (l : List UInt8) (w : World) (h : CD w base b M F) (hl : LimF M.fs)
    (hd : w.cell? ⟨pd, 0, none⟩ = some (theDisk b)) (hn : w.cell? ⟨pn, 0, none⟩ = some (.string name)) (hb : w.cell? ⟨pb, 0, none⟩ = some vb) (hpd : pd ∉ F) (hpb : pb ∉ F) (hz : name.size ≤ 1000000) (hr : Reads w vb (bv l)) (hll : l.length ≤ 50000000) :
    Calls Tryz.prog 60 #[.pointer (some ⟨pd, 0, none⟩), .pointer (some ⟨pn, 0, none⟩), .pointer (some ⟨pb, 0, none⟩)] w (Left fun k w' => k = (opAppend name.data.toList l M.cap M.fs).1 ∧ Next w w' base b { M with fs := (opAppend name.data.toList l M.cap M.fs).2 } F) := by
  have h' := h
  obtain ⟨h0, hf, S, s, hR, hs, hp, hP, rfl⟩ := h
  have hz2 : name.size ≤ maxLen := by unfold maxLen; omega
  have ht := tot_both hp
  have htl := hl.tot
  unfold opAppend
  rw [find_both hR hp]
  cases e : S.files.find? (named name.data.toList) with
  | none =>
    refine (append_clo_none pd pn pb base b S s name vb w hR hd hn hb e hz2).mono ?_
    rintro e w' ⟨k, rfl, rfl, t⟩
    exact ⟨3, rfl, rfl, h'.next_new t⟩
  | some f =>
    simp only [Option.map_some]
    by_cases hc : M.cap < (tot M.fs : Int) + l.length
    · rw [if_pos hc]
      obtain ⟨ao, c, rfl⟩ : ∃ ao c, vb = .slice ao l.length c := by obtain ⟨ao, c, rfl, _⟩ := hr; exact ⟨ao, c, by rw [bv_length]⟩
      refine (append_clo_full pd pn pb base b S s name ao l.length c f w hR hd hn hb e hz2 hs (by omega) (by rw [hP.cap, ← ht]; exact hc)).mono ?_
      rintro e w' ⟨k, rfl, rfl, t⟩
      exact ⟨5, rfl, rfl, h'.next_new t⟩
    · rw [if_neg hc]
      obtain ⟨hfm, hfn⟩ := find_mem e
      refine (append_clo_at pd pn pb base b S s name vb l f w hR hd hn hb (fun h => hpd (mem_footAll.2 (.inl h))) (fun h => hpb (mem_footAll.2 (.inl h))) e hz2 hr hs (by omega) (by rw [hP.cap, ← ht]; omega) h0 (le_total hfm)).mono ?_
      rintro e' w' ⟨k, rfl, rfl, row, s', hR', hs', t, hrow⟩
      have htm := total_mapF name.data.toList (addTo l row) S.files f e hR.names
      rw [show (addTo l row f).bytes.length = f.bytes.length + l.length from List.length_append] at htm
      refine ⟨0, rfl, rfl, next_cc h0 (hf.upd _ (fun _ => rfl) fun x hx _ => by have := hf.sy x hx; simp only [List.length_append]; omega) hR' (by rw [hs', hs]; omega) ?_ hP (fun k hk => ?_) t⟩
      · rw [map_mapF _ _ (fun x => (x.1, x.2.1 ++ l, x.2.2)) (fun _ => rfl)]
        exact hp.map _
      · exact foot_mapF (u := addTo l row) hR.names e (fun _ => rfl) rfl hrow hk

theorem sync_clo_none (pd pn base b : Nat) (S : DM) (s : DS) (name : ByteArray) (w : World) (hR : Rep w base b S s)
    (hd : w.cell? ⟨pd, 0, none⟩ = some (theDisk b)) (hn : w.cell? ⟨pn, 0, none⟩ = some (.string name)) (hf : S.files.find? (named name.data.toList) = none) (hl : name.size ≤ maxLen) :
    Calls Tryz.prog 67 #[.pointer (some ⟨pd, 0, none⟩), .pointer (some ⟨pn, 0, none⟩)] w (Left fun k w' => k = 3 ∧ Turn [] w w') := by
  have hlk : ∀ n, (Instr.lookup 69 s.fs (.string name) false).run Tryz.prog (w.drewN n) = .ok (.pointer none) (w.drewN n) := by
    intro n
    have := (hR.new ((Turn.refl [] w).drewN n)).look name hl
    rw [this]; simp [ptrOf, hf]
  have c5 := hR.disk.c5
  unfold theDisk at hd
  clear hR hf hl
  go_enter Tryz.func67, Tryz.ntmps67
  go_wp2
  go_quiet (fail)
  go_wp2
  go_ret
  exact ⟨3, rfl, rfl, (Turn.refl [] w).drewN _⟩

theorem cut_clo_none (pd pn pk base b : Nat) (S : DM) (s : DS) (name : ByteArray) (n : Int) (w : World) (hR : Rep w base b S s)
    (hd : w.cell? ⟨pd, 0, none⟩ = some (theDisk b)) (hn : w.cell? ⟨pn, 0, none⟩ = some (.string name)) (hk : w.cell? ⟨pk, 0, none⟩ = some (.int .i64 n)) (hf : S.files.find? (named name.data.toList) = none) (hl : name.size ≤ maxLen) :
    Calls Tryz.prog 66 #[.pointer (some ⟨pd, 0, none⟩), .pointer (some ⟨pn, 0, none⟩), .pointer (some ⟨pk, 0, none⟩)] w (Left fun k w' => k = 3 ∧ Turn [] w w') := by
  have hlk : ∀ n, (Instr.lookup 69 s.fs (.string name) false).run Tryz.prog (w.drewN n) = .ok (.pointer none) (w.drewN n) := by
    intro n
    have := (hR.new ((Turn.refl [] w).drewN n)).look name hl
    rw [this]; simp [ptrOf, hf]
  have c5 := hR.disk.c5
  unfold theDisk at hd
  clear hR hf hl
  go_enter Tryz.func66, Tryz.ntmps66
  go_wp2
  go_quiet (fail)
  go_wp2
  go_ret
  exact ⟨3, rfl, rfl, (Turn.refl [] w).drewN _⟩

theorem cut_clo_neg (pd pn pk base b : Nat) (S : DM) (s : DS) (name : ByteArray) (n : Int) (f : FM) (w : World) (hR : Rep w base b S s)
    (hd : w.cell? ⟨pd, 0, none⟩ = some (theDisk b)) (hn : w.cell? ⟨pn, 0, none⟩ = some (.string name)) (hk : w.cell? ⟨pk, 0, none⟩ = some (.int .i64 n))
    (hf : S.files.find? (named name.data.toList) = some f) (hl : name.size ≤ maxLen) (h0 : n < 0) :
    Calls Tryz.prog 66 #[.pointer (some ⟨pd, 0, none⟩), .pointer (some ⟨pn, 0, none⟩), .pointer (some ⟨pk, 0, none⟩)] w (Left fun k w' => k = 1 ∧ Turn [] w w') := by
  have hlk : ∀ n, (Instr.lookup 69 s.fs (.string name) false).run Tryz.prog (w.drewN n) = .ok (.pointer (some ⟨f.blk, 0, none⟩)) (w.drewN n) := by
    intro n
    have := (hR.new ((Turn.refl [] w).drewN n)).look name hl
    rw [this]; simp [ptrOf, hf]
  have c5 := hR.disk.c5
  obtain ⟨ao, c, hfc, _⟩ := (hR.files f (find_mem hf).1).own
  have f0 := hfc.c0
  have k2 : decide (n < 0) = true := by simp; omega
  unfold theDisk at hd
  clear hR hf hl hfc
  go_enter Tryz.func66, Tryz.ntmps66
  go_wp2
  go_quiet (fail)
  go_wp2
  go_quiet (fail)
  go_wp2
  go_ret
  rw [World.drewN_drewN]
  exact ⟨1, rfl, rfl, (Turn.refl [] w).drewN _⟩

theorem sync_cc (pd pn base b : Nat) (M : MD) (F : List Nat) (name : ByteArray) (w : World) (h : CD w base b M F)
    (hd : w.cell? ⟨pd, 0, none⟩ = some (theDisk b)) (hn : w.cell? ⟨pn, 0, none⟩ = some (.string name)) (hz : name.size ≤ 1000000) :
    Calls Tryz.prog 67 #[.pointer (some ⟨pd, 0, none⟩), .pointer (some ⟨pn, 0, none⟩)] w (Left fun k w' => k = (opSync name.data.toList M.cap M.fs).1 ∧ Next w w' base b { M with fs := (opSync name.data.toList M.cap M.fs).2 } F) := by
  have h' := h
  obtain ⟨h0, hf, S, s, hR, hs, hp, hP, rfl⟩ := h
  have hz2 : name.size ≤ maxLen := by unfold maxLen; omega
  unfold opSync
  rw [find_both hR hp]
  cases e : S.files.find? (named name.data.toList) with
  | none =>
    refine (sync_clo_none pd pn base b S s name w hR hd hn e hz2).mono ?_
    rintro e w' ⟨k, rfl, rfl, t⟩
    exact ⟨3, rfl, rfl, h'.next_new t⟩
  | some f =>
    simp only [Option.map_some]
    refine (sync_clo pd pn base b S s name f w hR hd hn e hz2 h0).mono ?_
    rintro e' w' ⟨k, rfl, rfl, s', hR', hs', t⟩
    have htm := total_mapF name.data.toList synced S.files f e hR.names
    rw [show (synced f).bytes.length = f.bytes.length from rfl] at htm
    refine ⟨0, rfl, rfl, next_cc h0 (hf.upd _ (fun _ => rfl) fun x hx _ => Nat.le_refl _) hR' (by rw [hs', hs]; omega) ?_ hP (fun k hk => ?_) t⟩
    · rw [map_mapF _ _ (fun x => (x.1, x.2.1, x.2.1.length)) (fun _ => rfl)]
      exact hp.map _
    · exact foot_mapF (u := synced) hR.names e (fun _ => rfl) rfl (.inl rfl) hk

theorem cut_cc (pd pn pk base b : Nat) (M : MD) (F : List Nat) (name : ByteArray) (n : Int) (w : World) (h : CD w base b M F) (hl : LimF M.fs)
    (hd : w.cell? ⟨pd, 0, none⟩ = some (theDisk b)) (hn : w.cell? ⟨pn, 0, none⟩ = some (.string name)) (hk : w.cell? ⟨pk, 0, none⟩ = some (.int .i64 n)) (hz : name.size ≤ 1000000) :
    Calls Tryz.prog 66 #[.pointer (some ⟨pd, 0, none⟩), .pointer (some ⟨pn, 0, none⟩), .pointer (some ⟨pk, 0, none⟩)] w (Left fun k w' => k = (opCut name.data.toList n M.cap M.fs).1 ∧ Next w w' base b { M with fs := (opCut name.data.toList n M.cap M.fs).2 } F) := by
  have h' := h
  obtain ⟨h0, hf, S, s, hR, hs, hp, hP, rfl⟩ := h
  have hz2 : name.size ≤ maxLen := by unfold maxLen; omega
  have ht := tot_both hp
  have htl := hl.tot
  unfold opCut
  rw [find_both hR hp]
  cases e : S.files.find? (named name.data.toList) with
  | none =>
    refine (cut_clo_none pd pn pk base b S s name n w hR hd hn hk e hz2).mono ?_
    rintro e w' ⟨k, rfl, rfl, t⟩
    exact ⟨3, rfl, rfl, h'.next_new t⟩
  | some f =>
    simp only [Option.map_some]
    have ev : (view f).2.1 = f.bytes := rfl
    rw [ev]
    by_cases hneg : n < 0
    · rw [if_pos (.inl hneg)]
      refine (cut_clo_neg pd pn pk base b S s name n f w hR hd hn hk e hz2 hneg).mono ?_
      rintro e w' ⟨k, rfl, rfl, t⟩
      exact ⟨1, rfl, rfl, h'.next_new t⟩
    · by_cases hbig : (f.bytes.length : Int) < n
      · rw [if_pos (.inr hbig)]
        refine (cut_bad pd pn pk base b S s name n f w hR hd hn hk e hz2 (by omega) hbig h0).mono ?_
        rintro e w' ⟨k, rfl, rfl, s', hR', hs', t⟩
        exact ⟨1, rfl, rfl, next_cc h0 hf hR' (by rw [hs', hs]) hp hP (fun k hk => .inl hk) t⟩
      · rw [if_neg (by rintro (h | h); exact hneg h; exact hbig h)]
        obtain ⟨n, rfl⟩ : ∃ q : Nat, n = q := ⟨n.toNat, (Int.toNat_of_nonneg (by omega)).symm⟩
        refine (cut_clo pd pn pk base b S s name n f w hR hd hn hk e hz2 (by omega) hs (by omega) h0).mono ?_
        rintro e' w' ⟨k, rfl, rfl, s', hR', hs', t⟩
        refine ⟨0, rfl, rfl, next_cc h0 (hf.upd _ (fun _ => rfl) fun x hx _ => by have := hf.sy x hx; simp only [List.length_take]; omega) hR' hs' ?_ hP (fun k hk => ?_) t⟩
        · rw [map_mapF _ _ (fun x => (x.1, x.2.1.take ((n : Int)).toNat, min x.2.2 ((n : Int)).toNat)) (fun _ => rfl)]
          exact hp.map _
        · exact foot_mapF (u := cutTo n) hR.names e (fun _ => rfl) rfl (.inl rfl) hk

end Go.Proofs.YthacjeeafnblmaaGreatDoor
