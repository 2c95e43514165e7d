/- The other calls of the code's disk, against the document's disk. Numbers and types by name. -/
import Derived.Test.YtmpjjnjggiipjaaClo
import Derived.Test.YtmpjjnjggiipjaaMod
/- The code's disk against the document's: what a writing call does, whatever its closure does. Numbers and types by name. -/
namespace Go.Proofs.Ytmpjjnjggiipjaa
open Go.RowKit Go.Maps Go.Sort Go.WideMaps

def view (f : FM) : Ent := (f.name, f.bytes, f.sy)
/-- All blocks of a disk. -/
def footAll (b : Nat) (S : DM) : List Nat := foot b S ++ (S.fr.toList ++ S.kr.toList)

structure Pl (S : DM) (M : MD) : Prop where
  cap : S.cap = M.cap
  cr : S.cr = M.cr
  ca : S.ca = M.n
  dn : S.dn = M.dn
  dw : S.dw = M.dw
  fail : S.fail = M.fail.mergeSort leI
  keep : S.keep = M.keep
  n0 : 0 ≤ M.n

/-- The code's disk at b is M; F: its blocks. -/
def CD (w : World) (base b : Nat) (M : MD) (F : List Nat) : Prop :=
  base ≤ w.heap.size ∧ Fit M.fs ∧ ∃ S s, Rep w base b S s ∧ s.sz = total S.files ∧ (S.files.map view).Perm M.fs ∧ Pl S M ∧ F = footAll b S

/-- How much may be on a disk. -/
structure LimF (fs : List Ent) : Prop where
  tot : tot fs < 900000000
  len : fs.length < 900000
structure Lim (M : MD) : Prop where
  n : M.n < 900000
  fs : LimF M.fs
  fail : M.fail.length < 900000
  keep : M.keep.length < 900000

def Next (w w' : World) (base b : Nat) (M' : MD) (F : List Nat) : Prop :=
  ∃ F', CD w' base b M' F' ∧ (∀ k ∈ F', k ∈ F ∨ w.heap.size ≤ k) ∧ Turn F w w'

theorem mem_footAll {b : Nat} {S : DM} {k : Nat} : k ∈ footAll b S ↔ k ∈ foot b S ∨ S.fr = some k ∨ S.kr = some k := by
  simp only [footAll, List.mem_append, Option.mem_toList]

theorem CD.lt {w : World} {base b : Nat} {M : MD} {F : List Nat} (h : CD w base b M F) : ∀ k ∈ F, base ≤ k ∧ k < w.heap.size := by
  obtain ⟨h0, _, S, s, hR, _, _, _, rfl⟩ := h
  intro k hk
  obtain ⟨ao, c, ao', c', h1, h2, h3, h4, h5, h6, h7, h8⟩ := hR.lists
  rcases mem_footAll.1 hk with hk | hk | hk
  · exact ⟨hR.low k hk, hR.lt k hk⟩
  · exact h3.lt k (h5.trans hk)
  · exact h4.lt k (h6.trans hk)
theorem CD.own {w : World} {base b : Nat} {M : MD} {F : List Nat} (h : CD w base b M F) : b ∈ F := by
  obtain ⟨_, _, S, s, hR, _, _, _, rfl⟩ := h
  exact mem_footAll.2 (.inl (by simp [foot]))
theorem CD.keep {w w' : World} {base b : Nat} {M : MD} {F G : List Nat} (h : CD w base b M F) (t : Turn G w w') (hd : ∀ k ∈ F, k ∉ G) : CD w' base b M F := by
  obtain ⟨h0, hf, S, s, hR, h1, h2, h3, rfl⟩ := h
  exact ⟨Nat.le_trans h0 t.size, hf, S, s, hR.keep t (fun k hk => hd k (mem_footAll.2 (.inl hk))) (fun g hg => hd g (mem_footAll.2 (.inr (.inl hg)))) (fun g hg => hd g (mem_footAll.2 (.inr (.inr hg)))), h1, h2, h3, rfl⟩
theorem CD.new {w w' : World} {base b : Nat} {M : MD} {F : List Nat} (h : CD w base b M F) (t : Turn [] w w') : CD w' base b M F := h.keep t (by simp)
theorem CD.next {w : World} {base b : Nat} {M : MD} {F : List Nat} (h : CD w base b M F) : Next w w base b M F := ⟨F, h, fun k hk => .inl hk, Turn.refl _ _⟩
theorem CD.next_new {w w' : World} {base b : Nat} {M : MD} {F : List Nat} (h : CD w base b M F) (t : Turn [] w w') : Next w w' base b M F := ⟨F, h.new t, fun k hk => .inl hk, t.mono (by simp)⟩
theorem Next.after {w w1 w' : World} {base b : Nat} {M' : MD} {F : List Nat} (t : Turn F w w1) (h : Next w1 w' base b M' F) : Next w w' base b M' F := by
  obtain ⟨F', h1, h2, h3⟩ := h
  exact ⟨F', h1, fun k hk => (h2 k hk).imp id (fun h => Nat.le_trans t.size h), t.trans h3⟩
/-- A call, and one behind it. -/
theorem Next.trans {w w1 w' : World} {base b : Nat} {M1 M2 : MD} {F F1 : List Nat} (h : CD w1 base b M1 F1) (hs : ∀ k ∈ F1, k ∈ F ∨ w.heap.size ≤ k) (t : Turn F w w1) (h2 : Next w1 w' base b M2 F1) : Next w w' base b M2 F := by
  obtain ⟨F', g1, g2, g3⟩ := h2
  refine ⟨F', g1, fun k hk => ?_, t.trans' g3 hs⟩
  rcases g2 k hk with g | g
  · exact hs k g
  · exact .inr (Nat.le_trans t.size g)

theorem tot_view (files : List FM) : tot (files.map view) = total files := by
  simp [tot, total, view, Function.comp_def]
theorem find_view (k : List UInt8) (files : List FM) : (files.map view).find? (isName k) = (files.find? (named k)).map view := by
  rw [List.find?_map]; rfl
theorem any_view (k : List UInt8) (files : List FM) : (files.map view).any (isName k) = files.any (named k) := by
  rw [List.any_map]; rfl
theorem map_mapF (k : List UInt8) (u : FM → FM) (v : Ent → Ent) (huv : ∀ g, view (u g) = v (view g)) (files : List FM) : (mapF k u files).map view = updE k v (files.map view) := by
  unfold mapF updE
  rw [List.map_map, List.map_map]
  apply List.map_congr_left
  intro g _
  simp only [Function.comp]
  have : isName k (view g) = named k g := rfl
  rw [this]
  split
  · exact huv g
  · rfl
theorem map_without (k : List UInt8) (files : List FM) : (without k files).map view = woE k (files.map view) := by
  unfold without woE
  rw [List.filter_map]
  rfl

/-- What the model finds, the code finds. -/
theorem find_both {w : World} {base b : Nat} {S : DM} {s : DS} {fs : List Ent} (hR : Rep w base b S s) (hp : (S.files.map view).Perm fs) (k : List UInt8) : fs.find? (isName k) = (S.files.find? (named k)).map view := by
  rw [← find_perm hp (by rw [List.map_map]; exact hR.names), find_view]
theorem any_both {S : DM} {fs : List Ent} (hp : (S.files.map view).Perm fs) (k : List UInt8) : fs.any (isName k) = S.files.any (named k) := by
  rw [← any_perm hp, any_view]
theorem tot_both {S : DM} {fs : List Ent} (hp : (S.files.map view).Perm fs) : tot fs = total S.files := by rw [← tot_perm hp, tot_view]
theorem len_both {S : DM} {fs : List Ent} (hp : (S.files.map view).Perm fs) : fs.length = S.files.length := by have := hp.length_eq; simpa using this.symm

theorem has_sort (zs : List Int) (x : Int) : (zs.mergeSort leI).contains x = zs.contains x := by
  rw [Bool.eq_iff_iff]
  simp [List.mem_mergeSort]

theorem CD.counted {w w' : World} {base b : Nat} {M : MD} {S : DM} {s : DS} (h0 : base ≤ w.heap.size) (hf : Fit M.fs) (hs : s.sz = total S.files) (hp : (S.files.map view).Perm M.fs) (hP : Pl S M) (d : Bool)
    (hR : Rep w' base b { S with ca := S.ca + 1, dw := d } { s with ca := S.ca + 1, dw := d }) (t : Turn [b] w w') : CD w' base b { M with n := M.n + 1, dw := d } (footAll b S) :=
  ⟨Nat.le_trans h0 t.size, hf, _, _, hR, hs, hp, ⟨hP.cap, hP.cr, by show S.ca + 1 = _; rw [hP.ca], hP.dn, rfl, hP.fail, hP.keep, by have := hP.n0; show 0 ≤ M.n + 1; omega⟩, rfl⟩

theorem met_any (base b g : Nat) (cb : Array Value) (M : MD) (F : List Nat) (op : Opn) (w : World) (h : CD w base b M F) (hl : Lim M)
    (hent : ∀ (args : Array Value) (w : World), (callFunc g args).run Try.prog w = .ok (.enter g args) w)
    (hcl : ∀ d w1, CD w1 base b { M with n := M.n + 1, dw := d } F → Turn F w w1 → Calls Try.prog g cb w1 (Left fun k w' => k = (op M.cap M.fs).1 ∧ Next w1 w' base b { M with n := M.n + 1, dw := d, fs := (op M.cap M.fs).2 } F)) :
    Calls Try.prog 32 #[theDisk b, .func (.func g) #[] cb] w (Left fun k w' => k = (M.act op).1 ∧ Next w w' base b (M.act op).2 F) := by
  have h' := h
  obtain ⟨h0, hf, S, s, hR, hs, hp, hP, rfl⟩ := h
  have hbF : ∀ x, x ∈ [b] → x ∈ footAll b S := by intro x hx; simp at hx; subst hx; exact h'.own
  have hn0 := hP.n0
  have hn1 := hl.n
  have hfl : S.fail.length < 1000000 := by rw [hP.fail, List.length_mergeSort]; have := hl.fail; omega
  have hcon : S.fail.contains (S.ca + 1) = M.fail.contains (M.n + 1) := by rw [hP.fail, has_sort, hP.ca]
  unfold MD.act
  by_cases hdw : M.dw = true
  · rw [if_pos hdw]
    refine (write_down base b g cb S s w hR (by rw [hP.dw, hdw])).mono ?_
    rintro e w' ⟨rfl, rfl⟩
    exact ⟨7, rfl, rfl, h'.next⟩
  · rw [if_neg hdw]
    rw [Bool.not_eq_true] at hdw
    have hdS : S.dw = false := by rw [hP.dw, hdw]
    have hsd : s.dw = false := by rw [hR.dw, hdS]
    have eM : ∀ fs, ({ M with n := M.n + 1, dw := false, fs := fs } : MD) = { M with n := M.n + 1, fs := fs } := fun fs => by rw [← hdw]
    have eM0 : ({ M with n := M.n + 1, dw := false } : MD) = { M with n := M.n + 1 } := by rw [← hdw]
    have eS : ({ S with ca := S.ca + 1, dw := false } : DM) = { S with ca := S.ca + 1 } := by rw [← hdS]
    have es : ({ s with ca := S.ca + 1, dw := false } : DS) = { s with ca := S.ca + 1 } := by rw [← hsd]
    by_cases hcr : M.n + 1 = M.cr
    · rw [if_pos hcr]
      have hcrS : S.ca + 1 = S.cr := by rw [hP.ca, hP.cr, hcr]
      by_cases hdn : M.dn = true
      rotate_left
      · rw [if_neg hdn]
        rw [Bool.not_eq_true] at hdn
        refine (write_crash base b g cb S s w hR hdS hcrS (by rw [hP.dn, hdn]) (by rw [hP.ca]; exact hn0) (by rw [hP.ca]; omega)).mono ?_
        rintro e w' ⟨rfl, hR', t⟩
        refine ⟨7, rfl, rfl, footAll b S, ?_, fun k hk => .inl hk, t.mono hbF⟩
        exact CD.counted h0 hf hs hp hP true hR' t
      · rw [if_pos hdn]
        refine (write_done base b g cb S s (fun _ w' => Next w w' base b { M with n := M.n + 1, dw := true, fs := (op M.cap M.fs).2 } (footAll b S)) w hR hdS hcrS (by rw [hP.dn, hdn]) (by rw [hP.ca]; exact hn0) (by rw [hP.ca]; omega) hent ?_).mono ?_
        · intro w1 hR1 t1
          refine (hcl true w1 (CD.counted h0 hf hs hp hP true hR1 t1) (t1.mono hbF)).mono ?_
          rintro e w' ⟨k, rfl, _, hN⟩
          exact ⟨k, rfl, hN.after (t1.mono hbF)⟩
        · rintro e w' ⟨rfl, k, hN⟩
          exact ⟨7, rfl, rfl, hN⟩
    · rw [if_neg hcr]
      have hcrS : S.ca + 1 ≠ S.cr := by rw [hP.ca, hP.cr]; exact hcr
      by_cases hfa : M.fail.contains (M.n + 1) = true
      · rw [if_pos hfa]
        refine (write_io base b g cb S s w hR hdS hcrS (by rw [hcon]; exact hfa) (by rw [hP.ca]; exact hn0) (by rw [hP.ca]; omega) hfl).mono ?_
        rintro e w' ⟨rfl, hR', t⟩
        refine ⟨6, rfl, rfl, footAll b S, ?_, fun k hk => .inl hk, t.mono hbF⟩
        rw [← eM0]
        exact CD.counted h0 hf hs hp hP false (by rw [eS, es]; exact hR') t
      · rw [if_neg hfa]
        rw [Bool.not_eq_true] at hfa
        refine write_run base b g cb S s _ w hR hdS hcrS (by rw [hcon]; exact hfa) (by rw [hP.ca]; exact hn0) (by rw [hP.ca]; omega) hfl hent ?_
        intro w1 hR1 t1
        refine (hcl false w1 (CD.counted h0 hf hs hp hP false (by rw [eS, es]; exact hR1) t1) (t1.mono hbF)).mono ?_
        rintro e w' ⟨k, rfl, hk, hN⟩
        refine ⟨k, rfl, hk, ?_⟩
        rw [← eM]
        exact hN.after (t1.mono hbF)

end Go.Proofs.Ytmpjjnjggiipjaa

/- The closures of the writing calls, against the document's disk. Numbers and types by name. -/
namespace Go.Proofs.Ytmpjjnjggiipjaa
open Go.RowKit Go.Maps Go.Sort Go.WideMaps

theorem name_nil {name : ByteArray} (h : name.data.toList = []) : name = ⟨#[]⟩ := by
  have h3 : name.data = #[] := by
    rw [← Array.toList_inj]
    simpa using h
  cases name
  simp only at h3
  rw [h3]
theorem name_empty (name : ByteArray) : name.toList.isEmpty = decide (name.data.toList = []) := by
  rw [ByteArray.toList_eq]
  cases name.data.toList <;> simp
theorem name_eq {a b : ByteArray} (h : a.data.toList = b.data.toList) : a = b := by
  cases a; cases b
  simp only at h
  rw [Array.toList_inj.1 h]
theorem name_beq (a b : ByteArray) : (a.toList == b.toList) = decide (a.data.toList = b.data.toList) := by
  rw [ByteArray.toList_eq, ByteArray.toList_eq, Bool.eq_iff_iff]
  simp

theorem next_of {w w' : World} {base b : Nat} {M : MD} {S : DM} {s' : DS} {fs' : List Ent} {x : List FM} {y : Option Nat} (h0 : base ≤ w.heap.size) (hf' : Fit fs') (hR' : Rep w' base b { S with files := x, mp := y } s') (hs' : s'.sz = total x)
    (hp' : (x.map view).Perm fs') (hP : Pl S M) (hfoot : ∀ k ∈ foot b { S with files := x, mp := y }, k ∈ foot b S ∨ w.heap.size ≤ k) (t : Turn (foot b S) w w') : Next w w' base b { M with fs := fs' } (footAll b S) := by
  refine ⟨footAll b { S with files := x, mp := y }, ⟨Nat.le_trans h0 t.size, hf', _, s', hR', hs', hp', ⟨hP.cap, hP.cr, hP.ca, hP.dn, hP.dw, hP.fail, hP.keep, hP.n0⟩, rfl⟩, fun k hk => ?_, t.mono fun k hk => mem_footAll.2 (.inl hk)⟩
  rcases mem_footAll.1 hk with hk | hk
  · exact (hfoot k hk).imp (fun h => mem_footAll.2 (.inl h)) id
  · exact .inl (mem_footAll.2 (.inr hk))

theorem mem_foot {b : Nat} {S : DM} {k : Nat} : k ∈ foot b S ↔ k = b ∨ S.mp = some k ∨ ∃ f ∈ S.files, k ∈ f.foot := by
  simp only [foot, List.mem_cons, List.mem_append, Option.mem_toList, List.mem_flatMap]

theorem create_cc (pn pd base b : Nat) (M : MD) (F : List Nat) (name : ByteArray) (w : World) (h : CD w base b M F) (hl : LimF M.fs) (hn : w.cell? ⟨pn, 0, none⟩ = some (.string name)) (hd : w.cell? ⟨pd, 0, none⟩ = some (theDisk b)) (hz : name.size ≤ 1000000) :
    Calls Try.prog 33 #[.pointer (some ⟨pn, 0, none⟩), .pointer (some ⟨pd, 0, none⟩)] w (Left fun k w' => k = (opCreate name.data.toList M.cap M.fs).1 ∧ Next w w' base b { M with fs := (opCreate name.data.toList M.cap M.fs).2 } F) := by
  have h' := h
  obtain ⟨h0, hf, S, s, hR, hs, hp, hP, rfl⟩ := h
  have hz2 : name.size ≤ maxLen := by unfold maxLen; omega
  unfold opCreate
  by_cases hk : name.data.toList = []
  · rw [if_pos hk]
    obtain rfl := name_nil hk
    refine (create_empty pn pd b w hn hd).mono ?_
    rintro e w' ⟨rfl, rfl⟩
    exact ⟨1, rfl, rfl, h'.next⟩
  · rw [if_neg hk]
    have hne : name.toList.isEmpty = false := by rw [name_empty]; simpa using hk
    by_cases ha : M.fs.any (isName name.data.toList) = true
    · rw [if_pos ha]
      obtain ⟨f, hff⟩ : ∃ f, S.files.find? (named name.data.toList) = some f := by
        rw [any_find, find_both hR hp] at ha
        cases e : S.files.find? (named name.data.toList) with
        | none => rw [e] at ha; cases ha
        | some f => exact ⟨f, rfl⟩
      refine (create_twice pn pd base b S s name f w hn hd hR hne hff hz2).mono ?_
      rintro e w' ⟨rfl, n, rfl⟩
      exact ⟨4, rfl, rfl, h'.next_new ((Turn.refl [] w).drewN n)⟩
    · rw [if_neg ha]
      rw [Bool.not_eq_true] at ha
      have ha2 := ha
      rw [any_both hp] at ha
      refine (create_new_at pn pd base b S s name w hn hd hR hne ha hz2 (by have := len_both hp; have := hl.len; unfold maxLen; omega) h0).mono ?_
      rintro e w' ⟨rfl, f, m, s', hm, h1, h2, h3, h4, h5, hR', h7, t⟩
      refine ⟨0, rfl, rfl, next_of h0 (hf.ins ha2 (Nat.le_refl _) hz) hR' (by rw [h7, hs]; simp [total, h2]) ?_ hP (fun k hk => ?_) (t.mono fun k hk => ?_)⟩
      · rw [List.map_append]
        refine (List.perm_append_comm.trans ?_).trans (insE_perm _ _).symm
        simpa [view, h1, h2, h3] using hp
      · rcases mem_foot.1 hk with rfl | hk | ⟨g, hg, hk⟩
        · exact .inl (mem_foot.2 (.inl rfl))
        · have : m = k := by simpa using hk
          subst this
          exact hm.imp (fun h => mem_foot.2 (.inr (.inl h))) id
        · rcases List.mem_append.1 hg with hg | hg
          · exact .inl (mem_foot.2 (.inr (.inr ⟨g, hg, hk⟩)))
          · rw [List.mem_singleton] at hg
            rw [hg] at hk
            have hk2 : k = f.blk := by simpa [FM.foot, h5] using hk
            rw [hk2]
            exact .inr h4
      · simp only [List.mem_cons, Option.mem_toList] at hk
        exact mem_foot.2 (hk.imp id .inl)

/-- One file turns, its block stays. -/
theorem foot_mapF {w : World} {b : Nat} {S : DM} {k : Nat} {nm : List UInt8} {u : FM → FM} {row : Option Nat} {f : FM} (hn : (S.files.map (·.name)).Nodup) (hf : S.files.find? (named nm) = some f) (hb : ∀ g, (u g).blk = g.blk) (hu : (u f).row = row) (hrow : row = f.row ∨ ∃ g, row = some g ∧ w.heap.size ≤ g)
    (hk : k ∈ foot b { S with files := mapF nm u S.files }) : k ∈ foot b S ∨ w.heap.size ≤ k := by
  obtain ⟨hfm, hfn⟩ := find_mem hf
  rcases mem_foot.1 hk with rfl | hk | ⟨g, hg, hk⟩
  · exact .inl (mem_foot.2 (.inl rfl))
  · exact .inl (mem_foot.2 (.inr (.inl hk)))
  · obtain ⟨g0, hg0, rfl⟩ := List.mem_map.1 hg
    by_cases hnm : named nm g0 = true
    · rw [if_pos hnm] at hk
      have e : g0 = f := only_named hn hg0 hfm (by rw [hfn]; simpa [named] using hnm)
      subst e
      simp only [FM.foot, List.mem_cons, Option.mem_toList] at hk
      rcases hk with hk | hk
      · exact .inl (mem_foot.2 (.inr (.inr ⟨g0, hg0, by simp [FM.foot, hk, hb]⟩)))
      · rw [hu] at hk
        rcases hrow with e | ⟨g, e, hg2⟩
        · rw [e] at hk
          exact .inl (mem_foot.2 (.inr (.inr ⟨g0, hg0, by simp [FM.foot, hk]⟩)))
        · rw [e] at hk
          have : g = k := by simpa using hk
          subst this
          exact .inr hg2
    · rw [if_neg hnm] at hk
      exact .inl (mem_foot.2 (.inr (.inr ⟨g0, hg0, hk⟩)))

theorem append_cc (pd pn pb base b : Nat) (M : MD) (F : List Nat) (name : ByteArray) (vb : Value) (l : List UInt8) (w : World) (h : CD w base b M F) (hl : LimF M.fs)
    (hd : w.cell? ⟨pd, 0, none⟩ = some (theDisk b)) (hn : w.cell? ⟨pn, 0, none⟩ = some (.string name)) (hb : w.cell? ⟨pb, 0, none⟩ = some vb) (hpd : pd ∉ F) (hpb : pb ∉ F) (hz : name.size ≤ 1000000) (hr : Reads w vb (bv l)) (hll : l.length ≤ 50000000) :
    Calls Try.prog 35 #[.pointer (some ⟨pd, 0, none⟩), .pointer (some ⟨pn, 0, none⟩), .pointer (some ⟨pb, 0, none⟩)] w (Left fun k w' => k = (opAppend name.data.toList l M.cap M.fs).1 ∧ Next w w' base b { M with fs := (opAppend name.data.toList l M.cap M.fs).2 } F) := by
  have h' := h
  obtain ⟨h0, hf, S, s, hR, hs, hp, hP, rfl⟩ := h
  have hz2 : name.size ≤ maxLen := by unfold maxLen; omega
  have ht := tot_both hp
  have htl := hl.tot
  unfold opAppend
  rw [find_both hR hp]
  cases e : S.files.find? (named name.data.toList) with
  | none =>
    refine (append_clo_none pd pn pb base b S s name vb w hR hd hn hb e hz2).mono ?_
    rintro e w' ⟨k, rfl, rfl, t⟩
    exact ⟨3, rfl, rfl, h'.next_new t⟩
  | some f =>
    simp only [Option.map_some]
    by_cases hc : M.cap < (tot M.fs : Int) + l.length
    · rw [if_pos hc]
      obtain ⟨ao, c, rfl⟩ : ∃ ao c, vb = .slice ao l.length c := by obtain ⟨ao, c, rfl, _⟩ := hr; exact ⟨ao, c, by rw [bv_length]⟩
      refine (append_clo_full pd pn pb base b S s name ao l.length c f w hR hd hn hb e hz2 hs (by omega) (by rw [hP.cap, ← ht]; exact hc)).mono ?_
      rintro e w' ⟨k, rfl, rfl, t⟩
      exact ⟨5, rfl, rfl, h'.next_new t⟩
    · rw [if_neg hc]
      obtain ⟨hfm, hfn⟩ := find_mem e
      refine (append_clo_at pd pn pb base b S s name vb l f w hR hd hn hb (fun h => hpd (mem_footAll.2 (.inl h))) (fun h => hpb (mem_footAll.2 (.inl h))) e hz2 hr hs (by omega) (by rw [hP.cap, ← ht]; omega) h0 (le_total hfm)).mono ?_
      rintro e' w' ⟨k, rfl, rfl, row, s', hR', hs', t, hrow⟩
      have htm := total_mapF name.data.toList (addTo l row) S.files f e hR.names
      rw [show (addTo l row f).bytes.length = f.bytes.length + l.length from List.length_append] at htm
      refine ⟨0, rfl, rfl, next_of h0 (hf.upd _ (fun _ => rfl) fun x hx _ => by have := hf.sy x hx; simp only [List.length_append]; omega) hR' (by rw [hs', hs]; omega) ?_ hP (fun k hk => ?_) t⟩
      · rw [map_mapF _ _ (fun x => (x.1, x.2.1 ++ l, x.2.2)) (fun _ => rfl)]
        exact hp.map _
      · exact foot_mapF (u := addTo l row) hR.names e (fun _ => rfl) rfl hrow hk

theorem sync_clo_none (pd pn base b : Nat) (S : DM) (s : DS) (name : ByteArray) (w : World) (hR : Rep w base b S s)
    (hd : w.cell? ⟨pd, 0, none⟩ = some (theDisk b)) (hn : w.cell? ⟨pn, 0, none⟩ = some (.string name)) (hf : S.files.find? (named name.data.toList) = none) (hl : name.size ≤ maxLen) :
    Calls Try.prog 36 #[.pointer (some ⟨pd, 0, none⟩), .pointer (some ⟨pn, 0, none⟩)] w (Left fun k w' => k = 3 ∧ Turn [] w w') := by
  have hlk : ∀ n, (Instr.lookup 49 s.fs (.string name) false).run Try.prog (w.drewN n) = .ok (.pointer none) (w.drewN n) := by
    intro n
    have := (hR.new ((Turn.refl [] w).drewN n)).look name hl
    rw [this]; simp [ptrOf, hf]
  have c5 := hR.disk.c5
  unfold theDisk at hd
  clear hR hf hl
  go_enter Try.func36, Try.ntmps36
  go_wp2
  go_quiet (fail)
  go_wp2
  go_ret
  exact ⟨3, rfl, rfl, (Turn.refl [] w).drewN _⟩

theorem cut_clo_none (pd pn pk base b : Nat) (S : DM) (s : DS) (name : ByteArray) (n : Int) (w : World) (hR : Rep w base b S s)
    (hd : w.cell? ⟨pd, 0, none⟩ = some (theDisk b)) (hn : w.cell? ⟨pn, 0, none⟩ = some (.string name)) (hk : w.cell? ⟨pk, 0, none⟩ = some (.int .i64 n)) (hf : S.files.find? (named name.data.toList) = none) (hl : name.size ≤ maxLen) :
    Calls Try.prog 46 #[.pointer (some ⟨pd, 0, none⟩), .pointer (some ⟨pn, 0, none⟩), .pointer (some ⟨pk, 0, none⟩)] w (Left fun k w' => k = 3 ∧ Turn [] w w') := by
  have hlk : ∀ n, (Instr.lookup 49 s.fs (.string name) false).run Try.prog (w.drewN n) = .ok (.pointer none) (w.drewN n) := by
    intro n
    have := (hR.new ((Turn.refl [] w).drewN n)).look name hl
    rw [this]; simp [ptrOf, hf]
  have c5 := hR.disk.c5
  unfold theDisk at hd
  clear hR hf hl
  go_enter Try.func46, Try.ntmps46
  go_wp2
  go_quiet (fail)
  go_wp2
  go_ret
  exact ⟨3, rfl, rfl, (Turn.refl [] w).drewN _⟩

theorem cut_clo_neg (pd pn pk base b : Nat) (S : DM) (s : DS) (name : ByteArray) (n : Int) (f : FM) (w : World) (hR : Rep w base b S s)
    (hd : w.cell? ⟨pd, 0, none⟩ = some (theDisk b)) (hn : w.cell? ⟨pn, 0, none⟩ = some (.string name)) (hk : w.cell? ⟨pk, 0, none⟩ = some (.int .i64 n))
    (hf : S.files.find? (named name.data.toList) = some f) (hl : name.size ≤ maxLen) (h0 : n < 0) :
    Calls Try.prog 46 #[.pointer (some ⟨pd, 0, none⟩), .pointer (some ⟨pn, 0, none⟩), .pointer (some ⟨pk, 0, none⟩)] w (Left fun k w' => k = 1 ∧ Turn [] w w') := by
  have hlk : ∀ n, (Instr.lookup 49 s.fs (.string name) false).run Try.prog (w.drewN n) = .ok (.pointer (some ⟨f.blk, 0, none⟩)) (w.drewN n) := by
    intro n
    have := (hR.new ((Turn.refl [] w).drewN n)).look name hl
    rw [this]; simp [ptrOf, hf]
  have c5 := hR.disk.c5
  obtain ⟨ao, c, hfc, _⟩ := (hR.files f (find_mem hf).1).own
  have f0 := hfc.c0
  have k2 : decide (n < 0) = true := by simp; omega
  unfold theDisk at hd
  clear hR hf hl hfc
  go_enter Try.func46, Try.ntmps46
  go_wp2
  go_quiet (fail)
  go_wp2
  go_quiet (fail)
  go_wp2
  go_ret
  rw [World.drewN_drewN]
  exact ⟨1, rfl, rfl, (Turn.refl [] w).drewN _⟩

theorem sync_cc (pd pn base b : Nat) (M : MD) (F : List Nat) (name : ByteArray) (w : World) (h : CD w base b M F)
    (hd : w.cell? ⟨pd, 0, none⟩ = some (theDisk b)) (hn : w.cell? ⟨pn, 0, none⟩ = some (.string name)) (hz : name.size ≤ 1000000) :
    Calls Try.prog 36 #[.pointer (some ⟨pd, 0, none⟩), .pointer (some ⟨pn, 0, none⟩)] w (Left fun k w' => k = (opSync name.data.toList M.cap M.fs).1 ∧ Next w w' base b { M with fs := (opSync name.data.toList M.cap M.fs).2 } F) := by
  have h' := h
  obtain ⟨h0, hf, S, s, hR, hs, hp, hP, rfl⟩ := h
  have hz2 : name.size ≤ maxLen := by unfold maxLen; omega
  unfold opSync
  rw [find_both hR hp]
  cases e : S.files.find? (named name.data.toList) with
  | none =>
    refine (sync_clo_none pd pn base b S s name w hR hd hn e hz2).mono ?_
    rintro e w' ⟨k, rfl, rfl, t⟩
    exact ⟨3, rfl, rfl, h'.next_new t⟩
  | some f =>
    simp only [Option.map_some]
    refine (sync_clo pd pn base b S s name f w hR hd hn e hz2 h0).mono ?_
    rintro e' w' ⟨k, rfl, rfl, s', hR', hs', t⟩
    have htm := total_mapF name.data.toList synced S.files f e hR.names
    rw [show (synced f).bytes.length = f.bytes.length from rfl] at htm
    refine ⟨0, rfl, rfl, next_of h0 (hf.upd _ (fun _ => rfl) fun x hx _ => Nat.le_refl _) hR' (by rw [hs', hs]; omega) ?_ hP (fun k hk => ?_) t⟩
    · rw [map_mapF _ _ (fun x => (x.1, x.2.1, x.2.1.length)) (fun _ => rfl)]
      exact hp.map _
    · exact foot_mapF (u := synced) hR.names e (fun _ => rfl) rfl (.inl rfl) hk

theorem cut_cc (pd pn pk base b : Nat) (M : MD) (F : List Nat) (name : ByteArray) (n : Int) (w : World) (h : CD w base b M F) (hl : LimF M.fs)
    (hd : w.cell? ⟨pd, 0, none⟩ = some (theDisk b)) (hn : w.cell? ⟨pn, 0, none⟩ = some (.string name)) (hk : w.cell? ⟨pk, 0, none⟩ = some (.int .i64 n)) (hz : name.size ≤ 1000000) :
    Calls Try.prog 46 #[.pointer (some ⟨pd, 0, none⟩), .pointer (some ⟨pn, 0, none⟩), .pointer (some ⟨pk, 0, none⟩)] w (Left fun k w' => k = (opCut name.data.toList n M.cap M.fs).1 ∧ Next w w' base b { M with fs := (opCut name.data.toList n M.cap M.fs).2 } F) := by
  have h' := h
  obtain ⟨h0, hf, S, s, hR, hs, hp, hP, rfl⟩ := h
  have hz2 : name.size ≤ maxLen := by unfold maxLen; omega
  have ht := tot_both hp
  have htl := hl.tot
  unfold opCut
  rw [find_both hR hp]
  cases e : S.files.find? (named name.data.toList) with
  | none =>
    refine (cut_clo_none pd pn pk base b S s name n w hR hd hn hk e hz2).mono ?_
    rintro e w' ⟨k, rfl, rfl, t⟩
    exact ⟨3, rfl, rfl, h'.next_new t⟩
  | some f =>
    simp only [Option.map_some]
    have ev : (view f).2.1 = f.bytes := rfl
    rw [ev]
    by_cases hneg : n < 0
    · rw [if_pos (.inl hneg)]
      refine (cut_clo_neg pd pn pk base b S s name n f w hR hd hn hk e hz2 hneg).mono ?_
      rintro e w' ⟨k, rfl, rfl, t⟩
      exact ⟨1, rfl, rfl, h'.next_new t⟩
    · by_cases hbig : (f.bytes.length : Int) < n
      · rw [if_pos (.inr hbig)]
        refine (cut_bad pd pn pk base b S s name n f w hR hd hn hk e hz2 (by omega) hbig h0).mono ?_
        rintro e w' ⟨k, rfl, rfl, s', hR', hs', t⟩
        exact ⟨1, rfl, rfl, next_of h0 hf hR' (by rw [hs', hs]) hp hP (fun k hk => .inl hk) t⟩
      · rw [if_neg (by rintro (h | h); exact hneg h; exact hbig h)]
        obtain ⟨n, rfl⟩ : ∃ q : Nat, n = q := ⟨n.toNat, (Int.toNat_of_nonneg (by omega)).symm⟩
        refine (cut_clo pd pn pk base b S s name n f w hR hd hn hk e hz2 (by omega) hs (by omega) h0).mono ?_
        rintro e' w' ⟨k, rfl, rfl, s', hR', hs', t⟩
        refine ⟨0, rfl, rfl, next_of h0 (hf.upd _ (fun _ => rfl) fun x hx _ => by have := hf.sy x hx; simp only [List.length_take]; omega) hR' hs' ?_ hP (fun k hk => ?_) t⟩
        · rw [map_mapF _ _ (fun x => (x.1, x.2.1.take ((n : Int)).toNat, min x.2.2 ((n : Int)).toNat)) (fun _ => rfl)]
          exact hp.map _
        · exact foot_mapF (u := cutTo n) hR.names e (fun _ => rfl) rfl (.inl rfl) hk

theorem remove_cc (pd pn base b : Nat) (M : MD) (F : List Nat) (name : ByteArray) (w : World) (h : CD w base b M F) (hl : LimF M.fs)
    (hd : w.cell? ⟨pd, 0, none⟩ = some (theDisk b)) (hn : w.cell? ⟨pn, 0, none⟩ = some (.string name)) (hz : name.size ≤ 1000000) :
    Calls Try.prog 50 #[.pointer (some ⟨pd, 0, none⟩), .pointer (some ⟨pn, 0, none⟩)] w (Left fun k w' => k = (opRemove name.data.toList M.cap M.fs).1 ∧ Next w w' base b { M with fs := (opRemove name.data.toList M.cap M.fs).2 } F) := by
  have h' := h
  obtain ⟨h0, hf, S, s, hR, hs, hp, hP, rfl⟩ := h
  have hz2 : name.size ≤ maxLen := by unfold maxLen; omega
  have ht := tot_both hp
  have htl := hl.tot
  unfold opRemove
  rw [find_both hR hp]
  cases e : S.files.find? (named name.data.toList) with
  | none =>
    refine (remove_clo_none pd pn base b S s name w hR hd hn e hz2).mono ?_
    rintro e w' ⟨k, rfl, rfl, t⟩
    exact ⟨3, rfl, rfl, h'.next_new t⟩
  | some f =>
    simp only [Option.map_some]
    refine (remove_clo_some pd pn base b S s name f w hR hd hn e hz2 hs (by omega) h0).mono ?_
    rintro e' w' ⟨k, rfl, rfl, s', hR', hs', t⟩
    refine ⟨0, rfl, rfl, next_of h0 (hf.wo _) hR' hs' ?_ hP (fun k hk => ?_) t⟩
    · rw [map_without]
      exact hp.filter _
    · rcases mem_foot.1 hk with rfl | hk | ⟨g, hg, hk⟩
      · exact .inl (mem_foot.2 (.inl rfl))
      · exact .inl (mem_foot.2 (.inr (.inl hk)))
      · exact .inl (mem_foot.2 (.inr (.inr ⟨g, (mem_without hg).1, hk⟩)))

theorem rename_cc (pd pn pt base b : Nat) (M : MD) (F : List Nat) (src dst : ByteArray) (w : World) (h : CD w base b M F) (hl : LimF M.fs)
    (hd : w.cell? ⟨pd, 0, none⟩ = some (theDisk b)) (hn : w.cell? ⟨pn, 0, none⟩ = some (.string src)) (htd : w.cell? ⟨pt, 0, none⟩ = some (.string dst)) (hpd : pd ∉ F) (hpn : pn ∉ F) (hpt : pt ∉ F) (hz : src.size ≤ 1000000) (hy : dst.size ≤ 1000000) :
    Calls Try.prog 47 #[.pointer (some ⟨pd, 0, none⟩), .pointer (some ⟨pn, 0, none⟩), .pointer (some ⟨pt, 0, none⟩)] w (Left fun k w' => k = (opRename src.data.toList dst.data.toList M.cap M.fs).1 ∧ Next w w' base b { M with fs := (opRename src.data.toList dst.data.toList M.cap M.fs).2 } F) := by
  have h' := h
  obtain ⟨h0, hf, S, s, hR, hs, hp, hP, rfl⟩ := h
  have hz2 : src.size ≤ maxLen := by unfold maxLen; omega
  have hy2 : dst.size ≤ maxLen := by unfold maxLen; omega
  have ht := tot_both hp
  have htl := hl.tot
  unfold opRename
  rw [find_both hR hp]
  cases e : S.files.find? (named src.data.toList) with
  | none =>
    refine (rename_clo_none pd pn pt base b S s src dst w hR hd hn htd e hz2).mono ?_
    rintro e w' ⟨k, rfl, rfl, t⟩
    exact ⟨3, rfl, rfl, h'.next_new t⟩
  | some f =>
    simp only [Option.map_some]
    obtain ⟨hfm, hfn⟩ := find_mem e
    by_cases hdn : dst.data.toList = []
    · rw [if_pos hdn]
      obtain rfl := name_nil hdn
      refine (rename_clo_arg pd pn pt base b S s src f w hR hd hn htd e hz2).mono ?_
      rintro e w' ⟨k, rfl, rfl, t⟩
      exact ⟨1, rfl, rfl, h'.next_new t⟩
    · rw [if_neg hdn]
      have hne : dst.toList.isEmpty = false := by rw [name_empty]; simpa using hdn
      by_cases heq : src.data.toList = dst.data.toList
      · rw [if_pos heq]
        obtain rfl := name_eq heq
        refine (rename_clo_same pd pn pt base b S s src f w hR hd hn htd e hne hz2).mono ?_
        rintro e w' ⟨k, rfl, rfl, t⟩
        exact ⟨0, rfl, rfl, h'.next_new t⟩
      · rw [if_neg heq]
        have hst : (src.toList == dst.toList) = false := by rw [name_beq]; simpa using heq
        refine (rename_clo_at pd pn pt base b S s src dst f w hR hd hn htd (fun h => hpd (mem_footAll.2 (.inl h))) (fun h => hpn (mem_footAll.2 (.inl h))) (fun h => hpt (mem_footAll.2 (.inl h))) e hne hst heq hz2 hy2 hs (by omega) h0 (by have := len_both hp; have := hl.len; unfold maxLen; omega)).mono ?_
        rintro e' w' ⟨k, rfl, rfl, m, s', hm, hR', hs', t⟩
        have hnd : ((without dst.data.toList S.files).map (·.name)).Nodup := hR.names.sublist (List.filter_sublist.map _)
        have htw := total_without src.data.toList (without dst.data.toList S.files) f (find_keep e heq) hnd
        have hfe : (f.name, f.bytes, f.sy) ∈ M.fs := hp.mem_iff.1 (List.mem_map.2 ⟨f, hfm, rfl⟩)
        refine ⟨0, rfl, rfl, next_of h0 (((hf.wo _).wo _).ins (by rw [woE_any, if_pos rfl]) (hf.sy (f.name, f.bytes, f.sy) hfe) hy) hR' ?_ ?_ hP (fun k hk => ?_) t⟩
        · rw [hs']
          simp only [renamed, total, List.map_append, List.map_cons, List.map_nil, List.sum_append, List.sum_cons, List.sum_nil] at htw ⊢
          omega
        · rw [renamed, List.map_append, map_without, map_without]
          have hcm : woE src.data.toList (woE dst.data.toList (S.files.map view)) = woE dst.data.toList (woE src.data.toList (S.files.map view)) := by
            unfold woE
            rw [List.filter_filter, List.filter_filter]
            congr 1
            funext x
            exact Bool.and_comm _ _
          rw [hcm]
          refine (List.perm_append_comm.trans ?_).trans (insE_perm _ _).symm
          exact ((hp.filter _).filter _).cons _
        · rcases mem_foot.1 hk with rfl | hk | ⟨g, hg, hk⟩
          · exact .inl (mem_foot.2 (.inl rfl))
          · have : m = k := by simpa using hk
            subst this
            exact hm.imp (fun h => mem_foot.2 (.inr (.inl h))) id
          · rcases List.mem_append.1 hg with hg | hg
            · exact .inl (mem_foot.2 (.inr (.inr ⟨g, (mem_without (mem_without hg).1).1, hk⟩)))
            · rw [List.mem_singleton] at hg
              rw [hg] at hk
              exact .inl (mem_foot.2 (.inr (.inr ⟨f, hfm, hk⟩)))

end Go.Proofs.Ytmpjjnjggiipjaa

/- The writing calls of the code's disk, against the document's disk. Numbers and types by name. -/
namespace Go.Proofs.Ytmpjjnjggiipjaa
open Go.RowKit Go.Maps Go.Sort Go.WideMaps

theorem box_old {w : World} {p : Nat} {v : Value} (h : w.cell? ⟨p, 0, none⟩ = some v) (o : Obj) : (w.alloc o).cell? ⟨p, 0, none⟩ = some v :=
  cell_turn ((Turn.refl [] w).alloc o) (by simp) h
theorem box_new (w : World) (v : Value) (t : TypeId) (p : Nat) (hp : p = w.heap.size) : (w.alloc (.cells #[v] t)).cell? ⟨p, 0, none⟩ = some v := by
  subst hp
  exact box_at (Turn.refl [] _) (by simp)

theorem sync_via (b : Nat) (name : ByteArray) (w : World) (R : Int → World → Prop)
    (hw : ∀ W, W = (w.alloc (.cells #[theDisk b] 28)).alloc (.cells #[.string name] 9) →
      Calls Try.prog 32 #[theDisk b, .func (.func 36) #[] #[.pointer (some ⟨w.heap.size, 0, none⟩), .pointer (some ⟨w.heap.size + 1, 0, none⟩)]] W (Left R)) :
    Calls Try.prog 14 #[theDisk b, .string name] w (Left R) := by
  have hmf := hmf
  unfold theDisk at hw
  unfold theDisk
  go_enter Try.func14, Try.ntmps14
  go_wp2_with fail
  refine (hw _ rfl).mono ?_
  rintro e w' ⟨k, rfl, hk⟩
  have HK := Lib.hid hk
  clear hk hw
  go_wp2
  go_ret
  exact ⟨k, rfl, HK.out⟩

theorem remove_via (b : Nat) (name : ByteArray) (w : World) (R : Int → World → Prop)
    (hw : ∀ W, W = (w.alloc (.cells #[theDisk b] 28)).alloc (.cells #[.string name] 9) →
      Calls Try.prog 32 #[theDisk b, .func (.func 50) #[] #[.pointer (some ⟨w.heap.size, 0, none⟩), .pointer (some ⟨w.heap.size + 1, 0, none⟩)]] W (Left R)) :
    Calls Try.prog 26 #[theDisk b, .string name] w (Left R) := by
  have hmf := hmf
  unfold theDisk at hw
  unfold theDisk
  go_enter Try.func26, Try.ntmps26
  go_wp2_with fail
  refine (hw _ rfl).mono ?_
  rintro e w' ⟨k, rfl, hk⟩
  have HK := Lib.hid hk
  clear hk hw
  go_wp2
  go_ret
  exact ⟨k, rfl, HK.out⟩

theorem cut_via (b : Nat) (name : ByteArray) (n : Int) (w : World) (R : Int → World → Prop)
    (hw : ∀ W, W = ((w.alloc (.cells #[theDisk b] 28)).alloc (.cells #[.string name] 9)).alloc (.cells #[.int .i64 n] 3) →
      Calls Try.prog 32 #[theDisk b, .func (.func 46) #[] #[.pointer (some ⟨w.heap.size, 0, none⟩), .pointer (some ⟨w.heap.size + 1, 0, none⟩), .pointer (some ⟨w.heap.size + 1 + 1, 0, none⟩)]] W (Left R)) :
    Calls Try.prog 22 #[theDisk b, .string name, .int .i64 n] w (Left R) := by
  have hmf := hmf
  unfold theDisk at hw
  unfold theDisk
  go_enter Try.func22, Try.ntmps22
  go_wp2_with fail
  refine (hw _ rfl).mono ?_
  rintro e w' ⟨k, rfl, hk⟩
  have HK := Lib.hid hk
  clear hk hw
  go_wp2
  go_ret
  exact ⟨k, rfl, HK.out⟩

theorem rename_via (b : Nat) (src dst : ByteArray) (w : World) (R : Int → World → Prop)
    (hw : ∀ W, W = ((w.alloc (.cells #[theDisk b] 28)).alloc (.cells #[.string src] 9)).alloc (.cells #[.string dst] 9) →
      Calls Try.prog 32 #[theDisk b, .func (.func 47) #[] #[.pointer (some ⟨w.heap.size, 0, none⟩), .pointer (some ⟨w.heap.size + 1, 0, none⟩), .pointer (some ⟨w.heap.size + 1 + 1, 0, none⟩)]] W (Left R)) :
    Calls Try.prog 24 #[theDisk b, .string src, .string dst] w (Left R) := by
  have hmf := hmf
  unfold theDisk at hw
  unfold theDisk
  go_enter Try.func24, Try.ntmps24
  go_wp2_with fail
  refine (hw _ rfl).mono ?_
  rintro e w' ⟨k, rfl, hk⟩
  have HK := Lib.hid hk
  clear hk hw
  go_wp2
  go_ret
  exact ⟨k, rfl, HK.out⟩

/-- What a writing call of the code leaves. -/
def Acted (w : World) (base b : Nat) (M : MD) (F : List Nat) (op : Opn) : Int → World → Prop := fun k w' => k = (M.act op).1 ∧ Next w w' base b (M.act op).2 F

theorem create_cd (base b : Nat) (M : MD) (F : List Nat) (name : ByteArray) (w : World) (h : CD w base b M F) (hl : Lim M) (hz : name.size ≤ 1000000) :
    Calls Try.prog 12 #[theDisk b, .string name] w (Left (Acted w base b M F (opCreate name.data.toList))) := by
  have hn : ∀ j, w.heap.size ≤ j → j ∉ F := fun j hj hm => by have := (h.lt j hm).2; omega
  refine create_via b name w _ ?_
  rintro W rfl
  have t0 : Turn [] w ((w.alloc (.cells #[theDisk b] 28)).alloc (.cells #[.string name] 9)) := ((Turn.refl [] w).alloc _).alloc _
  refine (met_any base b _ _ M F (opCreate name.data.toList) _ (h.new t0) hl (enters_of Try.func33 (by kernel_rfl) rfl) ?_).mono ?_
  · intro d w1 h1 t1
    exact create_cc _ _ base b { M with n := M.n + 1, dw := d } F name w1 h1 hl.fs (cell_turn t1 (hn _ (by omega)) (box_new _ _ _ _ (by simp))) (cell_turn t1 (hn _ (Nat.le_refl _)) (box_old (box_new _ _ _ _ rfl) _)) hz
  · rintro e w' ⟨k, rfl, hk, hN⟩
    exact ⟨k, rfl, hk, hN.after (t0.mono (by simp))⟩

theorem sync_cd (base b : Nat) (M : MD) (F : List Nat) (name : ByteArray) (w : World) (h : CD w base b M F) (hl : Lim M) (hz : name.size ≤ 1000000) :
    Calls Try.prog 14 #[theDisk b, .string name] w (Left (Acted w base b M F (opSync name.data.toList))) := by
  have hn : ∀ j, w.heap.size ≤ j → j ∉ F := fun j hj hm => by have := (h.lt j hm).2; omega
  refine sync_via b name w _ ?_
  rintro W rfl
  have t0 : Turn [] w ((w.alloc (.cells #[theDisk b] 28)).alloc (.cells #[.string name] 9)) := ((Turn.refl [] w).alloc _).alloc _
  refine (met_any base b _ _ M F (opSync name.data.toList) _ (h.new t0) hl (enters_of Try.func36 (by kernel_rfl) rfl) ?_).mono ?_
  · intro d w1 h1 t1
    exact sync_cc _ _ base b { M with n := M.n + 1, dw := d } F name w1 h1 (cell_turn t1 (hn _ (Nat.le_refl _)) (box_old (box_new _ _ _ _ rfl) _)) (cell_turn t1 (hn _ (by omega)) (box_new _ _ _ _ (by simp))) hz
  · rintro e w' ⟨k, rfl, hk, hN⟩
    exact ⟨k, rfl, hk, hN.after (t0.mono (by simp))⟩

theorem remove_cd (base b : Nat) (M : MD) (F : List Nat) (name : ByteArray) (w : World) (h : CD w base b M F) (hl : Lim M) (hz : name.size ≤ 1000000) :
    Calls Try.prog 26 #[theDisk b, .string name] w (Left (Acted w base b M F (opRemove name.data.toList))) := by
  have hn : ∀ j, w.heap.size ≤ j → j ∉ F := fun j hj hm => by have := (h.lt j hm).2; omega
  refine remove_via b name w _ ?_
  rintro W rfl
  have t0 : Turn [] w ((w.alloc (.cells #[theDisk b] 28)).alloc (.cells #[.string name] 9)) := ((Turn.refl [] w).alloc _).alloc _
  refine (met_any base b _ _ M F (opRemove name.data.toList) _ (h.new t0) hl (enters_of Try.func50 (by kernel_rfl) rfl) ?_).mono ?_
  · intro d w1 h1 t1
    exact remove_cc _ _ base b { M with n := M.n + 1, dw := d } F name w1 h1 hl.fs (cell_turn t1 (hn _ (Nat.le_refl _)) (box_old (box_new _ _ _ _ rfl) _)) (cell_turn t1 (hn _ (by omega)) (box_new _ _ _ _ (by simp))) hz
  · rintro e w' ⟨k, rfl, hk, hN⟩
    exact ⟨k, rfl, hk, hN.after (t0.mono (by simp))⟩

theorem cut_cd (base b : Nat) (M : MD) (F : List Nat) (name : ByteArray) (n : Int) (w : World) (h : CD w base b M F) (hl : Lim M) (hz : name.size ≤ 1000000) :
    Calls Try.prog 22 #[theDisk b, .string name, .int .i64 n] w (Left (Acted w base b M F (opCut name.data.toList n))) := by
  have hn : ∀ j, w.heap.size ≤ j → j ∉ F := fun j hj hm => by have := (h.lt j hm).2; omega
  refine cut_via b name n w _ ?_
  rintro W rfl
  have t0 : Turn [] w (((w.alloc (.cells #[theDisk b] 28)).alloc (.cells #[.string name] 9)).alloc (.cells #[.int .i64 n] 3)) := (((Turn.refl [] w).alloc _).alloc _).alloc _
  refine (met_any base b _ _ M F (opCut name.data.toList n) _ (h.new t0) hl (enters_of Try.func46 (by kernel_rfl) rfl) ?_).mono ?_
  · intro d w1 h1 t1
    exact cut_cc _ _ _ base b { M with n := M.n + 1, dw := d } F name n w1 h1 hl.fs (cell_turn t1 (hn _ (Nat.le_refl _)) (box_old (box_old (box_new _ _ _ _ rfl) _) _)) (cell_turn t1 (hn _ (by omega)) (box_old (box_new _ _ _ _ (by simp)) _)) (cell_turn t1 (hn _ (by omega)) (box_new _ _ _ _ (by simp))) hz
  · rintro e w' ⟨k, rfl, hk, hN⟩
    exact ⟨k, rfl, hk, hN.after (t0.mono (by simp))⟩

theorem rename_cd (base b : Nat) (M : MD) (F : List Nat) (src dst : ByteArray) (w : World) (h : CD w base b M F) (hl : Lim M) (hz : src.size ≤ 1000000) (hy : dst.size ≤ 1000000) :
    Calls Try.prog 24 #[theDisk b, .string src, .string dst] w (Left (Acted w base b M F (opRename src.data.toList dst.data.toList))) := by
  have hn : ∀ j, w.heap.size ≤ j → j ∉ F := fun j hj hm => by have := (h.lt j hm).2; omega
  refine rename_via b src dst w _ ?_
  rintro W rfl
  have t0 : Turn [] w (((w.alloc (.cells #[theDisk b] 28)).alloc (.cells #[.string src] 9)).alloc (.cells #[.string dst] 9)) := (((Turn.refl [] w).alloc _).alloc _).alloc _
  refine (met_any base b _ _ M F (opRename src.data.toList dst.data.toList) _ (h.new t0) hl (enters_of Try.func47 (by kernel_rfl) rfl) ?_).mono ?_
  · intro d w1 h1 t1
    exact rename_cc _ _ _ base b { M with n := M.n + 1, dw := d } F src dst w1 h1 hl.fs (cell_turn t1 (hn _ (Nat.le_refl _)) (box_old (box_old (box_new _ _ _ _ rfl) _) _)) (cell_turn t1 (hn _ (by omega)) (box_old (box_new _ _ _ _ (by simp)) _)) (cell_turn t1 (hn _ (by omega)) (box_new _ _ _ _ (by simp))) (hn _ (Nat.le_refl _)) (hn _ (by omega)) (hn _ (by omega)) hz hy
  · rintro e w' ⟨k, rfl, hk, hN⟩
    exact ⟨k, rfl, hk, hN.after (t0.mono (by simp))⟩

theorem append_cd (base b : Nat) (M : MD) (F : List Nat) (name : ByteArray) (vb : Value) (l : List UInt8) (w : World) (h : CD w base b M F) (hl : Lim M) (hz : name.size ≤ 1000000) (hr : Reads w vb (bv l)) (hll : l.length ≤ 50000000)
    (hvb : l ≠ [] → ∀ a n c, vb = .slice (some a) n c → a.block ∉ F) :
    Calls Try.prog 13 #[theDisk b, .string name, vb] w (Left (Acted w base b M F (opAppend name.data.toList l))) := by
  have hn : ∀ j, w.heap.size ≤ j → j ∉ F := fun j hj hm => by have := (h.lt j hm).2; omega
  obtain ⟨ao, c, rfl⟩ : ∃ ao c, vb = .slice ao l.length c := by obtain ⟨ao, c, rfl, _⟩ := hr; exact ⟨ao, c, by rw [bv_length]⟩
  refine append_via b name ao l.length c w _ ?_
  rintro W rfl
  have t0 : Turn [] w (((w.alloc (.cells #[theDisk b] 28)).alloc (.cells #[.string name] 9)).alloc (.cells #[.slice ao l.length c] 33)) := (((Turn.refl [] w).alloc _).alloc _).alloc _
  refine (met_any base b _ _ M F (opAppend name.data.toList l) _ (h.new t0) hl (enters_of Try.func35 (by kernel_rfl) rfl) ?_).mono ?_
  · intro d w1 h1 t1
    have hr1 : Reads w1 (.slice ao l.length c) (bv l) := (hr.turn t0 (by simp)).turn t1 (fun hne => hvb (by rintro rfl; exact hne rfl))
    exact append_cc _ _ _ base b { M with n := M.n + 1, dw := d } F name _ l w1 h1 hl.fs (cell_turn t1 (hn _ (Nat.le_refl _)) (box_old (box_old (box_new _ _ _ _ rfl) _) _)) (cell_turn t1 (hn _ (by omega)) (box_old (box_new _ _ _ _ (by simp)) _)) (cell_turn t1 (hn _ (by omega)) (box_new _ _ _ _ (by simp))) (hn _ (Nat.le_refl _)) (hn _ (by omega)) hz hr1 hll
  · rintro e w' ⟨k, rfl, hk, hN⟩
    exact ⟨k, rfl, hk, hN.after (t0.mono (by simp))⟩

end Go.Proofs.Ytmpjjnjggiipjaa

namespace Go.Proofs.Ytmpjjnjggiipjaa
open Go.RowKit Go.Maps Go.Sort Go.WideMaps

def MD.read (M : MD) (k : List UInt8) : List UInt8 × Int :=
  if M.dw = true then ([], 7) else match M.fs.find? (isName k) with
  | none => ([], 3)
  | some x => (x.2.1, 0)

theorem read_cd (base b : Nat) (M : MD) (F : List Nat) (name : ByteArray) (w : World) (h : CD w base b M F) (hl : LimF M.fs) (hz : name.size ≤ 1000000) :
    Calls Try.prog 16 #[theDisk b, .string name] w fun e w' => ∃ ao c, e = .returned (.tuple #[.slice ao (M.read name.data.toList).1.length c, .int .i64 (M.read name.data.toList).2]) ∧
      Bs w' w.heap.size (.slice ao (M.read name.data.toList).1.length c) (M.read name.data.toList).1.length (M.read name.data.toList).1 ∧ Turn [] w w' := by
  obtain ⟨h0, hf, S, s, hR, hs, hp, hP, rfl⟩ := h
  have hz2 : name.size ≤ maxLen := by unfold maxLen; omega
  unfold MD.read
  by_cases hdw : M.dw = true
  · rw [if_pos hdw]
    refine (read_down base b S s _ w hR (by rw [hP.dw]; exact hdw)).mono ?_
    rintro e w' ⟨rfl, rfl⟩
    exact ⟨none, 0, rfl, ⟨rfl, World.ownsRow_nil _ _ _ _⟩, Turn.refl _ _⟩
  · rw [if_neg hdw]
    rw [Bool.not_eq_true] at hdw
    rw [find_both hR hp]
    cases e : S.files.find? (named name.data.toList) with
    | none =>
      refine (read_none base b S s name w hR (by rw [hP.dw]; exact hdw) e hz2).mono ?_
      rintro e w' ⟨rfl, rfl⟩
      exact ⟨none, 0, rfl, ⟨rfl, World.ownsRow_nil _ _ _ _⟩, Turn.refl _ _⟩
    | some f =>
      simp only [Option.map_some]
      have h1 := le_total (find_mem e).1
      have h2 := tot_both hp
      have h3 := hl.tot
      refine (read_ok base b S s name f w hR (by rw [hP.dw]; exact hdw) e hz2 (by omega)).mono ?_
      rintro e w' ⟨ao, c, rfl, hown, hg⟩
      exact ⟨ao, c, rfl, ⟨rfl, hown⟩, Turn.of_none hg⟩

theorem calls_cd (base b : Nat) (M : MD) (F : List Nat) (w : World) (h : CD w base b M F) :
    Calls Try.prog 10 #[theDisk b] w fun e w' => e = .returned (.int .i64 M.n) ∧ w = w' := by
  obtain ⟨h0, hf, S, s, hR, hs, hp, hP, rfl⟩ := h
  rw [← hP.ca]
  exact calls_rep base b S s w hR
theorem down_cd (base b : Nat) (M : MD) (F : List Nat) (w : World) (h : CD w base b M F) :
    Calls Try.prog 9 #[theDisk b] w fun e w' => e = .returned (.bool M.dw) ∧ w = w' := by
  obtain ⟨h0, hf, S, s, hR, hs, hp, hP, rfl⟩ := h
  rw [← hP.dw]
  exact down_rep base b S s w hR

/-- What stands in a row of files. -/
def ToldE (w : World) (base : Nat) (row : Option Nat) (fs : List Ent) (xs : List Value) : Prop :=
  xs.length = fs.length * 3 ∧ ∀ j f, fs[j]? = some f → ∃ ao c, xs[j * 3]? = some (encStr f.1) ∧ xs[j * 3 + 1]? = some (.slice ao f.2.1.length c) ∧ xs[j * 3 + 2]? = some (.int .i64 (f.2.2 : Nat)) ∧
    w.ownsRow base 5 1 (.slice ao f.2.1.length c) f.2.1.length (bv f.2.1) ∧ ∀ g, (Value.slice ao f.2.1.length c).ownBlock = some g → row ≠ some g

theorem leB_trans (a b c : List UInt8) (h1 : leB a b = true) (h2 : leB b c = true) : leB a c = true := by
  simp only [leB, decide_eq_true_eq] at *; exact List.le_trans h1 h2
theorem sorted_names {w : World} {base b : Nat} {S : DM} {s : DS} {fs : List Ent} (_hR : Rep w base b S s) (hp : (S.files.map view).Perm fs) (hf : Rising fs) : sortedNames S.files = fs.map (·.1) := by
  have h1 : (S.files.map (·.name)).Perm (fs.map (·.1)) := by
    have := hp.map (fun x : Ent => x.1)
    rwa [List.map_map] at this
  unfold sortedNames
  rw [mergeSort_of_perm h1]
  refine List.mergeSort_of_pairwise ?_
  exact hf.names.imp fun h => by simp only [leB, decide_eq_true_eq]; exact List.le_of_lt h
theorem sorted_files {w : World} {base b : Nat} {S : DM} {s : DS} {fs : List Ent} (hR : Rep w base b S s) (hp : (S.files.map view).Perm fs) (hf : Rising fs) : ((sortedNames S.files).map (fileOf S.files)).map view = fs := by
  rw [sorted_names hR hp hf, List.map_map, List.map_map]
  conv => rhs; rw [← List.map_id fs]
  apply List.map_congr_left
  intro x hx
  have h1 := find_both hR hp x.1
  have h2 := find_self hf hx
  rw [h2] at h1
  simp only [Function.comp, fileOf, id]
  cases e : S.files.find? (named x.1) with
  | none => rw [e] at h1; cases h1
  | some f =>
    rw [e] at h1
    simp only [Option.map_some, Option.some.injEq] at h1
    exact h1.symm

theorem files_cd (base b : Nat) (M : MD) (F : List Nat) (w : World) (h : CD w base b M F) (hl : LimF M.fs) :
    Calls Try.prog 31 #[theDisk b] w fun e w' => ∃ ao c xs, e = .returned (.slice ao M.fs.length c) ∧ w'.ownsRow w.heap.size 79 3 (.slice ao M.fs.length c) M.fs.length xs ∧
      ToldE w' w.heap.size (Value.slice ao M.fs.length c).ownBlock M.fs xs ∧ Turn [] w w' := by
  obtain ⟨h0, hf, S, s, hR, hs, hp, hP, rfl⟩ := h
  have h2 := tot_both hp
  have h3 := hl.tot
  have h4 := len_both hp
  have h5 := hl.len
  have h6 := sorted_files hR hp hf.rising
  rw [h4]
  refine (files_any base b S s w hR (by omega) (by omega) (fun f hfm => by have := hf.name _ (hp.mem_iff.1 (List.mem_map.2 ⟨f, hfm, rfl⟩)); simp only [view] at this; unfold maxLen; omega)).mono ?_
  rintro e w' ⟨ao, c, xs, rfl, hown, hT, hg⟩
  refine ⟨ao, c, xs, rfl, hown, ?_, Turn.of_none hg⟩
  rw [← h6]
  obtain ⟨hT1, hT2⟩ := hT
  refine ⟨by rw [List.length_map]; exact hT1, fun j f hj => ?_⟩
  rw [List.getElem?_map] at hj
  cases e : ((sortedNames S.files).map (fileOf S.files))[j]? with
  | none => rw [e] at hj; cases hj
  | some g =>
    rw [e] at hj
    simp only [Option.map_some, Option.some.injEq] at hj
    subst hj
    exact hT2 j g e

theorem upd_res {fs : List Ent} (h : Rising fs) (keep : List Int) {k : Nat} (hk : k < fs.length) : updE ((fs.map (·.1)).getD k []) (survE (keep.getD k 0)) (resE keep fs k) = resE keep fs (k + 1) := by
  have hnm : (fs.map (·.1)).getD k [] = fs[k].1 := by
    rw [List.getD_eq_getElem?_getD, List.getElem?_map, List.getElem?_eq_getElem hk]; rfl
  rw [hnm]
  apply List.ext_getElem?
  intro i
  unfold updE resE
  rw [List.getElem?_map, List.getElem?_mapIdx, List.getElem?_mapIdx]
  by_cases hi : i < fs.length
  · rw [List.getElem?_eq_getElem hi]
    simp only [Option.map_some, Option.some.injEq]
    have hne : isName fs[k].1 fs[i] = true → i = k := fun e => by
      have e2 : fs[i].1 = fs[k].1 := isName_iff.1 e
      rcases Nat.lt_trichotomy i k with hlt | he | hlt
      · have := List.pairwise_iff_getElem.1 h i k hi hk hlt
        rw [e2] at this
        exact absurd this (List.lt_irrefl _)
      · exact he
      · have := List.pairwise_iff_getElem.1 h k i hk hi hlt
        rw [e2] at this
        exact absurd this (List.lt_irrefl _)
    have hnm2 : ∀ q, isName fs[k].1 (survE q fs[i]) = isName fs[k].1 fs[i] := fun q => rfl
    by_cases h1 : i < k
    · rw [if_pos h1, hnm2, if_neg (fun e => by have := hne e; omega), if_pos (show i < k + 1 by omega)]
    · rw [if_neg h1]
      by_cases h2 : i = k
      · subst h2
        rw [if_pos (isName_iff.2 rfl), if_pos (show i < i + 1 by omega)]
      · rw [if_neg (fun e => h2 (hne e)), if_neg (show ¬ i < k + 1 by omega)]
  · rw [List.getElem?_eq_none (by omega)]; rfl

theorem resF_view {files : List FM} {fs : List Ent} (hp : (files.map view).Perm fs) (h : Rising fs) (keep : List Int) (k : Nat) (hk : k ≤ fs.length) : ((resF keep (fs.map (·.1)) files k).map view).Perm (resE keep fs k) := by
  induction k with
  | zero =>
    have : resE keep fs 0 = fs := by
      unfold resE
      apply List.ext_getElem?
      intro i
      rw [List.getElem?_mapIdx]
      cases fs[i]? <;> simp
    rw [this]
    exact hp
  | succ k ih =>
    rw [resF, map_mapF _ (survive (keep.getD k 0)) (survE (keep.getD k 0)) (fun _ => rfl), ← upd_res h keep (by omega)]
    exact (ih (by omega)).map _

theorem restart_cd (base b : Nat) (M : MD) (F : List Nat) (cap cr : Int) (dn : Bool) (fl kp : Value) (zs ks : List Int) (w : World) (h : CD w base b M F) (hl : Lim M) (hf : Reads w fl (iv zs)) (hk : Reads w kp (iv ks)) (hfb : zs ≠ [] → ∀ a n c, fl = .slice (some a) n c → a.block ∉ F) (hkb : ks ≠ [] → ∀ a n c, kp = .slice (some a) n c → a.block ∉ F)
    (hz : zs.length < 900000) (hz2 : ks.length < 900000) :
    Calls Try.prog 15 #[theDisk b, .agg #[.int .i64 cap, fl, .int .i64 cr, .bool dn, kp]] w fun e w' => e = .returned (.tuple #[]) ∧ Next w w' base b (M.restart cap cr dn zs ks) F := by
  obtain ⟨h0, hfit, S, s, hR, hs, hp, hP, rfl⟩ := h
  have h2 := tot_both hp
  have h3 := hl.fs.tot
  have h4 := len_both hp
  have h5 := hl.fs.len
  have hkp := hl.keep
  have hsn := sorted_names hR hp hfit.rising
  refine (restart_any_at base b S s cap cr dn fl kp zs ks w hR hs (by omega) (by omega) (by rw [hP.keep]; omega) hf hk (fun hz a n c e hm => hfb hz a n c e (mem_footAll.2 (.inl hm))) (fun hz a n c e hm => hkb hz a n c e (mem_footAll.2 (.inl hm))) (by omega) (by omega) h0 (fun f hfm => by have := hfit.name _ (hp.mem_iff.1 (List.mem_map.2 ⟨f, hfm, rfl⟩)); simp only [view] at this; unfold maxLen; omega)).mono ?_
  rintro e w' ⟨rfl, s', fr, kr, hnew, hR', hs', t⟩
  rw [hsn, hP.keep] at hR' hs'
  have hll : (M.fs.map (·.1)).length = M.fs.length := by simp
  rw [hll] at hR' hs'
  refine ⟨rfl, _, ⟨Nat.le_trans h0 t.size, hfit.res M.keep M.fs.length, _, s', hR', hs', resF_view hp hfit.rising M.keep _ (Nat.le_refl _), ⟨rfl, rfl, rfl, rfl, rfl, rfl, rfl, by show (0 : Int) ≤ 0; omega⟩, rfl⟩, fun k hkk => ?_, t.mono fun k hk => mem_footAll.2 (.inl hk)⟩
  rcases mem_footAll.1 hkk with hm | hm | hm
  · refine .inl (mem_footAll.2 (.inl ?_))
    have hm2 : k ∈ b :: (S.mp.toList ++ (resF M.keep (M.fs.map (·.1)) S.files M.fs.length).flatMap FM.foot) := hm
    rw [resF_foot] at hm2
    exact hm2
  · exact .inr (hnew.1 k hm)
  · exact .inr (hnew.2 k hm)

def MD.new (cap cr : Int) (dn : Bool) (fail keep : List Int) : MD := { cap := cap, cr := cr, dn := dn, fail := fail, keep := keep, fs := [], n := 0, dw := false }

theorem new_cd (cap cr : Int) (dn : Bool) (fl kp : Value) (zs ks : List Int) (w : World) (hf : Reads w fl (iv zs)) (hk : Reads w kp (iv ks)) (hz : zs.length < 900000) (hz2 : ks.length < 900000) :
    Calls Try.prog 6 #[.agg #[.int .i64 cap, fl, .int .i64 cr, .bool dn, kp]] w fun e w' => ∃ b F, e = .returned (theDisk b) ∧ CD w' w.heap.size b (MD.new cap cr dn zs ks) F ∧ Turn [] w w' := by
  refine (new_any cap cr dn fl kp zs ks w hf hk (by omega) (by omega)).mono ?_
  rintro e w' ⟨b, ao, c, ao', c', rfl, hb, hd, h1, h2, hg⟩
  have el : (zs.mergeSort leI).length = zs.length := by simp
  refine ⟨b, _, rfl, ⟨hg.size, Fit.nil, { cap := cap, cr := cr, ca := 0, dn := dn, dw := false, fail := zs.mergeSort leI, keep := ks, files := [], mp := none, fr := (Value.slice ao zs.length c).ownBlock, kr := (Value.slice ao' ks.length c').ownBlock }, { cap := cap, fl := .slice ao zs.length c, cr := cr, dn := dn, kp := .slice ao' ks.length c', fs := .map none, sz := 0, ca := 0, dw := false }, ?_, rfl, List.Perm.refl _, ⟨rfl, rfl, rfl, rfl, rfl, rfl, rfl, by show (0 : Int) ≤ 0; omega⟩, rfl⟩, Turn.of_none hg⟩
  exact {
    disk := hd
    cap := rfl
    cr := rfl
    ca := rfl
    dn := rfl
    dw := rfl
    fs := rfl
    lists := ⟨ao, c, ao', c', by rw [el], rfl, by rw [el]; exact owns_base h1 (by omega), owns_base h2 (by omega), by rw [el], rfl,
      (fun g hg hm => by have h3 := (h1.lt g hg).1; simp [foot] at hm; omega), (fun g hg hm => by have h3 := (h2.lt g hg).1; simp [foot] at hm; omega)⟩
    mapN := fun _ => rfl
    mapS := fun m hm => by cases hm
    files := fun f hf => by cases hf
    apart1 := fun m hm => by cases hm
    apart2 := fun f hf => by cases hf
    apart3 := List.Pairwise.nil
    low := fun k hk => by simp [foot] at hk; omega
    names := List.nodup_nil
    sorted := sorted_leI zs }

end Go.Proofs.Ytmpjjnjggiipjaa
