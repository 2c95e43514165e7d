/- The code's disk against the document's: what a writing call does, whatever its closure does. Numbers and types by name. -/
import Derived.Test.YthacjeeafnblmaaDoorMod
namespace Go.Proofs.YthacjeeafnblmaaDoor
open Go.RowKit Go.Maps Go.Sort Go.WideMaps

def view (f : FM) : Ent := (f.name, f.bytes, f.sy)
/-- All blocks of a disk. -/
def footAll (b : Nat) (S : DM) : List Nat := foot b S ++ (S.fr.toList ++ S.kr.toList)

structure Pl (S : DM) (M : MD) : Prop where
  cap : S.cap = M.cap
  cr : S.cr = M.cr
  ca : S.ca = M.n
  dn : S.dn = M.dn
  dw : S.dw = M.dw
  fail : S.fail = M.fail.mergeSort leI
  keep : S.keep = M.keep
  n0 : 0 ≤ M.n

/-- The code's disk at b is M; F: its blocks. -/
def CD (w : World) (base b : Nat) (M : MD) (F : List Nat) : Prop :=
  base ≤ w.heap.size ∧ Fit M.fs ∧ ∃ S s, Rep w base b S s ∧ s.sz = total S.files ∧ (S.files.map view).Perm M.fs ∧ Pl S M ∧ F = footAll b S

/-- How much may be on a disk. -/
structure LimF (fs : List Ent) : Prop where
  tot : tot fs < 900000000
  len : fs.length < 900000
structure Lim (M : MD) : Prop where
  n : M.n < 900000
  fs : LimF M.fs
  fail : M.fail.length < 900000
  keep : M.keep.length < 900000

def Next (w w' : World) (base b : Nat) (M' : MD) (F : List Nat) : Prop :=
  ∃ F', CD w' base b M' F' ∧ (∀ k ∈ F', k ∈ F ∨ w.heap.size ≤ k) ∧ Turn F w w'

theorem mem_footAll {b : Nat} {S : DM} {k : Nat} : k ∈ footAll b S ↔ k ∈ foot b S ∨ S.fr = some k ∨ S.kr = some k := by
  simp only [footAll, List.mem_append, Option.mem_toList]

theorem CD.lt {w : World} {base b : Nat} {M : MD} {F : List Nat} (h : CD w base b M F) : ∀ k ∈ F, base ≤ k ∧ k < w.heap.size := by
  obtain ⟨h0, _, S, s, hR, _, _, _, rfl⟩ := h
  intro k hk
  obtain ⟨ao, c, ao', c', h1, h2, h3, h4, h5, h6, h7, h8⟩ := hR.lists
  rcases mem_footAll.1 hk with hk | hk | hk
  · exact ⟨hR.low k hk, hR.lt k hk⟩
  · exact h3.lt k (h5.trans hk)
  · exact h4.lt k (h6.trans hk)
theorem CD.own {w : World} {base b : Nat} {M : MD} {F : List Nat} (h : CD w base b M F) : b ∈ F := by
  obtain ⟨_, _, S, s, hR, _, _, _, rfl⟩ := h
  exact mem_footAll.2 (.inl (by simp [foot]))
theorem CD.keep {w w' : World} {base b : Nat} {M : MD} {F G : List Nat} (h : CD w base b M F) (t : Turn G w w') (hd : ∀ k ∈ F, k ∉ G) : CD w' base b M F := by
  obtain ⟨h0, hf, S, s, hR, h1, h2, h3, rfl⟩ := h
  exact ⟨Nat.le_trans h0 t.size, hf, S, s, hR.keep t (fun k hk => hd k (mem_footAll.2 (.inl hk))) (fun g hg => hd g (mem_footAll.2 (.inr (.inl hg)))) (fun g hg => hd g (mem_footAll.2 (.inr (.inr hg)))), h1, h2, h3, rfl⟩
theorem CD.new {w w' : World} {base b : Nat} {M : MD} {F : List Nat} (h : CD w base b M F) (t : Turn [] w w') : CD w' base b M F := h.keep t (by simp)
theorem CD.next {w : World} {base b : Nat} {M : MD} {F : List Nat} (h : CD w base b M F) : Next w w base b M F := ⟨F, h, fun k hk => .inl hk, Turn.refl _ _⟩
theorem CD.next_new {w w' : World} {base b : Nat} {M : MD} {F : List Nat} (h : CD w base b M F) (t : Turn [] w w') : Next w w' base b M F := ⟨F, h.new t, fun k hk => .inl hk, t.mono (by simp)⟩
theorem Next.after {w w1 w' : World} {base b : Nat} {M' : MD} {F : List Nat} (t : Turn F w w1) (h : Next w1 w' base b M' F) : Next w w' base b M' F := by
  obtain ⟨F', h1, h2, h3⟩ := h
  exact ⟨F', h1, fun k hk => (h2 k hk).imp id (fun h => Nat.le_trans t.size h), t.trans h3⟩
/-- A call, and one behind it. -/
theorem Next.trans {w w1 w' : World} {base b : Nat} {M1 M2 : MD} {F F1 : List Nat} (h : CD w1 base b M1 F1) (hs : ∀ k ∈ F1, k ∈ F ∨ w.heap.size ≤ k) (t : Turn F w w1) (h2 : Next w1 w' base b M2 F1) : Next w w' base b M2 F := by
  obtain ⟨F', g1, g2, g3⟩ := h2
  refine ⟨F', g1, fun k hk => ?_, t.trans' g3 hs⟩
  rcases g2 k hk with g | g
  · exact hs k g
  · exact .inr (Nat.le_trans t.size g)

theorem tot_view (files : List FM) : tot (files.map view) = total files := by
  simp [tot, total, view, Function.comp_def]
theorem find_view (k : List UInt8) (files : List FM) : (files.map view).find? (isName k) = (files.find? (named k)).map view := by
  rw [List.find?_map]; rfl
theorem any_view (k : List UInt8) (files : List FM) : (files.map view).any (isName k) = files.any (named k) := by
  rw [List.any_map]; rfl
theorem map_mapF (k : List UInt8) (u : FM → FM) (v : Ent → Ent) (huv : ∀ g, view (u g) = v (view g)) (files : List FM) : (mapF k u files).map view = updE k v (files.map view) := by
  unfold mapF updE
  rw [List.map_map, List.map_map]
  apply List.map_congr_left
  intro g _
  simp only [Function.comp]
  have : isName k (view g) = named k g := rfl
  rw [this]
  split
  · exact huv g
  · rfl
theorem map_without (k : List UInt8) (files : List FM) : (without k files).map view = woE k (files.map view) := by
  unfold without woE
  rw [List.filter_map]
  rfl

/-- What the model finds, the code finds. -/
theorem find_both {w : World} {base b : Nat} {S : DM} {s : DS} {fs : List Ent} (hR : Rep w base b S s) (hp : (S.files.map view).Perm fs) (k : List UInt8) : fs.find? (isName k) = (S.files.find? (named k)).map view := by
  rw [← find_perm hp (by rw [List.map_map]; exact hR.names), find_view]
theorem any_both {S : DM} {fs : List Ent} (hp : (S.files.map view).Perm fs) (k : List UInt8) : fs.any (isName k) = S.files.any (named k) := by
  rw [← any_perm hp, any_view]
theorem tot_both {S : DM} {fs : List Ent} (hp : (S.files.map view).Perm fs) : tot fs = total S.files := by rw [← tot_perm hp, tot_view]
theorem len_both {S : DM} {fs : List Ent} (hp : (S.files.map view).Perm fs) : fs.length = S.files.length := by have := hp.length_eq; simpa using this.symm

theorem has_sort (zs : List Int) (x : Int) : (zs.mergeSort leI).contains x = zs.contains x := by
  rw [Bool.eq_iff_iff]
  simp [List.mem_mergeSort]

theorem CD.counted {w w' : World} {base b : Nat} {M : MD} {S : DM} {s : DS} (h0 : base ≤ w.heap.size) (hf : Fit M.fs) (hs : s.sz = total S.files) (hp : (S.files.map view).Perm M.fs) (hP : Pl S M) (d : Bool)
    (hR : Rep w' base b { S with ca := S.ca + 1, dw := d } { s with ca := S.ca + 1, dw := d }) (t : Turn [b] w w') : CD w' base b { M with n := M.n + 1, dw := d } (footAll b S) :=
  ⟨Nat.le_trans h0 t.size, hf, _, _, hR, hs, hp, ⟨hP.cap, hP.cr, by show S.ca + 1 = _; rw [hP.ca], hP.dn, rfl, hP.fail, hP.keep, by have := hP.n0; show 0 ≤ M.n + 1; omega⟩, rfl⟩

theorem met_any (base b g : Nat) (cb : Array Value) (M : MD) (F : List Nat) (op : Opn) (w : World) (h : CD w base b M F) (hl : Lim M)
    (hent : ∀ (args : Array Value) (w : World), (callFunc g args).run Tryd.prog w = .ok (.enter g args) w)
    (hcl : ∀ d w1, CD w1 base b { M with n := M.n + 1, dw := d } F → Turn F w w1 → Calls Tryd.prog g cb w1 (Left fun k w' => k = (op M.cap M.fs).1 ∧ Next w1 w' base b { M with n := M.n + 1, dw := d, fs := (op M.cap M.fs).2 } F)) :
    Calls Tryd.prog 37 #[theDisk b, .func (.func g) #[] cb] w (Left fun k w' => k = (M.act op).1 ∧ Next w w' base b (M.act op).2 F) := by
  have h' := h
  obtain ⟨h0, hf, S, s, hR, hs, hp, hP, rfl⟩ := h
  have hbF : ∀ x, x ∈ [b] → x ∈ footAll b S := by intro x hx; simp at hx; subst hx; exact h'.own
  have hn0 := hP.n0
  have hn1 := hl.n
  have hfl : S.fail.length < 1000000 := by rw [hP.fail, List.length_mergeSort]; have := hl.fail; omega
  have hcon : S.fail.contains (S.ca + 1) = M.fail.contains (M.n + 1) := by rw [hP.fail, has_sort, hP.ca]
  unfold MD.act
  by_cases hdw : M.dw = true
  · rw [if_pos hdw]
    refine (write_down base b g cb S s w hR (by rw [hP.dw, hdw])).mono ?_
    rintro e w' ⟨rfl, rfl⟩
    exact ⟨7, rfl, rfl, h'.next⟩
  · rw [if_neg hdw]
    rw [Bool.not_eq_true] at hdw
    have hdS : S.dw = false := by rw [hP.dw, hdw]
    have hsd : s.dw = false := by rw [hR.dw, hdS]
    have eM : ∀ fs, ({ M with n := M.n + 1, dw := false, fs := fs } : MD) = { M with n := M.n + 1, fs := fs } := fun fs => by rw [← hdw]
    have eM0 : ({ M with n := M.n + 1, dw := false } : MD) = { M with n := M.n + 1 } := by rw [← hdw]
    have eS : ({ S with ca := S.ca + 1, dw := false } : DM) = { S with ca := S.ca + 1 } := by rw [← hdS]
    have es : ({ s with ca := S.ca + 1, dw := false } : DS) = { s with ca := S.ca + 1 } := by rw [← hsd]
    by_cases hcr : M.n + 1 = M.cr
    · rw [if_pos hcr]
      have hcrS : S.ca + 1 = S.cr := by rw [hP.ca, hP.cr, hcr]
      by_cases hdn : M.dn = true
      rotate_left
      · rw [if_neg hdn]
        rw [Bool.not_eq_true] at hdn
        refine (write_crash base b g cb S s w hR hdS hcrS (by rw [hP.dn, hdn]) (by rw [hP.ca]; exact hn0) (by rw [hP.ca]; omega)).mono ?_
        rintro e w' ⟨rfl, hR', t⟩
        refine ⟨7, rfl, rfl, footAll b S, ?_, fun k hk => .inl hk, t.mono hbF⟩
        exact CD.counted h0 hf hs hp hP true hR' t
      · rw [if_pos hdn]
        refine (write_done base b g cb S s (fun _ w' => Next w w' base b { M with n := M.n + 1, dw := true, fs := (op M.cap M.fs).2 } (footAll b S)) w hR hdS hcrS (by rw [hP.dn, hdn]) (by rw [hP.ca]; exact hn0) (by rw [hP.ca]; omega) hent ?_).mono ?_
        · intro w1 hR1 t1
          refine (hcl true w1 (CD.counted h0 hf hs hp hP true hR1 t1) (t1.mono hbF)).mono ?_
          rintro e w' ⟨k, rfl, _, hN⟩
          exact ⟨k, rfl, hN.after (t1.mono hbF)⟩
        · rintro e w' ⟨rfl, k, hN⟩
          exact ⟨7, rfl, rfl, hN⟩
    · rw [if_neg hcr]
      have hcrS : S.ca + 1 ≠ S.cr := by rw [hP.ca, hP.cr]; exact hcr
      by_cases hfa : M.fail.contains (M.n + 1) = true
      · rw [if_pos hfa]
        refine (write_io base b g cb S s w hR hdS hcrS (by rw [hcon]; exact hfa) (by rw [hP.ca]; exact hn0) (by rw [hP.ca]; omega) hfl).mono ?_
        rintro e w' ⟨rfl, hR', t⟩
        refine ⟨6, rfl, rfl, footAll b S, ?_, fun k hk => .inl hk, t.mono hbF⟩
        rw [← eM0]
        exact CD.counted h0 hf hs hp hP false (by rw [eS, es]; exact hR') t
      · rw [if_neg hfa]
        rw [Bool.not_eq_true] at hfa
        refine write_run base b g cb S s _ w hR hdS hcrS (by rw [hcon]; exact hfa) (by rw [hP.ca]; exact hn0) (by rw [hP.ca]; omega) hfl hent ?_
        intro w1 hR1 t1
        refine (hcl false w1 (CD.counted h0 hf hs hp hP false (by rw [eS, es]; exact hR1) t1) (t1.mono hbF)).mono ?_
        rintro e w' ⟨k, rfl, hk, hN⟩
        refine ⟨k, rfl, hk, ?_⟩
        rw [← eM]
        exact hN.after (t1.mono hbF)

end Go.Proofs.YthacjeeafnblmaaDoor
