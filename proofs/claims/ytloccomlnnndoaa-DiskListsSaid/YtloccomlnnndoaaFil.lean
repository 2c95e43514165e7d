/- One file of a disk turns. Numbers and types by name. -/
import Derived.Test.YtloccomlnnndoaaApp
namespace Go.Proofs.Ytloccomlnnndoaa
open Go.RowKit Go.Maps Go.Sort Go.WideMaps

/-- The file named k turns by u. -/
def mapF (k : List UInt8) (u : FM → FM) (files : List FM) : List FM := files.map fun g => if named k g = true then u g else g

theorem find_mem {k : List UInt8} {files : List FM} {f : FM} (h : files.find? (named k) = some f) : f ∈ files ∧ f.name = k :=
  ⟨List.mem_of_find?_eq_some h, by have := List.find?_some h; simpa [named] using this⟩

theorem only_named {files : List FM} (hn : (files.map (·.name)).Nodup) {f g : FM} (hf : f ∈ files) (hg : g ∈ files) (h : f.name = g.name) : f = g := by
  induction files with
  | nil => cases hf
  | cons a l ih =>
    simp only [List.map_cons, List.nodup_cons, List.mem_map, not_exists, not_and] at hn
    rcases List.mem_cons.1 hf with rfl | hf'
    · rcases List.mem_cons.1 hg with rfl | hg'
      · rfl
      · exact absurd h.symm (hn.1 g hg')
    · rcases List.mem_cons.1 hg with rfl | hg'
      · exact absurd h (hn.1 f hf')
      · exact ih hn.2 hf' hg'

theorem mapF_names (k : List UInt8) (u : FM → FM) (hu : ∀ g, (u g).name = g.name) (files : List FM) : (mapF k u files).map (·.name) = files.map (·.name) := by
  unfold mapF
  rw [List.map_map]
  apply List.map_congr_left
  intro g _
  simp only [Function.comp]
  split
  · exact hu g
  · rfl

theorem look_mapF (k : List UInt8) (u : FM → FM) (hu : ∀ g, (u g).name = g.name) (hb : ∀ g, (u g).blk = g.blk) (files : List FM) (x : List UInt8) : Go.Proofs.Ytloccomlnnndoaa.look (mapF k u files) x = Go.Proofs.Ytloccomlnnndoaa.look files x := by
  induction files with
  | nil => rfl
  | cons a l ih =>
    unfold Go.Proofs.Ytloccomlnnndoaa.look mapF at *
    rw [List.map_cons, List.find?_cons, List.find?_cons]
    have e : named x (if named k a = true then u a else a) = named x a := by
      split
      · simp [named, hu]
      · rfl
    rw [e]
    cases named x a with
    | true => simp only; split <;> simp [hb]
    | false => exact ih

theorem any_mapF (k : List UInt8) (u : FM → FM) (hu : ∀ g, (u g).name = g.name) (files : List FM) (x : List UInt8) : (mapF k u files).any (named x) = files.any (named x) := by
  unfold mapF
  rw [List.any_map]
  congr 1
  funext g
  simp only [Function.comp]
  split
  · simp [named, hu]
  · rfl

theorem MapAt.mapF {w : World} {m : Nat} {files : List FM} (h : MapAt w m files) (k : List UInt8) (u : FM → FM) (hu : ∀ g, (u g).name = g.name) (hb : ∀ g, (u g).blk = g.blk) : MapAt w m (mapF k u files) := by
  obtain ⟨D, h1, h2, h3, h4⟩ := h
  have hl : (Go.Proofs.Ytloccomlnnndoaa.mapF k u files).length = files.length := by simp [Go.Proofs.Ytloccomlnnndoaa.mapF]
  exact ⟨D, by rw [hl]; exact h1, by rw [hl]; exact h2, fun x => by rw [look_mapF k u hu hb]; exact h3 x, fun x => by rw [any_mapF k u hu]; exact h4 x⟩

/-- One file turns: its bytes, how many are synced, where its bytes lie. -/
theorem Rep.file {w w' : World} {base b : Nat} {S : DM} {s : DS} (h : Rep w base b S s) {G : List Nat} (t : Turn G w w') (f : FM) (hf : S.files.find? (named f.name) = some f) (u : FM → FM) (hu : ∀ g, (u g).name = g.name) (hub : ∀ g, (u g).blk = g.blk)
    (hG : ∀ x ∈ G, x = b ∨ x ∈ f.foot) (hF : FileAt w' base (u f)) (hrow : (u f).row = f.row ∨ ∃ g, (u f).row = some g ∧ w.heap.size ≤ g) (sz : Int) (hd : DiskC w' b { s with sz := sz }) (hbase : base ≤ w.heap.size) :
    Rep w' base b { S with files := mapF f.name u S.files } { s with sz := sz } := by
  obtain ⟨hmem, _⟩ := find_mem hf
  have hlt := h.lt
  obtain ⟨hbf, hmf, hndf⟩ := h.apart2 f hmem
  have hsub : ∀ x ∈ f.foot, x ∈ foot b S := fun x hx => by simp only [foot, List.mem_cons, List.mem_append, List.mem_flatMap]; exact .inr (.inr ⟨f, hmem, hx⟩)
  have hbS : b ∈ foot b S := by simp [foot]
  have hGS : ∀ x ∈ G, x ∈ foot b S := fun x hx => (hG x hx).elim (fun e => e ▸ hbS) (hsub x)
  -- what another file's blocks are
  have hoth : ∀ g ∈ S.files, named f.name g = false → ∀ k ∈ g.foot, k ∉ f.foot ∧ k ≠ b := by
    intro g hg hn k hk
    refine ⟨fun hkf => ?_, fun e => (h.apart2 g hg).1 (e ▸ hk)⟩
    have hne : g ≠ f := by rintro rfl; simp [named] at hn
    have hp := h.apart3
    have : ∀ (l : List FM), l.Pairwise (fun f g => ∀ k ∈ f.foot, k ∉ g.foot) → f ∈ l → g ∈ l → False := by
      intro l
      induction l with
      | nil => intro _ h; cases h
      | cons a l ih =>
        intro hp h1 h2
        rw [List.pairwise_cons] at hp
        rcases List.mem_cons.1 h1 with rfl | h1'
        · rcases List.mem_cons.1 h2 with rfl | h2'
          · exact hne rfl
          · exact hp.1 g h2' k hkf hk
        · rcases List.mem_cons.1 h2 with rfl | h2'
          · exact hp.1 f h1' k hk hkf
          · exact ih hp.2 h1' h2'
    exact this _ hp hmem hg
  -- the new file's blocks: old ones, or new
  have hnew : ∀ k ∈ (u f).foot, k ∈ f.foot ∨ w.heap.size ≤ k := by
    intro k hk
    simp only [FM.foot, List.mem_cons, Option.mem_toList] at hk ⊢
    rcases hk with rfl | hk
    · exact .inl (.inl (hub f))
    · rcases hrow with e | ⟨g, e, hg⟩
      · exact .inl (.inr (e ▸ hk))
      · rw [e] at hk; simp at hk; subst hk; exact .inr hg
  have hun : ∀ g ∈ S.files, named f.name g = true → g = f := fun g hg hn => only_named h.names hg hmem (by simpa [named] using hn)
  have hfoot : ∀ k ∈ foot b { S with files := mapF f.name u S.files }, k ∈ foot b S ∨ w.heap.size ≤ k := by
    intro k hk
    simp only [foot, mapF, List.mem_cons, List.mem_append, List.mem_flatMap, List.mem_map] at hk
    rcases hk with rfl | hk | ⟨g', ⟨g, hg, rfl⟩, hk⟩
    · exact .inl hbS
    · exact .inl (by simp only [foot, List.mem_cons, List.mem_append]; exact .inr (.inl hk))
    · split at hk
      · next hn =>
        rw [hun g hg hn] at hk
        exact (hnew k hk).imp (hsub k) id
      · exact .inl (by simp only [foot, List.mem_cons, List.mem_append, List.mem_flatMap]; exact .inr (.inr ⟨g, hg, hk⟩))
  obtain ⟨ao, c, ao', c', h1, h2, h3, h4, h5, h6, h7, h8⟩ := h.lists
  exact {
    disk := hd
    cap := h.cap
    cr := h.cr
    ca := h.ca
    dn := h.dn
    dw := h.dw
    fs := h.fs
    lists := ⟨ao, c, ao', c', h1, h2, owns_turn h3 t (fun g hg hm => h7 g (h5.symm.trans hg) (hGS g hm)), owns_turn h4 t (fun g hg hm => h8 g (h6.symm.trans hg) (hGS g hm)), h5, h6,
      (fun g hg hm => (hfoot g hm).elim (h7 g hg) (fun e => by have := (h3.lt g (h5.trans hg)).2; omega)), (fun g hg hm => (hfoot g hm).elim (h8 g hg) (fun e => by have := (h4.lt g (h6.trans hg)).2; omega))⟩
    mapN := fun hm => by have := h.mapN hm; simp [this, mapF]
    mapS := fun m hm => ((h.mapS m hm).keep t (fun hx => (hG m hx).elim (fun e => h.apart1 m hm e.symm) (hmf m hm))).mapF _ u hu hub
    files := fun g' hg' => by
      simp only [mapF, List.mem_map] at hg'
      obtain ⟨g, hg, rfl⟩ := hg'
      split
      · next hn => rw [hun g hg hn]; exact hF
      · next hn =>
        refine (h.files g hg).keep t (fun k hk hx => ?_)
        have := hoth g hg (by simpa using hn) k hk
        exact (hG k hx).elim this.2 this.1
    apart1 := h.apart1
    apart2 := fun g' hg' => by
      simp only [mapF, List.mem_map] at hg'
      obtain ⟨g, hg, rfl⟩ := hg'
      split
      · next hn =>
        rw [hun g hg hn]
        refine ⟨fun hx => (hnew b hx).elim hbf (fun e => by have := hlt b hbS; omega), fun m hm hx => (hnew m hx).elim (hmf m hm) (fun e => by have := (h.mapS m hm).lt; omega), ?_⟩
        simp only [FM.foot, List.nodup_cons, Option.mem_toList] at hndf ⊢
        rw [hub f]
        rcases hrow with e | ⟨g2, e, hg2⟩
        · rw [e]; exact hndf
        · rw [e]
          refine ⟨fun e2 => ?_, by simp⟩
          have := hlt f.blk (hsub _ (by simp [FM.foot]))
          simp at e2
          omega
      · exact h.apart2 g hg
    apart3 := by
      unfold mapF
      rw [List.pairwise_map]
      refine h.apart3.imp_of_mem ?_
      intro x y hx hy hxy k hk hk'
      have hlx : ∀ z ∈ S.files, ∀ j ∈ z.foot, j < w.heap.size := fun z hz j hj => (h.files z hz).lt j hj
      split at hk
      · next hn =>
        have ex := hun x hx hn
        rw [ex] at hk hxy
        split at hk'
        · next hn' =>
          have ey := hun y hy hn'
          rw [ey] at hxy
          have hb0 : f.blk ∈ f.foot := by simp [FM.foot]
          exact hxy _ hb0 hb0
        · rcases hnew k hk with h0 | h0
          · exact hxy k h0 hk'
          · have := hlx y hy k hk'; omega
      · split at hk'
        · next hn' =>
          have ey := hun y hy hn'
          rw [ey] at hk' hxy
          rcases hnew k hk' with h0 | h0
          · exact hxy k hk h0
          · have := hlx x hx k hk; omega
        · exact hxy k hk hk'
    low := fun k hk => (hfoot k hk).elim (h.low k) (fun e => Nat.le_trans hbase e)
    names := by rw [show ({ S with files := mapF f.name u S.files } : DM).files = mapF f.name u S.files from rfl, mapF_names f.name u hu]; exact h.names
    sorted := h.sorted }

theorem total_mapF (k : List UInt8) (u : FM → FM) (files : List FM) (f : FM) (hf : files.find? (named k) = some f) (hn : (files.map (·.name)).Nodup) : total (mapF k u files) + f.bytes.length = total files + (u f).bytes.length := by
  induction files with
  | nil => cases hf
  | cons a l ih =>
    simp only [List.map_cons, List.nodup_cons, List.mem_map, not_exists, not_and] at hn
    rw [List.find?_cons] at hf
    by_cases ha : named k a = true
    · rw [ha] at hf
      simp only [Option.some.injEq] at hf
      subst hf
      have hl : l.map (fun g => if named k g = true then u g else g) = l := by
        have : l.map (fun g => if named k g = true then u g else g) = l.map id := by
          apply List.map_congr_left
          intro g hg
          have : named k g = false := by
            have h1 := hn.1 g hg
            simp only [named, beq_iff_eq, beq_eq_false_iff_ne] at ha ⊢
            exact fun e => h1 (e.trans ha.symm)
          simp [this]
        simpa using this
      simp only [total, mapF, List.map_cons, ha, if_true, List.sum_cons, hl]
      omega
    · simp only [Bool.not_eq_true] at ha
      rw [ha] at hf
      have := ih hf hn.2
      simp only [total, mapF, List.map_cons, ha, List.sum_cons] at this ⊢
      simp only [Bool.false_eq_true, if_false]
      omega

end Go.Proofs.Ytloccomlnnndoaa
