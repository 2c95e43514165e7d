/- A file that is removed: the map's entry is deleted. Numbers and types by name. -/
import Derived.Test.YtloccomlnnndoaaCut
namespace Go.Proofs.Ytloccomlnnndoaa
open Go.RowKit Go.Maps Go.Sort Go.WideMaps

def without (k : List UInt8) (files : List FM) : List FM := files.filter fun g => !named k g

theorem ownsMap_tight {w : World} {k : TypeId} {R : Value → Option (DataW Unit × List MemPlace)} {b n : Nat} {D : DataW Unit} (h : w.ownsMap Try.prog k R b n D) : w.ownsMap Try.prog k R b (Maps.size D) D := by
  obtain ⟨es, clock, hb, F, hs, rfl⟩ := h
  refine ⟨es, clock, hb, F, ?_, rfl⟩
  have e1 : Maps.size (DataW.map ((es.toList.map (WideElems.rg Try.prog k R)).foldr DataW.insert [])) = es.size := by simp [Maps.size, length_sorted]
  omega

theorem without_length (k : List UInt8) (files : List FM) (hn : (files.map (·.name)).Nodup) : (without k files).length + (if files.any (named k) = true then 1 else 0) = files.length := by
  induction files with
  | nil => rfl
  | cons a l ih =>
    simp only [List.map_cons, List.nodup_cons] at hn
    have h1 := ih hn.2
    by_cases ha : named k a = true
    · have hno : l.any (named k) = false := by
        cases e : l.any (named k) with
        | false => rfl
        | true =>
          obtain ⟨g, hg, hgn⟩ := List.any_eq_true.1 e
          refine absurd (List.mem_map.2 ⟨g, hg, ?_⟩) hn.1
          simp [named] at ha hgn
          rw [ha, hgn]
      rw [hno] at h1
      simp only [without, List.filter_cons, ha, Bool.not_true, Bool.false_eq_true, if_false, List.any_cons, Bool.true_or, if_true, List.length_cons] at h1 ⊢
      omega
    · have ha' : named k a = false := by simpa using ha
      simp only [without, List.filter_cons, ha', Bool.not_false, if_true, List.any_cons, Bool.false_or, List.length_cons] at h1 ⊢
      omega

theorem find_without (k x : List UInt8) (files : List FM) : (without k files).find? (named x) = if x = k then none else files.find? (named x) := by
  induction files with
  | nil => simp [without]
  | cons a l ih =>
    by_cases ha : named k a = true
    · have e : without k (a :: l) = without k l := by simp [without, ha]
      rw [e, ih]
      by_cases hx : x = k
      · simp [hx]
      · have : named x a = false := by
          simp [named] at ha ⊢
          rw [ha]; exact fun e => hx e.symm
        simp [hx, this]
    · have ha' : named k a = false := by simpa using ha
      have e : without k (a :: l) = a :: without k l := by simp [without, ha']
      rw [e, List.find?_cons, List.find?_cons, ih]
      by_cases hx : x = k
      · simp [hx, ha']
      · simp [hx]

theorem any_without (k x : List UInt8) (files : List FM) : (without k files).any (named x) = if x = k then false else files.any (named x) := by
  have h1 : ∀ l : List FM, l.any (named x) = (l.find? (named x)).isSome := by
    intro l
    rw [Bool.eq_iff_iff, List.find?_isSome, List.any_eq_true]
  rw [h1, h1, find_without]
  split <;> rfl

theorem MapAt.del {w' : World} {m : Nat} {files : List FM} {D : DataW Unit} {n : Nat} (k : List UInt8) (hnd : (files.map (·.name)).Nodup) (h1 : Maps.size D = files.length) (h2 : ∀ x, D.atKey (.string x) .nil = Go.Proofs.Ytloccomlnnndoaa.look files x) (h3 : ∀ x, Maps.has D (.string x) = files.any (named x))
    (hT : Tidy D) (hown : w'.ownsMap Try.prog 9 Rp m n (D.del (.string k))) : MapAt w' m (without k files) := by
  have hl : Maps.size (D.del (.string k)) = (without k files).length := by
    have e1 := size_del (k := .string k) hT
    have e2 := without_length k files hnd
    rw [h3] at e1
    omega
  refine ⟨_, by rw [← hl]; exact ownsMap_tight hown, hl, fun x => ?_, fun x => ?_⟩
  · by_cases hx : x = k
    · subst hx
      rw [atKey_del_same]
      unfold Go.Proofs.Ytloccomlnnndoaa.look
      rw [find_without]
      simp
    · rw [atKey_del_other (by simpa using hx), h2]
      unfold Go.Proofs.Ytloccomlnnndoaa.look
      rw [find_without, if_neg hx]
  · rw [any_without]
    by_cases hx : x = k
    · subst hx
      rw [has_del_same]
      simp
    · rw [has_del_other (by simpa using hx), h3, if_neg hx]

theorem mem_without {k : List UInt8} {files : List FM} {g : FM} (h : g ∈ without k files) : g ∈ files ∧ g.name ≠ k := by
  have h1 := List.mem_filter.1 h
  refine ⟨h1.1, ?_⟩
  have := h1.2
  simp [named] at this
  exact this

/-- The disk behind a deletion in its map. -/
theorem Rep.without {w w' : World} {base b : Nat} {S : DM} {s : DS} (h : Rep w base b S s) (k : List UInt8) (m : Nat) (hm : S.mp = some m) (t : Turn [m] w w') (hM : MapAt w' m (without k S.files)) :
    Rep w' base b { S with files := without k S.files } s := by
  have hfoot : ∀ x, x ∈ foot b { S with files := Go.Proofs.Ytloccomlnnndoaa.without k S.files } → x ∈ foot b S := by
    intro x hx
    simp only [foot, List.mem_cons, List.mem_append, List.mem_flatMap] at hx ⊢
    rcases hx with hx | hx | ⟨f, hf, hx⟩
    · exact .inl hx
    · exact .inr (.inl hx)
    · exact .inr (.inr ⟨f, (mem_without hf).1, hx⟩)
  have hmf : m ∈ foot b S := by simp [foot, hm]
  obtain ⟨ao, c, ao', c', g1, g2, g3, g4, g5, g6, g7, g8⟩ := h.lists
  exact {
    disk := h.disk.turn t (by simpa using h.apart1 m hm)
    cap := h.cap
    cr := h.cr
    ca := h.ca
    dn := h.dn
    dw := h.dw
    fs := h.fs
    lists := ⟨ao, c, ao', c', g1, g2, owns_turn g3 t (fun g hg => by
        have := g7 g (g5.symm.trans hg); simp; rintro rfl; exact this hmf), owns_turn g4 t (fun g hg => by
        have := g8 g (g6.symm.trans hg); simp; rintro rfl; exact this hmf), g5, g6, (fun g hg hx => g7 g hg (hfoot g hx)), (fun g hg hx => g8 g hg (hfoot g hx))⟩
    mapN := fun e => by rw [show ({ S with files := Go.Proofs.Ytloccomlnnndoaa.without k S.files } : DM).mp = S.mp from rfl, hm] at e; cases e
    mapS := fun m' hm' => by
      obtain rfl : m = m' := by
        have : S.mp = some m' := hm'
        rw [hm] at this; simpa using this
      exact hM
    files := fun f hf => (h.files f (mem_without hf).1).keep t (fun x hx => by
      simp only [List.mem_singleton]; rintro rfl; exact (h.apart2 f (mem_without hf).1).2.1 _ hm hx)
    apart1 := h.apart1
    apart2 := fun f hf => h.apart2 f (mem_without hf).1
    apart3 := h.apart3.sublist List.filter_sublist
    low := fun x hx => h.low x (hfoot x hx)
    names := h.names.sublist (List.filter_sublist.map _)
    sorted := h.sorted }

theorem without_mapF (k : List UInt8) (u : FM → FM) (hu : ∀ g, (u g).name = g.name) (files : List FM) : Go.Proofs.Ytloccomlnnndoaa.without k (mapF k u files) = Go.Proofs.Ytloccomlnnndoaa.without k files := by
  induction files with
  | nil => rfl
  | cons a l ih =>
    unfold Go.Proofs.Ytloccomlnnndoaa.without mapF at *
    rw [List.map_cons]
    by_cases ha : named k a = true
    · have h2 : named k (u a) = true := by simp [named, hu] at ha ⊢; exact ha
      simp only [ha, if_true, List.filter_cons, h2, Bool.not_true, Bool.false_eq_true, if_false]
      exact ih
    · have ha' : named k a = false := by simpa using ha
      simp only [ha', Bool.false_eq_true, if_false, List.filter_cons, Bool.not_false, if_true]
      rw [ih]

theorem total_without (k : List UInt8) (files : List FM) (f : FM) (hf : files.find? (named k) = some f) (hn : (files.map (·.name)).Nodup) : total (Go.Proofs.Ytloccomlnnndoaa.without k files) + f.bytes.length = total files := by
  induction files with
  | nil => cases hf
  | cons a l ih =>
    simp only [List.map_cons, List.nodup_cons] at hn
    rw [List.find?_cons] at hf
    by_cases ha : named k a = true
    · simp only [ha] at hf
      obtain rfl := Option.some.inj hf
      have e : Go.Proofs.Ytloccomlnnndoaa.without k (a :: l) = l := by
        have : Go.Proofs.Ytloccomlnnndoaa.without k l = l := by
          refine List.filter_eq_self.2 fun g hg => ?_
          cases e : named k g with
          | false => rfl
          | true =>
            refine absurd (List.mem_map.2 ⟨g, hg, ?_⟩) hn.1
            simp [named] at ha e
            rw [ha, e]
        simpa [Go.Proofs.Ytloccomlnnndoaa.without, ha] using this
      rw [e]
      simp [total]; omega
    · have ha' : named k a = false := by simpa using ha
      simp only [ha'] at hf
      have e : Go.Proofs.Ytloccomlnnndoaa.without k (a :: l) = a :: Go.Proofs.Ytloccomlnnndoaa.without k l := by simp [Go.Proofs.Ytloccomlnnndoaa.without, ha']
      rw [e]
      have := ih hf hn.2
      simp [total] at this ⊢; omega

end Go.Proofs.Ytloccomlnnndoaa
