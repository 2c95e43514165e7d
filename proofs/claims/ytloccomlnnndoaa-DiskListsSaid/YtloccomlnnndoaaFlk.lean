/- Files, of disks without bytes: the names rise strictly. Numbers and types by name. -/
import Derived.Test.YtloccomlnnndoaaLk
import Derived.Test.YtloccomlnnndoaaKee
import Derived.Test.YtloccomlnnndoaaMov
namespace Go.Proofs.Ytloccomlnnndoaa
open Go.RowKit Go.Maps Go.Sort Go.WideMaps

/-- No name is told twice, and each is behind the one ahead of it. -/
def Rising (ns : List (List UInt8)) : Prop := ∀ (j : Nat) (x y : List UInt8), ns[j]? = some x → ns[j + 1]? = some y → (Op.bytesLess y x || y == x) = false

theorem rising_sorted (files : List FM) (hn : (files.map (·.name)).Nodup) : Rising (sortedNames files) := by
  have tr : ∀ a b c : List UInt8, leB a b = true → leB b c = true → leB a c = true := fun a b c h1 h2 => by simp only [leB, decide_eq_true_eq] at *; exact List.le_trans h1 h2
  have to : ∀ a b : List UInt8, (leB a b || leB b a) = true := fun a b => by simp only [leB, Bool.or_eq_true, decide_eq_true_eq]; exact List.le_total a b
  have hs : (sortedNames files).Pairwise fun a b => leB a b = true := List.pairwise_mergeSort tr to _
  have hd : (sortedNames files).Nodup := (sortedNames_perm files).nodup_iff.2 hn
  intro j x y hx hy
  obtain ⟨hj1, rfl⟩ := List.getElem?_eq_some_iff.1 hx
  obtain ⟨hj2, rfl⟩ := List.getElem?_eq_some_iff.1 hy
  have h1 := List.pairwise_iff_getElem.1 hs j (j + 1) hj1 hj2 (by omega)
  have h2 : (sortedNames files)[j] ≠ (sortedNames files)[j + 1] := List.pairwise_iff_getElem.1 hd j (j + 1) hj1 hj2 (by omega)
  simp only [leB, decide_eq_true_eq] at h1
  rw [bytesLess_eq]
  simp only [Bool.or_eq_false_iff, decide_eq_false_iff_not, beq_eq_false_iff_ne, ne_eq]
  exact ⟨fun h => absurd h1 (List.not_le.2 h), fun h => h2 h.symm⟩

/-- The names in a row of files, each the name of a file without bytes. -/
def NamesAt (w : World) (ao : Option Addr) (ns : List (List UInt8)) : Prop := ∀ j x, ns[j]? = some x → ∃ a, ao = some a ∧ w.cell? (a.add (j * 3)) = some (.string ⟨x.toArray⟩)

theorem files_lk (base b m : Nat) (w : World) (h : Lk w base b m) (hm : m < 900) :
    Calls Try.prog 25 #[theDisk b] w fun e w' => ∃ ao c ns fs ca, e = .returned (.slice ao ns.length c) ∧ ns.length ≤ 900 ∧ NamesAt w' ao ns ∧ Rising ns ∧ Dk w' base b fs 100000 ca [] ∧ w.grownBy w' none ∧
      ∀ x ∈ ns, x ≠ [] ∧ x.length ≤ 100 ∧ ∃ sy, fs.find? (isName x) = some (x, [], sy) := by
  obtain ⟨fs, ca, hD, h0, h1, hlen, hfs⟩ := h
  have hD' := hD
  obtain ⟨hb, S, s, hR, hs, hv, hc⟩ := hD
  have hl : S.files.length = fs.length := by rw [← hv]; simp
  have ht : tot fs = total S.files := by rw [← hv, tot_view]
  have ht0 : tot fs = 0 := tot_zero fun x hx => (hfs x hx).2.2
  have hperm := sortedNames_perm S.files
  have hnl : (sortedNames S.files).length = S.files.length := by rw [hperm.length_eq]; simp
  refine (files_any base b S s w hR (by omega) (by omega) (fun f hf => by have := (hfs (view f) (by rw [← hv]; exact List.mem_map.2 ⟨f, hf, rfl⟩)).2.1; simp only [view] at this; unfold maxLen; omega)).mono ?_
  rintro e w' ⟨ao, c, xs, rfl, hown, htold, hg⟩
  have hmem : ∀ x ∈ sortedNames S.files, x ≠ [] ∧ x.length ≤ 100 ∧ ∃ sy, fs.find? (isName x) = some (x, [], sy) := by
    intro x hx
    obtain ⟨f, hf, rfl⟩ := List.mem_map.1 (hperm.mem_iff.1 hx)
    have hv2 := hfs (view f) (by rw [← hv]; exact List.mem_map.2 ⟨f, hf, rfl⟩)
    refine ⟨hv2.1, hv2.2.1, ?_⟩
    cases hfd : fs.find? (isName f.name) with
    | none =>
      have := List.find?_eq_none.1 hfd (view f) (by rw [← hv]; exact List.mem_map.2 ⟨f, hf, rfl⟩)
      simp [isName, view] at this
    | some e =>
      obtain ⟨nm, l, sy⟩ := e
      have h1 := List.find?_some hfd
      have h2 := (hfs _ (List.mem_of_find?_eq_some hfd)).2.2
      simp only [isName, beq_iff_eq] at h1 h2
      exact ⟨sy, by rw [h1, h2]⟩
  refine ⟨ao, c, sortedNames S.files, fs, ca, by rw [hnl], by omega, ?_, rising_sorted _ hR.names, hD'.new (Turn.of_none hg), hg, hmem⟩
  intro j x hx
  have hjl : j < (sortedNames S.files).length := (List.getElem?_eq_some_iff.1 hx).1
  have hf : ((sortedNames S.files).map (fileOf S.files))[j]? = some (fileOf S.files x) := by simp [hx]
  obtain ⟨ao2, c2, hx0, _⟩ := htold.2 j _ hf
  have hname : (fileOf S.files x).name = x := by
    obtain ⟨f, hf, hfn⟩ := List.mem_map.1 (hperm.mem_iff.1 (List.mem_of_getElem? hx))
    unfold fileOf
    cases hfd : S.files.find? (named x) with
    | none =>
      have := List.find?_eq_none.1 hfd f hf
      simp [named, hfn] at this
    | some g =>
      have := List.find?_some hfd
      simpa [named] using this
  rw [hname] at hx0
  obtain ⟨a, rfl⟩ : ∃ a, ao = some a := by
    cases ao with
    | some a => exact ⟨a, rfl⟩
    | none =>
      rcases hown.2 with ⟨_, h⟩ | ⟨g, cap, cur, h, _⟩
      · omega
      · cases h
  refine ⟨a, rfl, ?_⟩
  have := hown.cells (g := a.block) rfl (j * 3) _ hx0
  have hz : a = ⟨a.block, 0, none⟩ := by
    rcases hown.2 with ⟨h, _⟩ | ⟨g, cap, cur, h, _⟩
    · cases h
    · simp only [Value.slice.injEq, Option.some.injEq] at h; rw [h.1]
  rw [← hz] at this
  exact this

end Go.Proofs.Ytloccomlnnndoaa
