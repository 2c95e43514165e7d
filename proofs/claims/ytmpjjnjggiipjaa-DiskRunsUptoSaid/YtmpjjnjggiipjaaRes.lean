/- The names of a disk's files in order; what a restart leaves. Numbers and types by name. -/
import Derived.Test.YtmpjjnjggiipjaaRea
namespace Go.Proofs.Ytmpjjnjggiipjaa
open Go.RowKit Go.Maps Go.Sort Go.WideMaps

def sortedNames (files : List FM) : List (List UInt8) := (files.map (·.name)).mergeSort leB

theorem sortedNames_perm (files : List FM) : (sortedNames files).Perm (files.map (·.name)) := List.mergeSort_perm _ _

theorem names_rep (base b : Nat) (S : DM) (s : DS) (w : World) (hR : Rep w base b S s) (hlen : S.files.length < 1000000) :
    Calls Try.prog 37 #[theDisk b] w fun e w' => ∃ ao c, e = .returned (.slice ao (sortedNames S.files).length c) ∧
      w'.ownsRow w.heap.size 9 1 (.slice ao (sortedNames S.files).length c) (sortedNames S.files).length ((sortedNames S.files).map encStr) ∧ w.grownBy w' none := by
  cases hm : S.mp with
  | none =>
    refine (names_none b s w hR.disk (by rw [hR.fs, hm])).mono ?_
    rintro e w' ⟨rfl, hg⟩
    have : sortedNames S.files = [] := by simp [sortedNames, hR.mapN hm]
    rw [this]
    exact ⟨none, 0, rfl, World.ownsRow_nil _ _ _ _, hg⟩
  | some m =>
    obtain ⟨D, hown, h1, h2, h3⟩ := hR.mapS m hm
    refine (names_some b m _ s D Rp w hR.disk (by rw [hR.fs, hm]) hown (by rw [h1]; unfold maxLen; omega) (by rw [h1]; omega)).mono ?_
    rintro e w' ⟨v, ss, rfl, hp, hrow, _, hg⟩
    have hp2 := (hR.mapS m hm).perm hR.names hown h3
    have e1 : ss.mergeSort (fun x y => decide (x ≤ y)) = sortedNames S.files := mergeSort_of_perm (hp.trans hp2.symm)
    have e2 : ss.length = (sortedNames S.files).length := by rw [← e1]; simp
    rw [e1, e2] at hrow
    obtain ⟨ao, c, rfl⟩ := owns_shape hrow
    exact ⟨ao, c, rfl, hrow, hg⟩

/-- What stays of a file of which q bytes more than those that are synced stay. -/
def survive (q : Int) (g : FM) : FM :=
  { g with bytes := g.bytes.take (g.sy + min q.toNat (g.bytes.length - g.sy)), sy := g.sy + min q.toNat (g.bytes.length - g.sy) }

/-- Behind k files in the order ss. -/
def resF (keep : List Int) (ss : List (List UInt8)) (files : List FM) : Nat → List FM
  | 0 => files
  | k + 1 => mapF (ss.getD k []) (survive (keep.getD k 0)) (resF keep ss files k)

theorem resF_names (keep : List Int) (ss : List (List UInt8)) (files : List FM) (k : Nat) : (resF keep ss files k).map (·.name) = files.map (·.name) := by
  induction k with
  | zero => rfl
  | succ k ih => rw [resF, mapF_names _ (survive _) (fun _ => rfl), ih]

theorem mapF_foot (k : List UInt8) (u : FM → FM) (hu : ∀ g, (u g).foot = g.foot) (files : List FM) : (mapF k u files).flatMap FM.foot = files.flatMap FM.foot := by
  unfold mapF
  induction files with
  | nil => rfl
  | cons a l ih =>
    simp only [List.map_cons, List.flatMap_cons, ih]
    congr 1
    split
    · exact hu a
    · rfl

theorem resF_foot (keep : List Int) (ss : List (List UInt8)) (files : List FM) (k : Nat) : (resF keep ss files k).flatMap FM.foot = files.flatMap FM.foot := by
  induction k with
  | zero => rfl
  | succ k ih => rw [resF, mapF_foot _ (survive _) (fun _ => rfl), ih]

theorem total_survive (k : List UInt8) (q : Int) (files : List FM) : total (mapF k (survive q) files) ≤ total files := by
  unfold total mapF
  induction files with
  | nil => simp
  | cons a l ih =>
    simp only [List.map_cons, List.sum_cons]
    have : (if named k a = true then survive q a else a).bytes.length ≤ a.bytes.length := by
      split
      · simp only [survive, List.length_take]; exact Nat.min_le_right _ _
      · exact Nat.le_refl _
    omega

theorem total_resF (keep : List Int) (ss : List (List UInt8)) (files : List FM) (k : Nat) : total (resF keep ss files k) ≤ total files := by
  induction k with
  | zero => exact Nat.le_refl _
  | succ k ih => exact Nat.le_trans (total_survive _ _ _) ih

theorem owns_take {w : World} {base e : Nat} {ao : Option Addr} {len c : Nat} {xs : List Value} (h : w.ownsRow base e 1 (.slice ao len c) len xs) (n : Nat) (hn : n ≤ len) : w.ownsRow base e 1 (.slice ao n c) n (xs.take n) := by
  have hl := h.1
  refine ⟨by simp; omega, ?_⟩
  rcases h.2 with ⟨hv, h0⟩ | ⟨g, cap, cur, hv, hb, hg, h1, h2, h3, h4⟩
  · simp only [Value.slice.injEq] at hv
    obtain ⟨rfl, _, rfl⟩ := hv
    obtain rfl : n = 0 := by omega
    exact .inl ⟨rfl, rfl⟩
  · simp only [Value.slice.injEq] at hv
    obtain ⟨rfl, _, rfl⟩ := hv
    refine .inr ⟨g, c, cur, rfl, hb, hg, by omega, h2, h3, ?_⟩
    rw [← h4, List.take_take]
    congr 1
    omega

theorem find_of_name {files files' : List FM} (hn : files'.map (·.name) = files.map (·.name)) {x : List UInt8} (hx : ∃ f ∈ files, f.name = x) : ∃ f, files'.find? (named x) = some f := by
  obtain ⟨f, hf, rfl⟩ := hx
  have h1 : f.name ∈ files'.map (·.name) := by rw [hn]; exact List.mem_map.2 ⟨f, hf, rfl⟩
  obtain ⟨g, hg, hgn⟩ := List.mem_map.1 h1
  cases h : files'.find? (named f.name) with
  | some g' => exact ⟨g', rfl⟩
  | none =>
    rw [List.find?_eq_none] at h
    exact absurd (by simp [named, hgn]) (h g hg)

theorem own_strs {w : World} {base : Nat} {ao : Option Addr} {c : Nat} {ss : List (List UInt8)} (h : w.ownsRow base 9 1 (.slice ao ss.length c) ss.length (ss.map encStr)) {k : Nat} (hk : k < ss.length) :
    ∃ g, ao = some ⟨g, 0, none⟩ ∧ w.cell? ⟨g, k, none⟩ = some (encStr (ss.getD k [])) := by
  rcases h.2 with ⟨h, h0⟩ | ⟨g, cap, cur, h, hb, hg, h1, h2, h3, h4⟩
  · omega
  · simp only [Value.slice.injEq] at h
    obtain ⟨rfl, _, rfl⟩ := h
    refine ⟨g, rfl, ?_⟩
    have e1 : (cur.toList.take ss.length)[k]? = (ss.map encStr)[k]? := by rw [← h4]; simp
    rw [List.getElem?_take_of_lt hk] at e1
    simp only [World.cell?, hg]
    simp only [Option.isSome_none, Bool.false_eq_true, if_false]
    rw [← Array.getElem?_toList, e1]
    simp [hk]

theorem le_total {files : List FM} {f : FM} (hf : f ∈ files) : f.bytes.length ≤ total files := by
  unfold total
  induction files with
  | nil => cases hf
  | cons a l ih =>
    simp only [List.map_cons, List.sum_cons]
    rcases List.mem_cons.1 hf with rfl | h
    · omega
    · have := ih h; omega

theorem more_is (sy len : Nat) (q : Int) (h1 : sy ≤ len) (h2 : len < 1000000000) : wrap64 ((sy : Int) + min (max q 0) (wrap64 ((len : Int) - sy))) = ((sy + min q.toNat (len - sy) : Nat) : Int) := by
  have e1 : wrap64 ((len : Int) - sy) = (len : Int) - sy := IntWalk.wrap64_in _ (by omega)
  rw [e1, IntWalk.wrap64_in _ (by omega)]
  omega

theorem owns_cap {w : World} {base e : Nat} {ao : Option Addr} {len c : Nat} {xs : List Value} (h : w.ownsRow base e 1 (.slice ao len c) len xs) : len ≤ c ∧ c ≤ 9223372036854775807 := by
  rcases h.2 with ⟨hv, h0⟩ | ⟨g, cap, cur, hv, hb, hg, h1, h2, h3, h4⟩
  · simp only [Value.slice.injEq] at hv
    omega
  · simp only [Value.slice.injEq] at hv
    obtain ⟨rfl, _, rfl⟩ := hv
    unfold maxLen at h2
    omega

theorem shorten_int (b f : Nat) (s : DS) (ao : Option Addr) (len cap : Nat) (sy : Int) (x : Int) (n : Nat) (hx : x = n) (w : World) (hd : DiskC w b s) (hf : FileC w f (.slice ao len cap) sy) (hn : n ≤ len) (hc : len ≤ cap) (hm : cap ≤ 9223372036854775807) (hne : b ≠ f)
    (hs0 : (len : Int) - n ≤ s.sz) (hs1 : s.sz ≤ 9223372036854775807) :
    Calls Try.prog 38 #[.pointer (some ⟨b, 0, none⟩), .pointer (some ⟨f, 0, none⟩), .int .i64 x] w fun e w' => e = .returned (.tuple #[]) ∧
      DiskC w' b { s with sz := s.sz - (len - n) } ∧ FileC w' f (.slice ao n cap) (min sy n) ∧ Turn [b, f] w w' := by
  subst hx
  exact shorten_any b f s ao len cap sy n w hd hf hn hc hm hne hs0 hs1

end Go.Proofs.Ytmpjjnjggiipjaa
