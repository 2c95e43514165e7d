/- The index's lists: plain facts. -/
import Derived.Test.YtkeahapgliljoaaIxd
import Derived.Test.YtkeahapgliljoaaSmo
namespace Go.Proofs.Ytkeahapgliljoaa
open Go.RowKit Go.Lib

/-- The keys differ. -/
def Apart (E : List Prm) : Prop := E.Pairwise fun a b => a.key ≠ b.key
theorem look_in {L : List Prm} (h : Apart L) {o : Prm} (ho : o ∈ L) : look L o.key = some o.val := by
  induction L with
  | nil => cases ho
  | cons z L ih =>
    rw [look_cons]
    have h1 := List.pairwise_cons.1 h
    rcases List.mem_cons.1 ho with rfl | ho
    · simp
    · rw [if_neg (h1.1 o ho), ih h1.2 ho]
theorem mem_look {L : List Prm} {k v : ByteArray} (h : look L k = some v) : ⟨k, v⟩ ∈ L := by
  obtain ⟨z, hz, rfl, rfl⟩ := look_mem h
  exact hz
theorem mem_iff_look {L : List Prm} (h : Apart L) (o : Prm) : o ∈ L ↔ look L o.key = some o.val := ⟨look_in h, fun e => mem_look e⟩
theorem rise_apart {L : List Prm} (h : Rise L) : Apart L := List.Pairwise.imp (fun {a b} (hab : kOf a < kOf b) e => by unfold kOf at hab; rw [e] at hab; exact List.lt_irrefl _ hab) h

theorem putE_nil (k x : ByteArray) : putE [] k x = [⟨k, x⟩] := rfl
theorem putE_cons (y : Prm) (E : List Prm) (k x : ByteArray) : putE (y :: E) k x = if y.key = k then ⟨k, x⟩ :: E else y :: putE E k x := by
  unfold putE
  rw [List.findIdx?_cons]
  by_cases h : y.key = k
  · simp [hasK, h]
  · have hk : hasK k y = false := by simp [hasK, h]
    rw [hk]
    cases hf : E.findIdx? (hasK k) <;> simp [h]
theorem delE_cons (y : Prm) (E : List Prm) (k : ByteArray) : delE (y :: E) k = if y.key = k then E else y :: delE E k := by
  unfold delE
  rw [List.findIdx?_cons]
  by_cases h : y.key = k
  · simp [hasK, h]
  · have hk : hasK k y = false := by simp [hasK, h]
    rw [hk]
    cases hf : E.findIdx? (hasK k) <;> simp [h]
theorem look_putE (E : List Prm) (k x a : ByteArray) : look (putE E k x) a = if k = a then some x else look E a := by
  induction E with
  | nil => rw [putE_nil, look_cons]
  | cons y E ih =>
    rw [putE_cons]
    by_cases h : y.key = k
    · rw [if_pos h, look_cons, look_cons]
      by_cases h2 : k = a
      · simp [h2]
      · rw [if_neg h2, if_neg h2, if_neg (by rw [h]; exact h2)]
    · rw [if_neg h, look_cons, look_cons, ih]
      by_cases h2 : k = a
      · rw [if_neg (by rw [← h2]; exact h), if_pos h2, if_pos h2]
      · simp [h2]
theorem mem_putE {E : List Prm} {k x : ByteArray} {o : Prm} (h : o ∈ putE E k x) : o.key = k ∨ o ∈ E := by
  induction E with
  | nil => rw [putE_nil] at h; exact .inl (by rw [List.mem_singleton.1 h])
  | cons y E ih =>
    rw [putE_cons] at h
    by_cases hk : y.key = k
    · rw [if_pos hk] at h
      rcases List.mem_cons.1 h with rfl | h
      · exact .inl rfl
      · exact .inr (List.mem_cons_of_mem _ h)
    · rw [if_neg hk] at h
      rcases List.mem_cons.1 h with rfl | h
      · exact .inr (by simp)
      · exact (ih h).imp id (List.mem_cons_of_mem _)
theorem apart_putE {E : List Prm} (h : Apart E) (k x : ByteArray) : Apart (putE E k x) := by
  induction E with
  | nil => rw [putE_nil]; exact List.pairwise_singleton _ _
  | cons y E ih =>
    have h1 := List.pairwise_cons.1 h
    rw [putE_cons]
    by_cases hk : y.key = k
    · rw [if_pos hk]
      exact List.Pairwise.cons (fun z hz => by rw [← hk]; exact h1.1 z hz) h1.2
    · rw [if_neg hk]
      exact List.Pairwise.cons (fun z hz => by
        rcases mem_putE hz with e | hz
        · rw [e]; exact hk
        · exact h1.1 z hz) (ih h1.2)
theorem putE_length (E : List Prm) (k x : ByteArray) : (putE E k x).length ≤ E.length + 1 := by
  unfold putE
  split
  · rw [List.length_set]; omega
  · rw [List.length_append]; exact Nat.le_refl _
theorem delE_sub (E : List Prm) (k : ByteArray) : (delE E k).Sublist E := by
  unfold delE
  split
  · exact List.eraseIdx_sublist _ _
  · exact List.Sublist.refl _
theorem look_delE {E : List Prm} (h : Apart E) (k a : ByteArray) : look (delE E k) a = if k = a then none else look E a := by
  induction E with
  | nil => unfold delE; simp [look]
  | cons y E ih =>
    have h1 := List.pairwise_cons.1 h
    rw [delE_cons]
    by_cases hk : y.key = k
    · rw [if_pos hk, look_cons]
      by_cases h2 : k = a
      · rw [if_pos h2]
        exact look_none fun z hz e => h1.1 z hz (by rw [hk, h2, e])
      · rw [if_neg h2, if_neg (by rw [hk]; exact h2)]
    · rw [if_neg hk, look_cons, look_cons, ih h1.2]
      by_cases h2 : k = a
      · rw [if_neg (by rw [← h2]; exact hk), if_pos h2, if_pos h2]
      · simp [h2]

/-- The bucket of a key. -/
def bkt (m : Nat) (k : ByteArray) : Nat := (sumOf 0 k.data.toList).toNat % m
theorem bkt_lt {m : Nat} (h : 0 < m) (k : ByteArray) : bkt m k < m := Nat.mod_lt _ h

/-- The lists are those of a map's pairs. -/
structure Split (m : Nat) (Es : List (List Prm)) (L : List Prm) : Prop where
  len : Es.length = m
  apart : ∀ (i : Nat) (E : List Prm), Es[i]? = some E → Apart E
  home : ∀ (i : Nat) (E : List Prm), Es[i]? = some E → ∀ o ∈ E, bkt m o.key = i
  same : ∀ k E, Es[bkt m k]? = some E → look L k = look E k

theorem Split.get {m : Nat} {Es : List (List Prm)} {L : List Prm} (h : Split m Es L) (hm : 0 < m) (k : ByteArray) : ∃ E, Es[bkt m k]? = some E :=
  ⟨_, List.getElem?_eq_getElem (by rw [h.len]; exact bkt_lt hm k)⟩
theorem Split.perm {m : Nat} {Es : List (List Prm)} {L : List Prm} (h : Split m Es L) (hm : 0 < m) (hR : Rise L) : Es.flatten.Perm L := by
  have hap : Apart Es.flatten := by
    unfold Apart
    rw [List.pairwise_flatten]
    refine ⟨fun l hl => ?_, ?_⟩
    · obtain ⟨i, hi⟩ := List.getElem?_of_mem hl
      exact h.apart i l hi
    · rw [List.pairwise_iff_getElem]
      intro i j hi hj hij x hx y hy e
      have e1 := h.home i _ (List.getElem?_eq_getElem hi) x hx
      have e2 := h.home j _ (List.getElem?_eq_getElem hj) y hy
      rw [e] at e1
      omega
  have nd : ∀ {A : List Prm}, Apart A → A.Nodup := fun hA => List.Pairwise.imp (fun hab e => hab (by rw [e])) hA
  refine (List.perm_ext_iff_of_nodup (nd hap) (nd (rise_apart hR))).2 fun o => ?_
  obtain ⟨E, hE⟩ := h.get hm o.key
  rw [mem_iff_look (rise_apart hR), h.same o.key E hE, ← mem_iff_look (h.apart _ E hE), List.mem_flatten]
  constructor
  · rintro ⟨l, hl, ho⟩
    obtain ⟨i, hi⟩ := List.getElem?_of_mem hl
    rw [h.home i l hi o ho] at hE
    rw [hE] at hi
    cases hi
    exact ho
  · intro ho
    exact ⟨E, List.mem_of_getElem? hE, ho⟩
theorem Split.short {m : Nat} {Es : List (List Prm)} {L : List Prm} (h : Split m Es L) (hm : 0 < m) (hR : Rise L) {i : Nat} {E : List Prm} (hE : Es[i]? = some E) : E.length ≤ L.length := by
  rw [← (h.perm hm hR).length_eq]
  exact (List.sublist_flatten_of_mem (List.mem_of_getElem? hE)).length_le
theorem Split.step {m : Nat} {Es : List (List Prm)} {L L' : List Prm} (h : Split m Es L) {k : ByteArray} {E' : List Prm} (ha : Apart E') (ht : ∀ o ∈ E', bkt m o.key = bkt m k)
    (h1 : ∀ a, a ≠ k → look L' a = look L a) (h2 : ∀ a E, Es[bkt m k]? = some E → a ≠ k → look E' a = look E a) (h3 : look L' k = look E' k) (hm : 0 < m) : Split m (Es.set (bkt m k) E') L' := by
  have hb : bkt m k < Es.length := by rw [h.len]; exact bkt_lt hm k
  refine ⟨by rw [List.length_set]; exact h.len, fun i E hE => ?_, fun i E hE o ho => ?_, fun a E hE => ?_⟩
  · rw [List.getElem?_set] at hE
    split at hE
    · cases hE; exact ha
    · exact h.apart i E hE
  · rw [List.getElem?_set] at hE
    split at hE
    · next e => cases hE; rw [← e]; exact ht o ho
    · exact h.home i E hE o ho
  · rw [List.getElem?_set] at hE
    by_cases hak : a = k
    · subst hak
      rw [if_pos rfl, if_pos hb] at hE
      cases hE
      exact h3
    · rw [h1 a hak]
      split at hE
      · next e =>
        cases hE
        obtain ⟨E0, hE0⟩ := h.get hm k
        rw [h2 a E0 hE0 hak]
        exact h.same a E0 (by rw [← e]; exact hE0)
      · exact h.same a E hE
theorem Split.put {m : Nat} {Es : List (List Prm)} {L : List Prm} (h : Split m Es L) (hm : 0 < m) {k : ByteArray} {E : List Prm} (hE : Es[bkt m k]? = some E) (x : ByteArray) : Split m (Es.set (bkt m k) (putE E k x)) (putP ⟨k, x⟩ L) := by
  refine h.step (apart_putE (h.apart _ E hE) k x) (fun o ho => ?_) (fun a ha => ?_) (fun a E0 h0 ha => ?_) ?_ hm
  · rcases mem_putE ho with e | ho
    · rw [e]
    · exact h.home _ E hE o ho
  · rw [look_put, if_neg (fun e => ha e.symm)]
  · rw [hE] at h0
    cases h0
    rw [look_putE, if_neg (fun e => ha e.symm)]
  · rw [look_put, look_putE, if_pos rfl, if_pos rfl]
theorem Split.del {m : Nat} {Es : List (List Prm)} {L : List Prm} (h : Split m Es L) (hm : 0 < m) {k : ByteArray} {E : List Prm} (hE : Es[bkt m k]? = some E) : Split m (Es.set (bkt m k) (delE E k)) (delP L k) := by
  have hE' := h.apart _ E hE
  refine h.step (List.Pairwise.sublist (delE_sub E k) hE') (fun o ho => h.home _ E hE o ((delE_sub E k).subset ho)) (fun a ha => ?_) (fun a E0 h0 ha => ?_) ?_ hm
  · unfold delP
    rw [look_filter, if_neg (fun e => ha e.symm)]
  · rw [hE] at h0
    cases h0
    rw [look_delE hE', if_neg (fun e => ha e.symm)]
  · unfold delP
    rw [look_filter, look_delE hE', if_pos rfl, if_pos rfl]
theorem Split.find {m : Nat} {Es : List (List Prm)} {L : List Prm} (h : Split m Es L) {k : ByteArray} {E : List Prm} (hE : Es[bkt m k]? = some E) : findP E k = findP L k := by
  rw [findP_look, findP_look, h.same k E hE]
theorem Split.nil (m : Nat) : Split m (List.replicate m []) [] := by
  have e : ∀ i (E : List Prm), (List.replicate m ([] : List Prm))[i]? = some E → E = [] := fun i E hE => by
    have := List.mem_of_getElem? hE
    exact List.eq_of_mem_replicate this
  refine ⟨List.length_replicate, fun i E hE => ?_, fun i E hE o ho => ?_, fun k E hE => ?_⟩
  · rw [e i E hE]; exact List.Pairwise.nil
  · rw [e i E hE] at ho; cases ho
  · rw [e _ E hE]

end Go.Proofs.Ytkeahapgliljoaa
