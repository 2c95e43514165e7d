/- A new index; Len. Numbers and types by name. -/
import Derived.Test.YthcdkggkoanjpaaGreatDoorFrp
import Derived.Test.YthcdkggkoanjpaaGreatDoorIxd
import Derived.Test.YthcdkggkoanjpaaGreatDoorFrm
namespace Go.Proofs.YthcdkggkoanjpaaGreatDoor
open Go.RowKit Go.Lib
def Apart (E : List Prm) : Prop := E.Pairwise fun a b => a.key ≠ b.key
theorem look_in {L : List Prm} (h : Apart L) {o : Prm} (ho : o ∈ L) : look L o.key = some o.val := by
  induction L with
  | nil => cases ho
  | cons z L ih =>
    rw [look_cons]
    have h1 := List.pairwise_cons.1 h
    rcases List.mem_cons.1 ho with rfl | ho
    · simp
    · rw [if_neg (h1.1 o ho), ih h1.2 ho]
theorem mem_look {L : List Prm} {k v : ByteArray} (h : look L k = some v) : ⟨k, v⟩ ∈ L := by
  obtain ⟨z, hz, rfl, rfl⟩ := look_mem h
  exact hz
theorem mem_iff_look {L : List Prm} (h : Apart L) (o : Prm) : o ∈ L ↔ look L o.key = some o.val := ⟨look_in h, fun e => mem_look e⟩
theorem rise_apart {L : List Prm} (h : Rise L) : Apart L := List.Pairwise.imp (fun {a b} (hab : kOf a < kOf b) e => by unfold kOf at hab; rw [e] at hab; exact List.lt_irrefl _ hab) h
theorem lputE_nil (k x : ByteArray) : lputE [] k x = [⟨k, x⟩] := rfl
theorem lputE_cons (y : Prm) (E : List Prm) (k x : ByteArray) : lputE (y :: E) k x = if y.key = k then ⟨k, x⟩ :: E else y :: lputE E k x := by
  unfold lputE
  rw [List.findIdx?_cons]
  by_cases h : y.key = k
  · simp [hasK, h]
  · have hk : hasK k y = false := by simp [hasK, h]
    rw [hk]
    cases hf : E.findIdx? (hasK k) <;> simp [h]
theorem delE_cons (y : Prm) (E : List Prm) (k : ByteArray) : delE (y :: E) k = if y.key = k then E else y :: delE E k := by
  unfold delE
  rw [List.findIdx?_cons]
  by_cases h : y.key = k
  · simp [hasK, h]
  · have hk : hasK k y = false := by simp [hasK, h]
    rw [hk]
    cases hf : E.findIdx? (hasK k) <;> simp [h]
theorem look_putE (E : List Prm) (k x a : ByteArray) : look (lputE E k x) a = if k = a then some x else look E a := by
  induction E with
  | nil => rw [lputE_nil, look_cons]
  | cons y E ih =>
    rw [lputE_cons]
    by_cases h : y.key = k
    · rw [if_pos h, look_cons, look_cons]
      by_cases h2 : k = a
      · simp [h2]
      · rw [if_neg h2, if_neg h2, if_neg (by rw [h]; exact h2)]
    · rw [if_neg h, look_cons, look_cons, ih]
      by_cases h2 : k = a
      · rw [if_neg (by rw [← h2]; exact h), if_pos h2, if_pos h2]
      · simp [h2]
theorem mem_putE {E : List Prm} {k x : ByteArray} {o : Prm} (h : o ∈ lputE E k x) : o.key = k ∨ o ∈ E := by
  induction E with
  | nil => rw [lputE_nil] at h; exact .inl (by rw [List.mem_singleton.1 h])
  | cons y E ih =>
    rw [lputE_cons] at h
    by_cases hk : y.key = k
    · rw [if_pos hk] at h
      rcases List.mem_cons.1 h with rfl | h
      · exact .inl rfl
      · exact .inr (List.mem_cons_of_mem _ h)
    · rw [if_neg hk] at h
      rcases List.mem_cons.1 h with rfl | h
      · exact .inr (by simp)
      · exact (ih h).imp id (List.mem_cons_of_mem _)
theorem apart_putE {E : List Prm} (h : Apart E) (k x : ByteArray) : Apart (lputE E k x) := by
  induction E with
  | nil => rw [lputE_nil]; exact List.pairwise_singleton _ _
  | cons y E ih =>
    have h1 := List.pairwise_cons.1 h
    rw [lputE_cons]
    by_cases hk : y.key = k
    · rw [if_pos hk]
      exact List.Pairwise.cons (fun z hz => by rw [← hk]; exact h1.1 z hz) h1.2
    · rw [if_neg hk]
      exact List.Pairwise.cons (fun z hz => by
        rcases mem_putE hz with e | hz
        · rw [e]; exact hk
        · exact h1.1 z hz) (ih h1.2)
theorem delE_sub (E : List Prm) (k : ByteArray) : (delE E k).Sublist E := by
  unfold delE
  split
  · exact List.eraseIdx_sublist _ _
  · exact List.Sublist.refl _
theorem look_delE {E : List Prm} (h : Apart E) (k a : ByteArray) : look (delE E k) a = if k = a then none else look E a := by
  induction E with
  | nil => unfold delE; simp [look]
  | cons y E ih =>
    have h1 := List.pairwise_cons.1 h
    rw [delE_cons]
    by_cases hk : y.key = k
    · rw [if_pos hk, look_cons]
      by_cases h2 : k = a
      · rw [if_pos h2]
        exact look_none fun z hz e => h1.1 z hz (by rw [hk, h2, e])
      · rw [if_neg h2, if_neg (by rw [hk]; exact h2)]
    · rw [if_neg hk, look_cons, look_cons, ih h1.2]
      by_cases h2 : k = a
      · rw [if_neg (by rw [← h2]; exact hk), if_pos h2, if_pos h2]
      · simp [h2]
def bkt (m : Nat) (k : ByteArray) : Nat := (sumOf 0 k.data.toList).toNat % m
theorem bkt_lt {m : Nat} (h : 0 < m) (k : ByteArray) : bkt m k < m := Nat.mod_lt _ h
structure Split (m : Nat) (Es : List (List Prm)) (L : List Prm) : Prop where
  len : Es.length = m
  apart : ∀ (i : Nat) (E : List Prm), Es[i]? = some E → Apart E
  home : ∀ (i : Nat) (E : List Prm), Es[i]? = some E → ∀ o ∈ E, bkt m o.key = i
  same : ∀ k E, Es[bkt m k]? = some E → look L k = look E k
theorem Split.get {m : Nat} {Es : List (List Prm)} {L : List Prm} (h : Split m Es L) (hm : 0 < m) (k : ByteArray) : ∃ E, Es[bkt m k]? = some E :=
  ⟨_, List.getElem?_eq_getElem (by rw [h.len]; exact bkt_lt hm k)⟩
theorem Split.perm {m : Nat} {Es : List (List Prm)} {L : List Prm} (h : Split m Es L) (hm : 0 < m) (hR : Rise L) : Es.flatten.Perm L := by
  have hap : Apart Es.flatten := by
    unfold Apart
    rw [List.pairwise_flatten]
    refine ⟨fun l hl => ?_, ?_⟩
    · obtain ⟨i, hi⟩ := List.getElem?_of_mem hl
      exact h.apart i l hi
    · rw [List.pairwise_iff_getElem]
      intro i j hi hj hij x hx y hy e
      have e1 := h.home i _ (List.getElem?_eq_getElem hi) x hx
      have e2 := h.home j _ (List.getElem?_eq_getElem hj) y hy
      rw [e] at e1
      omega
  have nd : ∀ {A : List Prm}, Apart A → A.Nodup := fun hA => List.Pairwise.imp (fun hab e => hab (by rw [e])) hA
  refine (List.perm_ext_iff_of_nodup (nd hap) (nd (rise_apart hR))).2 fun o => ?_
  obtain ⟨E, hE⟩ := h.get hm o.key
  rw [mem_iff_look (rise_apart hR), h.same o.key E hE, ← mem_iff_look (h.apart _ E hE), List.mem_flatten]
  constructor
  · rintro ⟨l, hl, ho⟩
    obtain ⟨i, hi⟩ := List.getElem?_of_mem hl
    rw [h.home i l hi o ho] at hE
    rw [hE] at hi
    cases hi
    exact ho
  · intro ho
    exact ⟨E, List.mem_of_getElem? hE, ho⟩
theorem Split.short {m : Nat} {Es : List (List Prm)} {L : List Prm} (h : Split m Es L) (hm : 0 < m) (hR : Rise L) {i : Nat} {E : List Prm} (hE : Es[i]? = some E) : E.length ≤ L.length := by
  rw [← (h.perm hm hR).length_eq]
  exact (List.sublist_flatten_of_mem (List.mem_of_getElem? hE)).length_le
theorem Split.step {m : Nat} {Es : List (List Prm)} {L L' : List Prm} (h : Split m Es L) {k : ByteArray} {E' : List Prm} (ha : Apart E') (ht : ∀ o ∈ E', bkt m o.key = bkt m k)
    (h1 : ∀ a, a ≠ k → look L' a = look L a) (h2 : ∀ a E, Es[bkt m k]? = some E → a ≠ k → look E' a = look E a) (h3 : look L' k = look E' k) (hm : 0 < m) : Split m (Es.set (bkt m k) E') L' := by
  have hb : bkt m k < Es.length := by rw [h.len]; exact bkt_lt hm k
  refine ⟨by rw [List.length_set]; exact h.len, fun i E hE => ?_, fun i E hE o ho => ?_, fun a E hE => ?_⟩
  · rw [List.getElem?_set] at hE
    split at hE
    · cases hE; exact ha
    · exact h.apart i E hE
  · rw [List.getElem?_set] at hE
    split at hE
    · next e => cases hE; rw [← e]; exact ht o ho
    · exact h.home i E hE o ho
  · rw [List.getElem?_set] at hE
    by_cases hak : a = k
    · subst hak
      rw [if_pos rfl, if_pos hb] at hE
      cases hE
      exact h3
    · rw [h1 a hak]
      split at hE
      · next e =>
        cases hE
        obtain ⟨E0, hE0⟩ := h.get hm k
        rw [h2 a E0 hE0 hak]
        exact h.same a E0 (by rw [← e]; exact hE0)
      · exact h.same a E hE
theorem Split.put {m : Nat} {Es : List (List Prm)} {L : List Prm} (h : Split m Es L) (hm : 0 < m) {k : ByteArray} {E : List Prm} (hE : Es[bkt m k]? = some E) (x : ByteArray) : Split m (Es.set (bkt m k) (lputE E k x)) (putP ⟨k, x⟩ L) := by
  refine h.step (apart_putE (h.apart _ E hE) k x) (fun o ho => ?_) (fun a ha => ?_) (fun a E0 h0 ha => ?_) ?_ hm
  · rcases mem_putE ho with e | ho
    · rw [e]
    · exact h.home _ E hE o ho
  · rw [look_put, if_neg (fun e => ha e.symm)]
  · rw [hE] at h0
    cases h0
    rw [look_putE, if_neg (fun e => ha e.symm)]
  · rw [look_put, look_putE, if_pos rfl, if_pos rfl]
theorem Split.del {m : Nat} {Es : List (List Prm)} {L : List Prm} (h : Split m Es L) (hm : 0 < m) {k : ByteArray} {E : List Prm} (hE : Es[bkt m k]? = some E) : Split m (Es.set (bkt m k) (delE E k)) (delP L k) := by
  have hE' := h.apart _ E hE
  refine h.step (List.Pairwise.sublist (delE_sub E k) hE') (fun o ho => h.home _ E hE o ((delE_sub E k).subset ho)) (fun a ha => ?_) (fun a E0 h0 ha => ?_) ?_ hm
  · unfold delP
    rw [look_filter, if_neg (fun e => ha e.symm)]
  · rw [hE] at h0
    cases h0
    rw [look_delE hE', if_neg (fun e => ha e.symm)]
  · unfold delP
    rw [look_filter, look_delE hE', if_pos rfl, if_pos rfl]
theorem Split.find {m : Nat} {Es : List (List Prm)} {L : List Prm} (h : Split m Es L) {k : ByteArray} {E : List Prm} (hE : Es[bkt m k]? = some E) : findP E k = findP L k := by
  rw [findP_look, findP_look, h.same k E hE]
theorem Split.nil (m : Nat) : Split m (List.replicate m []) [] := by
  have e : ∀ i (E : List Prm), (List.replicate m ([] : List Prm))[i]? = some E → E = [] := fun i E hE => by
    have := List.mem_of_getElem? hE
    exact List.eq_of_mem_replicate this
  refine ⟨List.length_replicate, fun i E hE => ?_, fun i E hE o ho => ?_, fun k E hE => ?_⟩
  · rw [e i E hE]; exact List.Pairwise.nil
  · rw [e i E hE] at ho; cases ho
  · rw [e _ E hE]
end Go.Proofs.YthcdkggkoanjpaaGreatDoor
namespace Go.Proofs.YthcdkggkoanjpaaGreatDoor
open Go.RowKit Go.Lib
set_option maxRecDepth 100000
structure IX (w : World) (x b m : Nat) (sl : List Value) (Es : List (List Prm)) : Prop where
  cell : w.cell? ⟨x, 0, none⟩ = some (.slice (some ⟨b, 0, none⟩) m m)
  tbl : Tbl w b m sl
  pos : 0 < m
  top : m ≤ 1024
  ent : ∀ (i : Nat) (v : Value) (E : List Prm), sl[i]? = some v → Es[i]? = some E → ∃ n, LEnt w v n E
  xb : x ≠ b
  low : ∀ (i : Nat) (v : Value) (k : Nat), sl[i]? = some v → v.ownBlock = some k → k < w.heap.size ∧ k ≠ x ∧ k ≠ b
  apart : ∀ (i j : Nat) (v u : Value) (k : Nat), sl[i]? = some v → sl[j]? = some u → v.ownBlock = some k → u.ownBlock = some k → i = j
def foots (x b : Nat) (sl : List Value) : List Nat := x :: b :: sl.filterMap Value.ownBlock
def CI (w : World) (x : Nat) (L : List Prm) (F : List Nat) : Prop := ∃ b m sl Es, IX w x b m sl Es ∧ Split m Es L ∧ F = foots x b sl
theorem mem_foots {x b k : Nat} {sl : List Value} : k ∈ foots x b sl ↔ k = x ∨ k = b ∨ ∃ (i : Nat) (v : Value), sl[i]? = some v ∧ v.ownBlock = some k := by
  unfold foots
  rw [List.mem_cons, List.mem_cons, List.mem_filterMap]
  constructor
  · rintro (h | h | ⟨v, hv, h⟩)
    · exact .inl h
    · exact .inr (.inl h)
    · obtain ⟨i, hi⟩ := List.getElem?_of_mem hv
      exact .inr (.inr ⟨i, v, hi, h⟩)
  · rintro (h | h | ⟨i, v, hi, h⟩)
    · exact .inl h
    · exact .inr (.inl h)
    · exact .inr (.inr ⟨v, List.mem_of_getElem? hi, h⟩)
theorem IX.xlt {w : World} {x b m : Nat} {sl : List Value} {Es : List (List Prm)} (h : IX w x b m sl Es) : x < w.heap.size := World.block_lt_of_cell? w _ h.cell
theorem IX.blt {w : World} {x b m : Nat} {sl : List Value} {Es : List (List Prm)} (h : IX w x b m sl Es) : b < w.heap.size := (h.tbl.lt b rfl).2
theorem IX.lt {w : World} {x b m : Nat} {sl : List Value} {Es : List (List Prm)} (h : IX w x b m sl Es) : ∀ k ∈ foots x b sl, k < w.heap.size := by
  intro k hk
  rcases mem_foots.1 hk with rfl | rfl | ⟨i, v, hi, hv⟩
  · exact h.xlt
  · exact h.blt
  · exact (h.low i v k hi hv).1
theorem IX.turn {w w' : World} {x b m : Nat} {sl : List Value} {Es : List (List Prm)} {G : List Nat} (h : IX w x b m sl Es) (t : Turn G w w') (hG : ∀ k ∈ foots x b sl, k ∉ G) : IX w' x b m sl Es where
  cell := by
    rw [World.cell?_of_block (w := w) (t.block x h.xlt (hG x (mem_foots.2 (.inl rfl))))]
    exact h.cell
  tbl := h.tbl.turn t (hG b (mem_foots.2 (.inr (.inl rfl))))
  pos := h.pos
  top := h.top
  ent := fun i v E hv hE => by
    obtain ⟨n, hn⟩ := h.ent i v E hv hE
    exact ⟨n, hn.turn t fun k hk => hG k (mem_foots.2 (.inr (.inr ⟨i, v, hv, hk⟩)))⟩
  xb := h.xb
  low := fun i v k hv hk => ⟨Nat.lt_of_lt_of_le (h.low i v k hv hk).1 t.size, (h.low i v k hv hk).2⟩
  apart := h.apart
theorem IX.slen {w : World} {x b m : Nat} {sl : List Value} {Es : List (List Prm)} (h : IX w x b m sl Es) : sl.length = m := by have := h.tbl.1; omega
theorem IX.next {w w' : World} {x b m i : Nat} {sl : List Value} {Es : List (List Prm)} {v : Value} {E' : List Prm} (h : IX w x b m sl Es) (hv : sl[i]? = some v) (hN : LNext w w' b m sl i v E') :
    ∃ sl', IX w' x b m sl' (Es.set i E') ∧ (∀ k ∈ foots x b sl', k ∈ foots x b sl ∨ w.heap.size ≤ k) ∧ Turn (foots x b sl) w w' := by
  obtain ⟨v', n', hT, hE, t, ho⟩ := hN
  have hil : i < sl.length := (List.getElem?_eq_some_iff.1 hv).1
  have tF : ∀ k, k ∈ b :: v.ownBlock.toList → k ∈ foots x b sl := by
    intro k hk
    rcases List.mem_cons.1 hk with rfl | hk
    · exact mem_foots.2 (.inr (.inl rfl))
    · exact mem_foots.2 (.inr (.inr ⟨i, v, hv, by simpa using hk⟩))
  have hx : x ∉ b :: v.ownBlock.toList := by
    intro hk
    rcases List.mem_cons.1 hk with e | hk
    · exact h.xb e
    · exact (h.low i v x hv (by simpa using hk)).2.1 rfl
  have hget : ∀ (j : Nat) (u : Value), (sl.set i v')[j]? = some u → (j = i ∧ u = v') ∨ (j ≠ i ∧ sl[j]? = some u) := by
    intro j u hu
    rw [List.getElem?_set] at hu
    by_cases e : i = j
    · rw [if_pos e, if_pos hil] at hu
      cases hu
      exact .inl ⟨e.symm, rfl⟩
    · rw [if_neg e] at hu
      exact .inr ⟨fun h => e h.symm, hu⟩
  have hnew : ∀ k, v'.ownBlock = some k → v.ownBlock = some k ∨ w.heap.size ≤ k := by
    intro k hk
    rcases ho with e | ⟨c, hc, hge⟩
    · exact .inl (by rw [← e]; exact hk)
    · rw [hc] at hk
      cases hk
      exact .inr hge
  refine ⟨sl.set i v', ?_, ?_, t.mono tF⟩
  · refine { cell := ?_, tbl := hT, pos := h.pos, top := h.top, ent := ?_, xb := h.xb, low := ?_, apart := ?_ }
    · rw [World.cell?_of_block (w := w) (t.block x h.xlt hx)]
      exact h.cell
    · intro j u E hu hEj
      rcases hget j u hu with ⟨rfl, rfl⟩ | ⟨hne, hu⟩
      · have hEl : j < Es.length := by
          have := (List.getElem?_eq_some_iff.1 hEj).1
          rwa [List.length_set] at this
        rw [List.getElem?_set_self hEl] at hEj
        cases hEj
        exact ⟨n', hE⟩
      · rw [List.getElem?_set_ne (fun e => hne e.symm)] at hEj
        obtain ⟨n, hn⟩ := h.ent j u E hu hEj
        refine ⟨n, hn.turn t fun k hk hm => ?_⟩
        rcases List.mem_cons.1 hm with rfl | hm
        · exact (h.low j u k hu hk).2.2 rfl
        · exact hne (h.apart j i u v k hu hv hk (by simpa using hm))
    · intro j u k hu hk
      rcases hget j u hu with ⟨rfl, rfl⟩ | ⟨hne, hu⟩
      · have hlt := (hE.2.lt k hk).2
        rcases hnew k hk with h1 | h1
        · exact ⟨hlt, (h.low j v k hv h1).2⟩
        · exact ⟨hlt, by have := h.xlt; omega, by have := h.blt; omega⟩
      · exact ⟨Nat.lt_of_lt_of_le (h.low j u k hu hk).1 t.size, (h.low j u k hu hk).2⟩
    · intro p q u1 u2 k h1 h2 k1 k2
      rcases hget p u1 h1 with ⟨rfl, rfl⟩ | ⟨hne1, g1⟩ <;> rcases hget q u2 h2 with ⟨rfl, rfl⟩ | ⟨hne2, g2⟩
      · rfl
      · rcases hnew k k1 with e | e
        · exact h.apart p q v u2 k hv g2 e k2
        · have := (h.low q u2 k g2 k2).1; omega
      · rcases hnew k k2 with e | e
        · exact h.apart p q u1 v k g1 hv k1 e
        · have := (h.low p u1 k g1 k1).1; omega
      · exact h.apart p q u1 u2 k g1 g2 k1 k2
  · intro k hk
    rcases mem_foots.1 hk with rfl | rfl | ⟨j, u, hu, hku⟩
    · exact .inl (mem_foots.2 (.inl rfl))
    · exact .inl (mem_foots.2 (.inr (.inl rfl)))
    · rcases hget j u hu with ⟨rfl, rfl⟩ | ⟨hne, hu⟩
      · rcases hnew k hku with h1 | h1
        · exact .inl (mem_foots.2 (.inr (.inr ⟨j, v, hv, h1⟩)))
        · exact .inr h1
      · exact .inl (mem_foots.2 (.inr (.inr ⟨j, u, hu, hku⟩)))
theorem sum_text (k : ByteArray) (S : Nat) (hS : (sumOf 0 k.data.toList).toNat = S) (hk : k.size ≤ 1000000) (v : Value) (w : World) (hr : Reads w v (bv k.data.toList)) : Calls Tryz.prog 112 #[v] w fun e w' => e = .returned (.int .i64 (S : Int)) ∧ w' = w := by
  have := sum_any v k.data.toList.length k.data.toList w hr rfl (Lib.hid (by rw [Array.length_toList]; show k.size ≤ _; omega))
  rw [show sumOf 0 k.data.toList = (S : Int) from by rw [← hS]; exact (Int.toNat_of_nonneg (sumOf_bound 0 _).1).symm] at this
  exact this
theorem conv_text (k : ByteArray) (hk : k.size ≤ 1000000) (w : World) : ∃ v w', (convert 9 24 (.string k)).run Tryz.prog w = .ok v w' ∧ Grow w w' ∧ Reads w' v (bv k.data.toList) := by
  refine ⟨_, _, run_bytes_of_string w 9 24 5 k Tryz.underlying9 Tryz.underlying24 Tryz.underlying5, (below_drewN (Below.refl _ w) 1).alloc (Nat.le_refl _) _, ?_⟩
  have hl : (bv k.data.toList).length = k.size := by rw [bv_length, Array.length_toList]; rfl
  have hge : k.size ≤ grownCap w k.size 0 5 := grownCap_ge _ _ _ _
  refine ⟨some ⟨w.heap.size, 0, none⟩, _, by rw [hl], by rw [hl]; exact hge, (fun e => by cases e), fun a ha j u hj => ?_⟩
  cases ha
  rw [Addr.add_lit, show w.heap.size = w.drew.heap.size from rfl, World.cell?_alloc_mark, Nat.zero_add]
  have hj' : j < k.data.size := by have := (List.getElem?_eq_some_iff.1 hj).1; rw [hl] at this; exact this
  rw [bytesRow_at _ _ _ hj', ← hj]
  simp [bv, List.getElem?_map, Array.getElem?_eq_getElem hj']
set_option maxHeartbeats 4000000 in
theorem bucket_any (x b m : Nat) (sl : List Value) (Es : List (List Prm)) (k : ByteArray) (w : World) (h : IX w x b m sl Es) (hk : k.size ≤ 1000000) :
    Calls Tryz.prog 69 #[theIx x, .string k] w fun e w' => e = .returned (.pointer (some ⟨b, bkt m k, none⟩)) ∧ Grow w w' := by
  have hc := h.cell
  have hm : ¬ (m : Int) = 0 := by have := h.pos; omega
  have hm0 : ¬ m = 0 := by have := h.pos; omega
  obtain ⟨S, hSS⟩ : ∃ S, (sumOf 0 k.data.toList).toNat = S := ⟨_, rfl⟩
  have hS : bkt m k = S % m := by unfold bkt; rw [hSS]
  have HT := Lib.hid (And.intro hSS (And.intro (bkt_lt h.pos k) h.top))
  generalize bkt m k = B at *
  have hcx : ∀ w', Grow w.drew w' → w'.cell? ⟨x, 0, none⟩ = some (.slice (some ⟨b, 0, none⟩) m m) := fun w' hg => grow_cell hg hc
  have HK := Lib.hid (And.intro h hk)
  clear h hk
  unfold theIx
  go_enter Tryz.func69, Tryz.ntmps69
  go_wp2_with fail
  refine wp_region_mv [(0, 5, true), (7, 5, true), (5, 1, false), (6, 1, false), (12, 3, true)] (by kernel_rfl) (by kernel_rfl) ?_
  simp only [mvAll, mvSeg, List.drop_succ_cons, List.drop_zero, List.cons_append, List.nil_append, Nat.reduceAdd]
  iterate 10
    refine wpLin_still ?_ (fun w' hG K hK => ?_) (fun K hK => ?_)
    rotate_left
    · unfold mvVal
      go_simp
      try exact hK
    go_simp
    refine hK _ ?_
    clear hK K
  refine wpLin_call (fun K hK => ?_)
  unfold mvRun
  go_simp
  simp only [mvUpon]
  obtain ⟨cv, w2, hcv, g2, hr2⟩ := conv_text k HK.out.2 w.drew
  have hcm := hcx
  rw [hcv]
  simp only [Result.andThen]
  go_simp
  refine hK _ _ g2 ?_
  clear hK K
  refine wpLin_call (fun K hK => ?_)
  unfold mvRun
  go_simp
  simp only [mvUpon]
  refine (sum_text k S HT.out.1 HK.out.2 cv w2 hr2).mono ?_
  rintro e w3 ⟨rfl, rfl⟩
  refine ⟨_, rfl, ?_⟩
  go_simp
  refine hK _ _ (Grow.refl _) ?_
  clear hK K
  have hbl := HT.out.2.1
  have hrem : Int.tmod (S : Int) (m : Int) = (B : Int) := by rw [hS]; exact Int.ofNat_tmod S m
  have hrem2 : (S : Int) % (m : Int) = (B : Int) := by rw [hS]; omega
  have hbl2 : (B : Int) < (m : Int) := by omega
  have hmt := HT.out.2.2
  have hwr : wrap64 (B : Int) = (B : Int) := by unfold wrap64; omega
  clear hS hSS
  iterate 3
    refine wpLin_still ?_ (fun w' hG K hK => ?_) (fun K hK => ?_)
    rotate_left
    · unfold mvVal
      go_simp
      try exact hK
    go_simp
    refine hK _ ?_
    clear hK K
  refine wpLin_nil ?_
  go_wp2
  go_ret
  exact ⟨rfl, (below_drewN (Below.refl _ w) 1 : Grow w w.drew).trans g2⟩
end Go.Proofs.YthcdkggkoanjpaaGreatDoor
namespace Go.Proofs.YthcdkggkoanjpaaGreatDoor
open Go.RowKit Go.Lib
set_option maxRecDepth 100000
theorem IX.at {w : World} {x b m : Nat} {sl : List Value} {Es : List (List Prm)} {L : List Prm} (h : IX w x b m sl Es) (hs : Split m Es L) (k : ByteArray) : ∃ v E n, sl[bkt m k]? = some v ∧ Es[bkt m k]? = some E ∧ LEnt w v n E := by
  obtain ⟨E, hE⟩ := hs.get h.pos k
  have hv : sl[bkt m k]? = some _ := List.getElem?_eq_getElem (by rw [h.slen]; exact bkt_lt h.pos k)
  obtain ⟨n, hn⟩ := h.ent _ _ E hv hE
  exact ⟨_, E, n, hv, hE, hn⟩
theorem ix_get {w : World} {x : Nat} {L : List Prm} {F : List Nat} (h : CI w x L F) (hf : FineW L) (k : ByteArray) (hk : k.size ≤ 1000000) :
    Calls Tryz.prog 58 #[theIx x, .string k] w fun e w' => e = .returned (.tuple #[.string (findP L k).1, .bool (findP L k).2]) ∧ Turn [] w w' := by
  obtain ⟨b, m, sl, Es, hX, hS, rfl⟩ := h
  have B := bucket_any x b m sl Es k w hX hk
  obtain ⟨v, E, n, hv, hE, hn⟩ := hX.at hS k
  have hfind := hS.find hE
  have hl := hS.short hX.pos hf.rise hE
  have hL := hf.len
  have HX := Lib.hid (And.intro hX (And.intro hv (And.intro hn (show n ≤ 1000000 by have := hn.1; omega))))
  rw [← hfind]
  clear hX hS hE hn hfind hl hf hv
  unfold theIx at B ⊢
  go_enter Tryz.func58, Tryz.ntmps58
  go_wp2_with fail
  refine B.mono ?_
  rintro e w1 ⟨rfl, g1⟩
  have t1 := tb9 g1
  have h1 := HX.out.1.turn t1 (by simp)
  have G := lget_any ⟨b, bkt m k, none⟩ v n E k w1 (h1.tbl.cell HX.out.2.1) (HX.out.2.2.1.turn t1 (by simp)) HX.out.2.2.2
  have H1 := Lib.hid t1
  clear h1 g1 t1 B
  go_wp2_with fail
  refine G.mono ?_
  rintro e w2 ⟨rfl, g2⟩
  go_wp2_with fail
  go_ret2
  exact ⟨rfl, H1.out.trans (tb9 g2)⟩
theorem ix_put {w : World} {x : Nat} {L : List Prm} {F : List Nat} (h : CI w x L F) (hf : FineW L) (k y : ByteArray) (hk : k.size ≤ 1000000) :
    Calls Tryz.prog 38 #[theIx x, .string k, .string y] w fun e w' => e = .returned (.tuple #[]) ∧ INext CI w w' x (putP ⟨k, y⟩ L) F := by
  obtain ⟨b, m, sl, Es, hX, hS, rfl⟩ := h
  have B := bucket_any x b m sl Es k w hX hk
  obtain ⟨v, E, n, hv, hE, hn⟩ := hX.at hS k
  have hl := hS.short hX.pos hf.rise hE
  have hL := hf.len
  have HX := Lib.hid (And.intro hX (And.intro hv (And.intro hn (And.intro (show n < 900000 by have := hn.1; omega) (hS.put hX.pos hE y)))))
  clear hX hS hE hn hl hf hv
  unfold theIx at B ⊢
  go_enter Tryz.func38, Tryz.ntmps38
  go_wp2_with fail
  refine B.mono ?_
  rintro e w1 ⟨rfl, g1⟩
  have t1 := tb9 g1
  have h1 := HX.out.1.turn t1 (by simp)
  have G := lput_any b m (bkt m k) sl v n E k y w1 h1.tbl HX.out.2.1 (HX.out.2.2.1.turn t1 (by simp)) (fun e => (HX.out.1.low _ v b HX.out.2.1 e).2.2 rfl) HX.out.2.2.2.1
  have H1 := Lib.hid (And.intro h1 t1)
  clear h1 g1 t1 B
  go_wp2_with fail
  refine G.mono ?_
  rintro e w2 ⟨rfl, hN⟩
  have HN := Lib.hid hN
  clear hN G
  go_wp2_with fail
  go_end0
  obtain ⟨sl', hX', hF', t2⟩ := H1.out.1.next HX.out.2.1 HN.out
  have hsz := H1.out.2.size
  refine ⟨rfl, _, ⟨b, m, sl', _, hX', HX.out.2.2.2.2, rfl⟩, fun q hq => ?_, (H1.out.2.mono (by simp)).trans t2⟩
  rcases hF' q hq with h | h
  · exact .inl h
  · exact .inr (by omega)
theorem ix_del {w : World} {x : Nat} {L : List Prm} {F : List Nat} (h : CI w x L F) (hf : FineW L) (k : ByteArray) (hk : k.size ≤ 1000000) :
    Calls Tryz.prog 71 #[theIx x, .string k] w fun e w' => e = .returned (.bool (findP L k).2) ∧ INext CI w w' x (delP L k) F := by
  obtain ⟨b, m, sl, Es, hX, hS, rfl⟩ := h
  have B := bucket_any x b m sl Es k w hX hk
  obtain ⟨v, E, n, hv, hE, hn⟩ := hX.at hS k
  have hfind := hS.find hE
  have hl := hS.short hX.pos hf.rise hE
  have hL := hf.len
  have HX := Lib.hid (And.intro hX (And.intro hv (And.intro hn (And.intro (show n < 900000 by have := hn.1; omega) (hS.del hX.pos hE)))))
  rw [← hfind]
  clear hX hS hE hn hl hf hv hfind
  unfold theIx at B ⊢
  go_enter Tryz.func71, Tryz.ntmps71
  go_wp2_with fail
  refine B.mono ?_
  rintro e w1 ⟨rfl, g1⟩
  have t1 := tb9 g1
  have h1 := HX.out.1.turn t1 (by simp)
  have G := ldel_any b m (bkt m k) sl v n E k w1 h1.tbl HX.out.2.1 (HX.out.2.2.1.turn t1 (by simp)) (fun e => (HX.out.1.low _ v b HX.out.2.1 e).2.2 rfl) HX.out.2.2.2.1
  have H1 := Lib.hid (And.intro h1 t1)
  clear h1 g1 t1 B
  go_wp2_with fail
  refine G.mono ?_
  rintro e w2 ⟨rfl, hN⟩
  have HN := Lib.hid hN
  clear hN G
  go_wp2_with fail
  go_ret
  obtain ⟨sl', hX', hF', t2⟩ := H1.out.1.next HX.out.2.1 HN.out
  have hsz := H1.out.2.size
  refine ⟨rfl, _, ⟨b, m, sl', _, hX', HX.out.2.2.2.2, rfl⟩, fun q hq => ?_, (H1.out.2.mono (by simp)).trans t2⟩
  rcases hF' q hq with h | h
  · exact .inl h
  · exact .inr (by omega)
end Go.Proofs.YthcdkggkoanjpaaGreatDoor
namespace Go.Proofs.YthcdkggkoanjpaaGreatDoor
open Go.RowKit Go.Lib
set_option maxRecDepth 100000
theorem elemLst : Elem 121 145 (.slice none 0 0) 1 24 := ⟨Tryz.underlying121, by kernel_rfl, by decide, by decide⟩
theorem ix_new (n : Int) (w : World) : Calls Tryz.prog 37 #[.int .i64 n] w fun e w' => ∃ x F, e = .returned (theIx x) ∧ CI w' x [] F ∧ (∀ k ∈ F, w.heap.size ≤ k) ∧ Turn [] w w' := by
  obtain ⟨m, hm, h1, h2⟩ : ∃ m : Nat, min (max n 1) 1024 = (m : Int) ∧ 1 ≤ m ∧ m ≤ 1024 := ⟨(min (max n 1) 1024).toNat, by omega, by omega, by omega⟩
  obtain ⟨i0, hi, hz0, hz1, hz2⟩ := info_parts elemLst.info
  have HM := Lib.hid (And.intro h1 h2)
  clear h1 h2
  go_enter Tryz.func37, Tryz.ntmps37
  go_wp2_with (at_make; go_loud (refine wpList_make_full _ rfl (.tmp 5) (.tmp 5) _ rfl 0 145 i0 _ 1 Tryz.underlying121 hi hz0 hz1 .i64 .i64 (m : Int) (m : Int) m rfl rfl rfl rfl (by rw [hz2]; have := HM.out; omega) (by have := HM.out; unfold maxLen; omega) (Nat.zero_le _) ?_; intro w1 hown1 hg1; have H1 := Lib.hid (And.intro hown1 hg1); clear hown1 hg1))
  go_ret
  obtain ⟨hown1, hg1⟩ := H1.out
  have hsz := hg1.size
  have hsl : (madeCells (Value.slice none 0 0).cells (m * 1)).toList = List.replicate m (.slice none 0 0) := by
    rw [Nat.mul_one]
    exact toList_madeCells_one _ _
  rw [hsl] at hown1
  have hx : w1.heap.size = w1.heap.size := rfl
  have hv : ∀ (i : Nat) (v : Value), (List.replicate m (Value.slice none 0 0))[i]? = some v → v = .slice none 0 0 := fun i v h => List.eq_of_mem_replicate (List.mem_of_getElem? h)
  have hlt := (hown1.lt w.heap.size rfl).2
  refine ⟨w1.heap.size, _, rfl, ⟨w.heap.size, m, List.replicate m (.slice none 0 0), List.replicate m [], ?_, Split.nil m, rfl⟩, fun k hk => ?_, (Turn.of_none hg1).alloc _⟩
  · refine { cell := by simp, tbl := hown1.alloc _, pos := HM.out.1, top := HM.out.2, ent := fun i v E h1 h2 => ?_, xb := by omega, low := fun i v k h1 h2 => ?_, apart := fun i j v u k h1 h2 h3 h4 => ?_ }
    · rw [hv i v h1, List.eq_of_mem_replicate (List.mem_of_getElem? h2)]
      exact ⟨0, rfl, World.ownsRow_nil _ _ _ _⟩
    · rw [hv i v h1] at h2; cases h2
    · rw [hv i v h1] at h3; cases h3
  · rcases mem_foots.1 hk with rfl | rfl | ⟨i, v, h1, h2⟩
    · exact hsz
    · exact Nat.le_refl _
    · rw [hv i v h1] at h2; cases h2
theorem flat_next {Es : List (List Prm)} {k : Nat} {E : List Prm} (h : Es[k]? = some E) : (Es.take (k + 1)).flatten = (Es.take k).flatten ++ E := by
  rw [take_next h, List.flatten_append]
  simp
theorem flat_le (Es : List (List Prm)) (k : Nat) : (Es.take k).flatten.length ≤ Es.flatten.length := by
  conv => rhs; rw [← List.take_append_drop k Es, List.flatten_append, List.length_append]
  exact Nat.le_add_right _ _
set_option maxHeartbeats 1000000 in
theorem ix_len {w : World} {x : Nat} {L : List Prm} {F : List Nat} (h : CI w x L F) (hf : FineW L) :
    Calls Tryz.prog 87 #[theIx x] w fun e w' => e = .returned (.int .i64 (L.length : Int)) ∧ w = w' := by
  obtain ⟨b, m, sl, Es, hX, hS, rfl⟩ := h
  have hp := (hS.perm hX.pos hf.rise).length_eq
  have hL := hf.len
  have hc := hX.cell
  have hmt := hX.top
  have HX := Lib.hid (And.intro hX (And.intro hS (And.intro hp hL)))
  clear hX hS hp hL hf
  unfold theIx
  go_enter Tryz.func87, Tryz.ntmps87
  go_wp2_with fail
  go_loopw [3, 13] (fun s i wr => ∃ k A : Nat, k ≤ m ∧ i = .int .i64 k ∧ s = .int .i64 A ∧ Hid (A = (Es.take k).flatten.length) ∧ w = wr)
    (fun _ i _ => m - (RowKit.intOf i).toNat)
  case atStart => exact ⟨0, 0, Nat.zero_le _, rfl, rfl, Lib.hid rfl, rfl⟩
  case round =>
    obtain ⟨k, A, hk, rfl, rfl, hA, rfl⟩ := hrel
    by_cases hlt : k < m
    · have h3 : (k : Int) < (m : Int) := by omega
      obtain ⟨v, hv⟩ : ∃ v, sl[k]? = some v := ⟨_, List.getElem?_eq_getElem (by rw [HX.out.1.slen]; exact hlt)⟩
      obtain ⟨E, hE⟩ : ∃ E, Es[k]? = some E := ⟨_, List.getElem?_eq_getElem (by rw [HX.out.2.1.len]; exact hlt)⟩
      obtain ⟨n, hn⟩ := HX.out.1.ent k v E hv hE
      obtain ⟨ao, c, rfl⟩ := hn.shape
      have hcell := HX.out.1.tbl.cell hv
      have hsum : A + n = (Es.take (k + 1)).flatten.length := by rw [flat_next hE, List.length_append, hA.out, hn.1]
      have hle := flat_le Es (k + 1)
      have hwr : wrap64 ((A : Int) + (n : Int)) = ((A + n : Nat) : Int) := by have := HX.out.2.2; unfold wrap64; omega
      have HS := Lib.hid hsum
      clear hv hE hn hsum hle
      go_wp2_with fail
      exact ⟨⟨k + 1, A + n, by omega, by go_num, by go_num, HS, trivial⟩, by simp [RowKit.intOf]; omega⟩
    · have h3 : ¬ (k : Int) < (m : Int) := by omega
      obtain rfl : k = m := by omega
      go_wp2_with fail
      go_ret
      have e := hA.out
      rw [List.take_of_length_le (by have := HX.out.2.1.len; omega), HX.out.2.2.1] at e
      exact ⟨by rw [← e]; rfl, rfl⟩
end Go.Proofs.YthcdkggkoanjpaaGreatDoor
