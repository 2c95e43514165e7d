/- The index in memory; the bucket of a key. Numbers and types by name. -/
import Derived.Test.YtkeahapgliljoaaIxp
namespace Go.Proofs.Ytkeahapgliljoaa
open Go.RowKit Go.Lib
set_option maxRecDepth 100000

/-- The index x: a table b of m lists, whose entries are Es. -/
structure IX (w : World) (x b m : Nat) (sl : List Value) (Es : List (List Prm)) : Prop where
  cell : w.cell? ⟨x, 0, none⟩ = some (.slice (some ⟨b, 0, none⟩) m m)
  tbl : Tbl w b m sl
  pos : 0 < m
  top : m ≤ 1024
  ent : ∀ (i : Nat) (v : Value) (E : List Prm), sl[i]? = some v → Es[i]? = some E → ∃ n, Ent w v n E
  xb : x ≠ b
  low : ∀ (i : Nat) (v : Value) (k : Nat), sl[i]? = some v → v.ownBlock = some k → k < w.heap.size ∧ k ≠ x ∧ k ≠ b
  apart : ∀ (i j : Nat) (v u : Value) (k : Nat), sl[i]? = some v → sl[j]? = some u → v.ownBlock = some k → u.ownBlock = some k → i = j
/-- Its blocks. -/
def foots (x b : Nat) (sl : List Value) : List Nat := x :: b :: sl.filterMap Value.ownBlock
def CI (w : World) (x : Nat) (L : List Prm) (F : List Nat) : Prop := ∃ b m sl Es, IX w x b m sl Es ∧ Split m Es L ∧ F = foots x b sl

theorem mem_foots {x b k : Nat} {sl : List Value} : k ∈ foots x b sl ↔ k = x ∨ k = b ∨ ∃ (i : Nat) (v : Value), sl[i]? = some v ∧ v.ownBlock = some k := by
  unfold foots
  rw [List.mem_cons, List.mem_cons, List.mem_filterMap]
  constructor
  · rintro (h | h | ⟨v, hv, h⟩)
    · exact .inl h
    · exact .inr (.inl h)
    · obtain ⟨i, hi⟩ := List.getElem?_of_mem hv
      exact .inr (.inr ⟨i, v, hi, h⟩)
  · rintro (h | h | ⟨i, v, hi, h⟩)
    · exact .inl h
    · exact .inr (.inl h)
    · exact .inr (.inr ⟨v, List.mem_of_getElem? hi, h⟩)
theorem IX.xlt {w : World} {x b m : Nat} {sl : List Value} {Es : List (List Prm)} (h : IX w x b m sl Es) : x < w.heap.size := World.block_lt_of_cell? w _ h.cell
theorem IX.blt {w : World} {x b m : Nat} {sl : List Value} {Es : List (List Prm)} (h : IX w x b m sl Es) : b < w.heap.size := (h.tbl.lt b rfl).2
theorem IX.lt {w : World} {x b m : Nat} {sl : List Value} {Es : List (List Prm)} (h : IX w x b m sl Es) : ∀ k ∈ foots x b sl, k < w.heap.size := by
  intro k hk
  rcases mem_foots.1 hk with rfl | rfl | ⟨i, v, hi, hv⟩
  · exact h.xlt
  · exact h.blt
  · exact (h.low i v k hi hv).1
theorem IX.turn {w w' : World} {x b m : Nat} {sl : List Value} {Es : List (List Prm)} {G : List Nat} (h : IX w x b m sl Es) (t : Turn G w w') (hG : ∀ k ∈ foots x b sl, k ∉ G) : IX w' x b m sl Es where
  cell := by
    rw [World.cell?_of_block (w := w) (t.block x h.xlt (hG x (mem_foots.2 (.inl rfl))))]
    exact h.cell
  tbl := h.tbl.turn t (hG b (mem_foots.2 (.inr (.inl rfl))))
  pos := h.pos
  top := h.top
  ent := fun i v E hv hE => by
    obtain ⟨n, hn⟩ := h.ent i v E hv hE
    exact ⟨n, hn.turn t fun k hk => hG k (mem_foots.2 (.inr (.inr ⟨i, v, hv, hk⟩)))⟩
  xb := h.xb
  low := fun i v k hv hk => ⟨Nat.lt_of_lt_of_le (h.low i v k hv hk).1 t.size, (h.low i v k hv hk).2⟩
  apart := h.apart
theorem IX.slen {w : World} {x b m : Nat} {sl : List Value} {Es : List (List Prm)} (h : IX w x b m sl Es) : sl.length = m := by have := h.tbl.1; omega

/-- One of its lists was changed. -/
theorem IX.next {w w' : World} {x b m i : Nat} {sl : List Value} {Es : List (List Prm)} {v : Value} {E' : List Prm} (h : IX w x b m sl Es) (hv : sl[i]? = some v) (hN : LNext w w' b m sl i v E') :
    ∃ sl', IX w' x b m sl' (Es.set i E') ∧ (∀ k ∈ foots x b sl', k ∈ foots x b sl ∨ w.heap.size ≤ k) ∧ Turn (foots x b sl) w w' := by
  obtain ⟨v', n', hT, hE, t, ho⟩ := hN
  have hil : i < sl.length := (List.getElem?_eq_some_iff.1 hv).1
  have tF : ∀ k, k ∈ b :: v.ownBlock.toList → k ∈ foots x b sl := by
    intro k hk
    rcases List.mem_cons.1 hk with rfl | hk
    · exact mem_foots.2 (.inr (.inl rfl))
    · exact mem_foots.2 (.inr (.inr ⟨i, v, hv, by simpa using hk⟩))
  have hx : x ∉ b :: v.ownBlock.toList := by
    intro hk
    rcases List.mem_cons.1 hk with e | hk
    · exact h.xb e
    · exact (h.low i v x hv (by simpa using hk)).2.1 rfl
  have hget : ∀ (j : Nat) (u : Value), (sl.set i v')[j]? = some u → (j = i ∧ u = v') ∨ (j ≠ i ∧ sl[j]? = some u) := by
    intro j u hu
    rw [List.getElem?_set] at hu
    by_cases e : i = j
    · rw [if_pos e, if_pos hil] at hu
      cases hu
      exact .inl ⟨e.symm, rfl⟩
    · rw [if_neg e] at hu
      exact .inr ⟨fun h => e h.symm, hu⟩
  have hnew : ∀ k, v'.ownBlock = some k → v.ownBlock = some k ∨ w.heap.size ≤ k := by
    intro k hk
    rcases ho with e | ⟨c, hc, hge⟩
    · exact .inl (by rw [← e]; exact hk)
    · rw [hc] at hk
      cases hk
      exact .inr hge
  refine ⟨sl.set i v', ?_, ?_, t.mono tF⟩
  · refine { cell := ?_, tbl := hT, pos := h.pos, top := h.top, ent := ?_, xb := h.xb, low := ?_, apart := ?_ }
    · rw [World.cell?_of_block (w := w) (t.block x h.xlt hx)]
      exact h.cell
    · intro j u E hu hEj
      rcases hget j u hu with ⟨rfl, rfl⟩ | ⟨hne, hu⟩
      · have hEl : j < Es.length := by
          have := (List.getElem?_eq_some_iff.1 hEj).1
          rwa [List.length_set] at this
        rw [List.getElem?_set_self hEl] at hEj
        cases hEj
        exact ⟨n', hE⟩
      · rw [List.getElem?_set_ne (fun e => hne e.symm)] at hEj
        obtain ⟨n, hn⟩ := h.ent j u E hu hEj
        refine ⟨n, hn.turn t fun k hk hm => ?_⟩
        rcases List.mem_cons.1 hm with rfl | hm
        · exact (h.low j u k hu hk).2.2 rfl
        · exact hne (h.apart j i u v k hu hv hk (by simpa using hm))
    · intro j u k hu hk
      rcases hget j u hu with ⟨rfl, rfl⟩ | ⟨hne, hu⟩
      · have hlt := (hE.2.lt k hk).2
        rcases hnew k hk with h1 | h1
        · exact ⟨hlt, (h.low j v k hv h1).2⟩
        · exact ⟨hlt, by have := h.xlt; omega, by have := h.blt; omega⟩
      · exact ⟨Nat.lt_of_lt_of_le (h.low j u k hu hk).1 t.size, (h.low j u k hu hk).2⟩
    · intro p q u1 u2 k h1 h2 k1 k2
      rcases hget p u1 h1 with ⟨rfl, rfl⟩ | ⟨hne1, g1⟩ <;> rcases hget q u2 h2 with ⟨rfl, rfl⟩ | ⟨hne2, g2⟩
      · rfl
      · rcases hnew k k1 with e | e
        · exact h.apart p q v u2 k hv g2 e k2
        · have := (h.low q u2 k g2 k2).1; omega
      · rcases hnew k k2 with e | e
        · exact h.apart p q u1 v k g1 hv k1 e
        · have := (h.low p u1 k g1 k1).1; omega
      · exact h.apart p q u1 u2 k g1 g2 k1 k2
  · intro k hk
    rcases mem_foots.1 hk with rfl | rfl | ⟨j, u, hu, hku⟩
    · exact .inl (mem_foots.2 (.inl rfl))
    · exact .inl (mem_foots.2 (.inr (.inl rfl)))
    · rcases hget j u hu with ⟨rfl, rfl⟩ | ⟨hne, hu⟩
      · rcases hnew k hku with h1 | h1
        · exact .inl (mem_foots.2 (.inr (.inr ⟨j, v, hv, h1⟩)))
        · exact .inr h1
      · exact .inl (mem_foots.2 (.inr (.inr ⟨j, u, hu, hku⟩)))

theorem sum_text (k : ByteArray) (S : Nat) (hS : (sumOf 0 k.data.toList).toNat = S) (hk : k.size ≤ 200) (v : Value) (w : World) (hr : Reads w v (bv k.data.toList)) : Calls Try.prog 25 #[v] w fun e w' => e = .returned (.int .i64 (S : Int)) ∧ w' = w := by
  have := sum_any v k.data.toList.length k.data.toList w hr rfl (Lib.hid (by rw [Array.length_toList]; show k.size ≤ _; omega))
  rw [show sumOf 0 k.data.toList = (S : Int) from by rw [← hS]; exact (Int.toNat_of_nonneg (sumOf_bound 0 _).1).symm] at this
  exact this

/-- The bytes of a text, in new memory. -/
theorem conv_text (k : ByteArray) (hk : k.size ≤ 200) (w : World) : ∃ v w', (convert 9 61 (.string k)).run Try.prog w = .ok v w' ∧ Grow w w' ∧ Reads w' v (bv k.data.toList) := by
  refine ⟨_, _, run_bytes_of_string w 9 61 5 k Try.underlying9 Try.underlying61 Try.underlying5, (below_drewN (Below.refl _ w) 1).alloc (Nat.le_refl _) _, ?_⟩
  have hl : (bv k.data.toList).length = k.size := by rw [bv_length, Array.length_toList]; rfl
  have hge : k.size ≤ grownCap w k.size 0 5 := grownCap_ge _ _ _ _
  refine ⟨some ⟨w.heap.size, 0, none⟩, _, by rw [hl], by rw [hl]; exact hge, (fun e => by cases e), fun a ha j u hj => ?_⟩
  cases ha
  rw [Addr.add_lit, show w.heap.size = w.drew.heap.size from rfl, World.cell?_alloc_mark, Nat.zero_add]
  have hj' : j < k.data.size := by have := (List.getElem?_eq_some_iff.1 hj).1; rw [hl] at this; exact this
  rw [bytesRow_at _ _ _ hj', ← hj]
  simp [bv, List.getElem?_map, Array.getElem?_eq_getElem hj']

set_option maxHeartbeats 4000000 in
theorem bucket_any (x b m : Nat) (sl : List Value) (Es : List (List Prm)) (k : ByteArray) (w : World) (h : IX w x b m sl Es) (hk : k.size ≤ 200) :
    Calls Try.prog 17 #[theIx x, .string k] w fun e w' => e = .returned (.pointer (some ⟨b, bkt m k, none⟩)) ∧ Grow w w' := by
  have hc := h.cell
  have hm : ¬ (m : Int) = 0 := by have := h.pos; omega
  have hm0 : ¬ m = 0 := by have := h.pos; omega
  obtain ⟨S, hSS⟩ : ∃ S, (sumOf 0 k.data.toList).toNat = S := ⟨_, rfl⟩
  have hS : bkt m k = S % m := by unfold bkt; rw [hSS]
  have HT := Lib.hid (And.intro hSS (And.intro (bkt_lt h.pos k) h.top))
  generalize bkt m k = B at *
  have hcx : ∀ w', Grow w.drew w' → w'.cell? ⟨x, 0, none⟩ = some (.slice (some ⟨b, 0, none⟩) m m) := fun w' hg => grow_cell hg hc
  have HK := Lib.hid (And.intro h hk)
  clear h hk
  unfold theIx
  go_enter Try.func17, Try.ntmps17
  go_wp2_with fail
  refine wp_region_mv [(0, 5, true), (7, 5, true), (5, 1, false), (6, 1, false), (12, 3, true)] (by kernel_rfl) (by kernel_rfl) ?_
  simp only [mvAll, mvSeg, List.drop_succ_cons, List.drop_zero, List.cons_append, List.nil_append, Nat.reduceAdd]
  iterate 10
    refine wpLin_still ?_ (fun w' hG K hK => ?_) (fun K hK => ?_)
    rotate_left
    · unfold mvVal
      go_simp
      try exact hK
    go_simp
    refine hK _ ?_
    clear hK K
  refine wpLin_call (fun K hK => ?_)
  unfold mvRun
  go_simp
  simp only [mvUpon]
  obtain ⟨cv, w2, hcv, g2, hr2⟩ := conv_text k HK.out.2 w.drew
  have hcm := hcx
  rw [hcv]
  simp only [Result.andThen]
  go_simp
  refine hK _ _ g2 ?_
  clear hK K
  refine wpLin_call (fun K hK => ?_)
  unfold mvRun
  go_simp
  simp only [mvUpon]
  refine (sum_text k S HT.out.1 HK.out.2 cv w2 hr2).mono ?_
  rintro e w3 ⟨rfl, rfl⟩
  refine ⟨_, rfl, ?_⟩
  go_simp
  refine hK _ _ (Grow.refl _) ?_
  clear hK K
  have hbl := HT.out.2.1
  have hrem : Int.tmod (S : Int) (m : Int) = (B : Int) := by rw [hS]; exact Int.ofNat_tmod S m
  have hrem2 : (S : Int) % (m : Int) = (B : Int) := by rw [hS]; omega
  have hbl2 : (B : Int) < (m : Int) := by omega
  have hmt := HT.out.2.2
  have hwr : wrap64 (B : Int) = (B : Int) := by unfold wrap64; omega
  clear hS hSS
  iterate 3
    refine wpLin_still ?_ (fun w' hG K hK => ?_) (fun K hK => ?_)
    rotate_left
    · unfold mvVal
      go_simp
      try exact hK
    go_simp
    refine hK _ ?_
    clear hK K
  refine wpLin_nil ?_
  go_wp2
  go_ret
  exact ⟨rfl, (below_drewN (Below.refl _ w) 1 : Grow w w.drew).trans g2⟩

end Go.Proofs.Ytkeahapgliljoaa
