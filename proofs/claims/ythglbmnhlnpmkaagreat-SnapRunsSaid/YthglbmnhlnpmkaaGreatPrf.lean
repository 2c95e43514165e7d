/- The reference's RightPairs and Find; Great of pairs. Numbers and types by name. -/
import Derived.Test.YthglbmnhlnpmkaaGreatSy2
import Derived.Test.YthglbmnhlnpmkaaGreatOp
import Derived.Test.YthglbmnhlnpmkaaGreatCel
import Derived.Lib.AppendZerosOnto
import Derived.Lib.SliceRun
import Derived.Lib.Hide
import Derived.Sort.Walk0
/- The stable sort's merge of ops, of two parts of several ops: plain facts. Numbers and types by name. -/
namespace Go.Proofs.YthglbmnhlnpmkaaGreat
open Go.RowKit Go.Lib Go.Sort

/-- Where the search has ended: what stands ahead is not greater than what stands behind. -/
structure Parted (A B A1 A2 B1 B2 : List Opm) : Prop where
  a : A = A1 ++ A2
  b : B = B1 ++ B2
  lt : ∀ x ∈ A2, ∀ y ∈ B1, kO y < kO x
  le : ∀ x ∈ A1, ∀ y ∈ B2, ¬ kO y < kO x

theorem parted {A B : List Opm} (hA : Asc A) (hB : Asc B) {h u s0 r0 : Nat} (hu : u ≤ h) (h0 : s0 ≤ u) (hr : u ≤ r0) (hr0 : r0 = h ∨ r0 = A.length) (hs0 : s0 = 0 ∨ s0 + B.length = h) (hrA : r0 ≤ A.length) (hsB : h ≤ s0 + B.length)
    (h1 : ∀ t x y, s0 ≤ t → t < u → A[t]? = some x → B[h - 1 - t]? = some y → ¬ kO y < kO x) (h2 : ∀ t x y, u ≤ t → t < r0 → A[t]? = some x → B[h - 1 - t]? = some y → kO y < kO x) :
    Parted A B (A.take u) (A.drop u) (B.take (h - u)) (B.drop (h - u)) where
  a := (List.take_append_drop _ _).symm
  b := (List.take_append_drop _ _).symm
  lt := fun x hx y hy => by
    obtain ⟨i, hi, hiA, ex⟩ := mem_drop_at hx
    obtain ⟨j, hj, ey⟩ := mem_take_at hy
    have hur : u < r0 := by omega
    obtain ⟨xa, hxa⟩ : ∃ z, A[u]? = some z := ⟨_, List.getElem?_eq_getElem (by omega)⟩
    have hjB := (List.getElem?_eq_some_iff.1 ey).1
    by_cases hB1 : h - 1 - u < B.length
    · obtain ⟨yb, hyb⟩ : ∃ z, B[h - 1 - u]? = some z := ⟨_, List.getElem?_eq_getElem hB1⟩
      exact key_lt_of (Asc.at hB (show j ≤ h - 1 - u by omega) ey hyb) (key_lt_of' (h2 u xa yb (Nat.le_refl _) hur hxa hyb) (Asc.at hA hi hxa ex))
    · omega
  le := fun x hx y hy => by
    obtain ⟨i, hi, ex⟩ := mem_take_at hx
    obtain ⟨j, hj, hjB, ey⟩ := mem_drop_at hy
    have hiA := (List.getElem?_eq_some_iff.1 ex).1
    have hsu : s0 < u := by omega
    obtain ⟨xa, hxa⟩ : ∃ z, A[u - 1]? = some z := ⟨_, List.getElem?_eq_getElem (by omega)⟩
    obtain ⟨yb, hyb⟩ : ∃ z, B[h - 1 - (u - 1)]? = some z := ⟨_, List.getElem?_eq_getElem (by omega)⟩
    exact key_nlt_trans (Asc.at hA (show i ≤ u - 1 by omega) ex hxa) (key_nlt_trans (h1 (u - 1) xa yb (by omega) (by omega) hxa hyb) (Asc.at hB (show h - 1 - (u - 1) ≤ j by omega) hyb ey))

/-- Both halves merged: the whole is. -/
theorem parted_done {A B A1 A2 B1 B2 L R : List Opm} (hA : Asc A) (hB : Asc B) (p : Parted A B A1 A2 B1 B2) (hL : Asc L) (sL : Same (A1 ++ B1) L) (hR : Asc R) (sR : Same (A2 ++ B2) R) : Asc (L ++ R) ∧ Same (A ++ B) (L ++ R) := by
  obtain ⟨rfl, rfl, lt, le⟩ := p
  refine ⟨Asc.app hL hR fun x hx y hy => ?_, ?_⟩
  · rcases List.mem_append.1 (sL.symm.mem hx) with hx | hx <;> rcases List.mem_append.1 (sR.symm.mem hy) with hy | hy
    · exact Asc.cross hA x hx y hy
    · exact le x hx y hy
    · exact fun h => List.lt_irrefl _ (List.lt_trans h (lt y hy x hx))
    · exact Asc.cross hB x hx y hy
  · refine Same.trans ?_ (sL.app sR)
    have := ((Same.refl A1).app (same_turn lt)).app (Same.refl B2)
    simpa using this

end Go.Proofs.YthglbmnhlnpmkaaGreat

/- The stable sort's merge of ops, of two parts of several ops, the first longer than half of it all: the walk. Numbers and types by name. -/
namespace Go.Proofs.YthglbmnhlnpmkaaGreat
open Go.RowKit Go.Lib Go.Sort

end Go.Proofs.YthglbmnhlnpmkaaGreat

/- The stable sort's merge of ops, of two parts of several ops, the first no longer than half of it all: the walk. Numbers and types by name. -/
namespace Go.Proofs.YthglbmnhlnpmkaaGreat
open Go.RowKit Go.Lib Go.Sort

end Go.Proofs.YthglbmnhlnpmkaaGreat

/- The stable sort's merge of ops, whole; ranges that are by rising keys. Numbers and types by name. -/
namespace Go.Proofs.YthglbmnhlnpmkaaGreat
open Go.RowKit Go.Lib Go.Sort

/-- From lo to hi it is by rising keys. -/
def Rng (lo hi : Nat) (L : List Opm) : Prop := ∀ u v x y, lo ≤ u → u ≤ v → v < hi → L[u]? = some x → L[v]? = some y → ¬ kO y < kO x

theorem rng_asc {lo hi : Nat} {L : List Opm} (h : Rng lo hi L) : Asc ((L.drop lo).take (hi - lo)) := by
  refine List.pairwise_iff_getElem.2 fun i j h1 h2 hij => ?_
  rw [List.length_take, List.length_drop] at h1 h2
  rw [List.getElem_take, List.getElem_take, List.getElem_drop, List.getElem_drop]
  exact h (lo + i) (lo + j) _ _ (by omega) (by omega) (by omega) (List.getElem?_eq_getElem (by omega)) (List.getElem?_eq_getElem (by omega))
theorem asc_rng {P C S : List Opm} {lo hi : Nat} (h : Asc C) (h1 : lo = P.length) (h2 : hi ≤ P.length + C.length ∨ S = []) : Rng lo hi (P ++ C ++ S) := by
  intro u v x y hu huv hv hx hy
  subst h1
  have e : ∀ t z, P.length ≤ t → t < hi → (P ++ C ++ S)[t]? = some z → C[t - P.length]? = some z := by
    intro t z ht ht2 hz
    rw [List.append_assoc, List.getElem?_append_right ht] at hz
    rcases h2 with h2 | rfl
    · rwa [List.getElem?_append_left (by omega)] at hz
    · rwa [List.append_nil] at hz
  exact Asc.at h (show u - P.length ≤ v - P.length by omega) (e u x hu (by omega) hx) (e v y (by omega) hv hy)
theorem rng_left {P X Y : List Opm} {lo hi : Nat} (hh : hi ≤ P.length) (h : Rng lo hi (P ++ X)) : Rng lo hi (P ++ Y) := by
  intro u v x y hu huv hv hx hy
  rw [List.getElem?_append_left (by omega)] at hx hy
  exact h u v x y hu huv hv (by rw [List.getElem?_append_left (by omega)]; exact hx) (by rw [List.getElem?_append_left (by omega)]; exact hy)
theorem rng_right {X Y S : List Opm} {lo hi : Nat} (hXY : X.length = Y.length) (hl : X.length ≤ lo) (h : Rng lo hi (X ++ S)) : Rng lo hi (Y ++ S) := by
  intro u v x y hu huv hv hx hy
  rw [List.getElem?_append_right (by omega)] at hx hy
  exact h u v x y hu huv hv (by rw [List.getElem?_append_right (by omega), hXY]; exact hx) (by rw [List.getElem?_append_right (by omega), hXY]; exact hy)
theorem rng_past {L : List Opm} {lo hi : Nat} (h : L.length ≤ lo) : Rng lo hi L := by
  intro u v x y hu huv hv hx
  have := (List.getElem?_eq_some_iff.1 hx).1
  omega

/-- A list cut twice. -/
theorem cut3 (L : List Opm) (a d : Nat) (h : a + d ≤ L.length) : ∃ P A S, L = P ++ A ++ S ∧ P.length = a ∧ A.length = d ∧ P = L.take a ∧ A = (L.drop a).take d ∧ S = L.drop (a + d) := by
  refine ⟨_, _, _, ?_, by simp; omega, by simp; omega, rfl, rfl, rfl⟩
  rw [List.append_assoc, ← List.drop_drop, List.take_append_drop, List.take_append_drop]

end Go.Proofs.YthglbmnhlnpmkaaGreat

/- The stable sort of ops: the walk. Numbers and types by name. -/
namespace Go.Proofs.YthglbmnhlnpmkaaGreat
open Go.RowKit Go.Lib Go.Sort

/-- Blocks of d are by rising keys, up to k of them; L is what L0 was. -/
def Blocked (w0 : World) (blk off n : Nat) (L0 : List Opm) (d k : Nat) (L : List Opm) (W : World) : Prop := Same L0 L ∧ Srts w0 blk off n L W ∧ ∀ i, i < k → Rng (i * d) (i * d + d) L
/-- Blocks of 2 d are, up to k of them; behind them blocks of d. -/
def Merging (w0 : World) (blk off n : Nat) (L0 : List Opm) (d k : Nat) (L : List Opm) (W : World) : Prop := Same L0 L ∧ Srts w0 blk off n L W ∧ (∀ i, i < k → Rng (i * (2 * d)) (i * (2 * d) + 2 * d) L) ∧ ∀ i, 2 * k ≤ i → Rng (i * d) (i * d + d) L

theorem mul_le {i k d : Nat} (h : i < k) : i * d + d ≤ k * d := by
  have := Nat.mul_le_mul_right d (show i + 1 ≤ k from h)
  rwa [Nat.add_mul, Nat.one_mul] at this

/-- One block more. -/
theorem blocked_next {w0 : World} {blk off n : Nat} {L0 : List Opm} {d k : Nat} {P A S C : List Opm} {W W' : World} (h : Blocked w0 blk off n L0 d k (P ++ A ++ S) W) (hP : P.length = k * d) (hA : A.length = d ∨ S = []) (hd : A.length ≤ d)
    (hC : Asc C) (hs : Same A C) (hl : C.length = A.length) (hw : Srts w0 blk off n (P ++ C ++ S) W') : Blocked w0 blk off n L0 d (k + 1) (P ++ C ++ S) W' := by
  obtain ⟨h1, _, h3⟩ := h
  refine ⟨h1.trans (((Same.refl P).app hs).app (Same.refl S)), hw, fun i hi => ?_⟩
  rcases Nat.lt_or_ge i k with hik | hik
  · have := mul_le (d := d) hik
    rw [List.append_assoc]
    refine rng_left (by omega) (X := A ++ S) ?_
    rw [← List.append_assoc]
    exact h3 i hik
  · obtain rfl : i = k := by omega
    exact asc_rng hC hP.symm (by rcases hA with hA | hA; exact .inl (by omega); exact .inr hA)
theorem blocked_all {w0 : World} {blk off n : Nat} {L0 : List Opm} {d k : Nat} {L : List Opm} {W : World} (h : Blocked w0 blk off n L0 d k L W) (hk : L.length ≤ k * d) : Merging w0 blk off n L0 d 0 L W := by
  obtain ⟨h1, h2, h3⟩ := h
  refine ⟨h1, h2, fun i hi => by omega, fun i _ => ?_⟩
  rcases Nat.lt_or_ge i k with hik | hik
  · exact h3 i hik
  · exact rng_past (by have := Nat.mul_le_mul_right d hik; omega)

/-- One pair of blocks merged more. -/
theorem merging_next {w0 : World} {blk off n : Nat} {L0 : List Opm} {d k : Nat} {P A S C : List Opm} {W W' : World} (h : Merging w0 blk off n L0 d k (P ++ A ++ S) W) (hP : P.length = k * (2 * d)) (hA : A.length = 2 * d ∨ S = []) (hd : A.length ≤ 2 * d)
    (hC : Asc C) (hs : Same A C) (hl : C.length = A.length) (hw : Srts w0 blk off n (P ++ C ++ S) W') : Merging w0 blk off n L0 d (k + 1) (P ++ C ++ S) W' := by
  obtain ⟨h1, _, h3, h4⟩ := h
  refine ⟨h1.trans (((Same.refl P).app hs).app (Same.refl S)), hw, fun i hi => ?_, fun i hi => ?_⟩
  · rcases Nat.lt_or_ge i k with hik | hik
    · have := mul_le (d := 2 * d) hik
      rw [List.append_assoc]
      refine rng_left (by omega) (X := A ++ S) ?_
      rw [← List.append_assoc]
      exact h3 i hik
    · obtain rfl : i = k := by omega
      exact asc_rng hC hP.symm (by rcases hA with hA | hA; exact .inl (by omega); exact .inr hA)
  · have e : (2 * k + 2) * d ≤ i * d := Nat.mul_le_mul_right d (by omega)
    have e2 : (2 * k + 2) * d = k * (2 * d) + 2 * d := by rw [Nat.add_mul, Nat.mul_assoc, Nat.mul_left_comm]
    rcases hA with hA | rfl
    · exact rng_right (X := P ++ A) (by simp; omega) (by simp; omega) (h4 i (by omega))
    · exact rng_past (by simp; omega)
theorem merging_rest {w0 : World} {blk off n : Nat} {L0 : List Opm} {d k : Nat} {L : List Opm} {W : World} (h : Merging w0 blk off n L0 d k L W) (hk : L.length ≤ k * (2 * d) + d) : Merging w0 blk off n L0 (2 * d) 0 L W := by
  obtain ⟨h1, h2, h3, h4⟩ := h
  refine ⟨h1, h2, fun i hi => by omega, fun i _ => ?_⟩
  rcases Nat.lt_or_ge i k with hik | hik
  · exact h3 i hik
  · have e := Nat.mul_le_mul_right (2 * d) hik
    rcases Nat.eq_or_lt_of_le hik with rfl | hlt
    · have e2 : 2 * k * d = k * (2 * d) := by rw [Nat.mul_assoc, Nat.mul_left_comm]
      have := h4 (2 * k) (Nat.le_refl _)
      rw [e2] at this
      intro u v x y hu huv hv hx hy
      have := (List.getElem?_eq_some_iff.1 hy).1
      exact h4 (2 * k) (Nat.le_refl _) u v x y (by omega) huv (by omega) hx hy
    · exact rng_past (by have := mul_le (d := 2 * d) hlt; omega)
theorem merging_all {w0 : World} {blk off n : Nat} {L0 : List Opm} {d k : Nat} {L : List Opm} {W : World} (h : Merging w0 blk off n L0 d k L W) (hk : L.length ≤ k * (2 * d)) : Merging w0 blk off n L0 (2 * d) 0 L W := merging_rest h (by omega)
theorem merging_done {w0 : World} {blk off n : Nat} {L0 : List Opm} {d : Nat} {L : List Opm} {W : World} (h : Merging w0 blk off n L0 d 0 L W) (hk : L.length ≤ d) : Asc L := by
  have := rng_asc (h.2.2.2 0 (Nat.le_refl _))
  simp only [Nat.zero_mul, Nat.zero_add, List.drop_zero, Nat.sub_zero] at this
  rwa [List.take_of_length_le hk] at this

end Go.Proofs.YthglbmnhlnpmkaaGreat

/- slices.SortStableFunc of ops by their keys, over an own row. Numbers and types by name. -/
namespace Go.Proofs.YthglbmnhlnpmkaaGreat
open Go.RowKit Go.Lib Go.Sort

theorem flat_ovs (L : List Opm) (j : Nat) (hj : j < L.length * 3) : (ovs L)[j]? = some (flatK ov 3 L.toArray)[j]! := by
  have hk : j / 3 < L.length := by omega
  obtain ⟨o, ho⟩ : ∃ o, L[j / 3]? = some o := ⟨_, List.getElem?_eq_getElem hk⟩
  have h1 := ovs_at ho (j % 3) (by omega)
  rw [show j / 3 * 3 + j % 3 = j by omega] at h1
  rw [get_flatK ov 3 L.toArray j (by simpa using hj), arr_at ho, h1]
  rw [List.getElem?_eq_getElem (by rw [ov_length]; omega)]
  congr 1
  exact (getElem!_pos (ov o) (j % 3) (by rw [ov_length]; omega)).symm

theorem lies_own {w : World} {base e g n cap : Nat} {L : List Opm} (h : w.ownsRow base e 3 (.slice (some ⟨g, 0, none⟩) n cap) n (ovs L)) (hl : L.length = n) (hn : n ≤ 1000000000000) : Lies w g 0 n ∧ Srts w g 0 n L w := by
  obtain ⟨h1, h2 | ⟨g', cap', cur, e', hb, hg, hnc, hcm, hcs, ht⟩⟩ := h
  · exact absurd h2.1 (by simp)
  · simp only [Value.slice.injEq, Option.some.injEq, Addr.mk.injEq, and_true] at e'
    obtain ⟨rfl, _, rfl⟩ := e'
    have hH : HoldsK ov 3 w g 0 L.toArray := by
      intro j hj
      rw [size_flatK] at hj
      have hj' : j < L.length * 3 := by simpa using hj
      have e1 := flat_ovs L j hj'
      rw [← ht, List.getElem?_take, if_pos (by omega)] at e1
      rw [Nat.zero_add]
      refine ⟨?_, ?_⟩
      · simp only [World.cell?, hg]
        simpa using e1
      · simp [World.frozen?, hg]
    have hblk : g < w.heap.size := (Array.getElem?_eq_some_iff.1 hg).1
    exact ⟨⟨hn, L.toArray, by simpa using hl, ⟨ov_length, ov_oneS, hH, hblk⟩⟩, hl, SWK.start hH⟩

theorem own_sorted {w W : World} {base e g n cap : Nat} {L M : List Opm} (h : w.ownsRow base e 3 (.slice (some ⟨g, 0, none⟩) n cap) n (ovs L)) (B : Lies w g 0 n) (hs : Srts w g 0 n M W) :
    W.ownsRow base e 3 (.slice (some ⟨g, 0, none⟩) n cap) n (ovs M) ∧ w.grownBy W (some g) := by
  obtain ⟨h1, h2 | ⟨g', cap', cur, e', hb, hg, hnc, hcm, hcs, ht⟩⟩ := h
  · exact absurd h2.1 (by simp)
  · simp only [Value.slice.injEq, Option.some.injEq, Addr.mk.injEq, and_true] at e'
    obtain ⟨rfl, _, rfl⟩ := e'
    have hblk : g < w.heap.size := (Array.getElem?_eq_some_iff.1 hg).1
    obtain ⟨_, d0, hd, R⟩ := B
    obtain ⟨hl, hw⟩ := hs
    have H := hw.holds R.hblk R.hH (by simp [hl, hd])
    obtain ⟨m, os, rfl⟩ := hw
    have hobj : ∃ cur', (sortWorldK ov 3 w g 0 m M.toArray os).heap[g]? = some (.cells cur' e (0, 0)) ∧ cur'.size = cur.size := by
      refine ⟨putCells id 0 (flatK ov 3 M.toArray) cur, ?_, by simp [putCells]⟩
      unfold sortWorldK putRowK putRow
      rw [heap_grow_old _ _ (by show g < (mapBlock _ _ _).heap.size; simpa [mapBlock, Sort.ahead] using hblk)]
      simp only [mapBlock, Array.getElem?_modify, if_true]
      show Option.map (onCells (putCells id 0 (flatK ov 3 M.toArray))) w.heap[g]? = _
      rw [hg]
      rfl
    obtain ⟨cur', hg', hcs'⟩ := hobj
    refine ⟨⟨by rw [ovs_length, hl], .inr ⟨g, cap, cur', rfl, hb, hg', hnc, hcm, by rw [hcs', hcs], ?_⟩⟩, rfl, rfl, rfl, ?_, ?_⟩
    · apply List.ext_getElem?
      intro j
      by_cases hj : j < n * 3
      · rw [List.getElem?_take, if_pos hj, flat_ovs M j (by omega)]
        have := (H j (by rw [size_flatK]; simp; omega)).1
        rw [Nat.zero_add] at this
        simp only [World.cell?, hg'] at this
        simpa using this
      · rw [List.getElem?_eq_none (by rw [List.length_take]; omega), List.getElem?_eq_none (by rw [ovs_length]; omega)]
    · unfold sortWorldK putRowK putRow
      rw [size_grow]
      simp [mapBlock, Sort.ahead]
    · intro i hi hne
      unfold sortWorldK putRowK putRow
      rw [heap_grow_old _ _ (by simpa [mapBlock, Sort.ahead] using hi)]
      simp only [mapBlock, Array.getElem?_modify]
      rw [if_neg (fun e => hne (by rw [e]))]
      rfl

/-- What the sort leaves in an own row. -/
def SortedO (base e g n cap : Nat) (L : List Opm) (w : World) (en : Ending) (w' : World) : Prop :=
  en = .returned (.tuple #[]) ∧ ∃ M, Asc M ∧ Same L M ∧ M.length = L.length ∧ w'.ownsRow base e 3 (.slice (some ⟨g, 0, none⟩) n cap) n (ovs M) ∧ w.grownBy w' (some g)

end Go.Proofs.YthglbmnhlnpmkaaGreat

/- Lists of ops: are they right, are they one? Numbers and types by name. -/
namespace Go.Proofs.YthglbmnhlnpmkaaGreat
open Go.RowKit Go.Lib

/-- What SameOps tells. -/
def SameO (ps qs : List Opm) (w : World) (e : Ending) (w' : World) : Prop := ∃ b k, e = .returned (.bool b) ∧ w' = w.drewN k ∧ (b = true ↔ ps = qs)

end Go.Proofs.YthglbmnhlnpmkaaGreat

/- append to own rows of whatever elements: ops, lists of ops. Numbers and types by name. -/
namespace Go.Proofs.YthglbmnhlnpmkaaGreat
open Go.RowKit Go.Lib

theorem elemOp : Elem 87 90 (.agg #[.bool false, .string ⟨#[]⟩, .string ⟨#[]⟩]) 3 40 := ⟨Tryz.underlying87, by kernel_rfl, by decide, by decide⟩
end Go.Proofs.YthglbmnhlnpmkaaGreat

/- slices.Grow of nothing, slices.Concat, slices.Clone at ops. Numbers and types by name. -/
namespace Go.Proofs.YthglbmnhlnpmkaaGreat
open Go.RowKit Go.Lib

def zeroOp : Value := .agg #[.bool false, .string ⟨#[]⟩, .string ⟨#[]⟩]

theorem ovs_append (A B : List Opm) : ovs (A ++ B) = ovs A ++ ovs B := by simp [ovs]
theorem ovs_one (A : List Opm) : ∀ u ∈ ovs A, u.oneCell' = true := by
  intro u hu
  obtain ⟨o, _, ho⟩ := List.mem_flatMap.1 hu
  simp only [ov, List.mem_cons, List.not_mem_nil, or_false] at ho
  rcases ho with rfl | rfl | rfl <;> rfl

/-- A list of lists of ops can be read. -/
def Lops (w : World) (v : Value) (n : Nat) (L : List (List Opm)) : Prop := n = L.length ∧ ∃ vs : List Value, Reads w v vs ∧ vs.length = n ∧ ∀ (k : Nat) (u : Value), vs[k]? = some u → ∃ (q : Nat) (l : List Opm), L[k]? = some l ∧ Opr w u q l
theorem Lops.shape {w : World} {v : Value} {n : Nat} {L : List (List Opm)} (h : Lops w v n L) : ∃ ao c, v = .slice ao n c := by
  obtain ⟨rfl, vs, ⟨ao, c, rfl, _⟩, hl, _⟩ := h
  exact ⟨ao, c, by rw [hl]⟩
theorem Lops.later {w w' : World} {v : Value} {n : Nat} {L : List (List Opm)} (h : Lops w v n L) (hg : Grow w w') : Lops w' v n L := by
  obtain ⟨h1, vs, h2, h3, h4⟩ := h
  exact ⟨h1, vs, h2.later hg, h3, fun k u hu => by obtain ⟨q, l, a, b⟩ := h4 k u hu; exact ⟨q, l, a, b.later hg⟩⟩
theorem Lops.at {w : World} {ao : Option Addr} {n c : Nat} {L : List (List Opm)} (h : Lops w (.slice ao n c) n L) {k : Nat} (hk : k < n) :
    ∃ a q l au cu, ao = some a ∧ L[k]? = some l ∧ w.cell? (a.add k) = some (.slice au q cu) ∧ Opr w (.slice au q cu) q l := by
  obtain ⟨h1, vs, ⟨ao', c', e, _, hn, hc⟩, h3, h4⟩ := h
  simp only [Value.slice.injEq] at e
  obtain ⟨rfl, _, _⟩ := e
  obtain ⟨u, hu⟩ : ∃ u, vs[k]? = some u := ⟨_, List.getElem?_eq_getElem (by omega)⟩
  obtain ⟨q, l, hl, ho⟩ := h4 k u hu
  obtain ⟨au, cu, rfl⟩ := ho.shape
  cases ao with
  | none => have := (hn rfl).1; subst this; cases hu
  | some a => exact ⟨a, q, l, au, cu, rfl, hl, hc a rfl k _ hu, ho⟩
theorem opsl_at {L : List (List Opm)} {k : Nat} : (L.take k).flatten.length ≤ L.flatten.length := by
  have := congrArg (fun l => (List.flatten l).length) (List.take_append_drop k L)
  simp only [List.flatten_append, List.length_append] at this
  omega
theorem take_moreo {L : List (List Opm)} {k : Nat} {p : List Opm} (h : L[k]? = some p) : (L.take (k + 1)).flatten = (L.take k).flatten ++ p := by
  rw [take_next h, List.flatten_append]; simp

end Go.Proofs.YthglbmnhlnpmkaaGreat

namespace Go.Proofs.YthglbmnhlnpmkaaGreat
open Go.RowKit Go.Lib Go.Sort

/-- What stands at a key. -/
def findP (L : List Prm) (k : ByteArray) : ByteArray × Bool := match L.find? (fun o => decide (o.key = k)) with
  | none => (⟨#[]⟩, false)
  | some o => (o.val, true)

set_option maxHeartbeats 1000000 in
theorem right_pairs (v : Value) (n : Nat) (L : List Prm) (w : World) (hr : Prr w v n L) :
    Calls Tryz.prog 48 #[v] w fun e w' => ∃ q, e = .returned (.bool (decide (Rise L))) ∧ w' = w.drewN q := by
  obtain ⟨ao, c, rfl⟩ := hr.shape
  have HR := Lib.hid hr
  have hm := hr.2.1
  unfold maxLen at hm
  clear hr
  go_enter Tryz.func48, Tryz.ntmps48
  go_wp2_with fail
  go_loopw [3] (fun i wr => ∃ m q : Nat, i = .int .i64 m ∧ 1 ≤ m ∧ (m = 1 ∨ m ≤ n) ∧ Hid (∀ j a b, j + 1 < m → L[j]? = some a → L[j + 1]? = some b → kOf a < kOf b) ∧ wr = w.drewN q)
    (fun i _ => n + 1 - (RowKit.intOf i).toNat)
  case atStart => exact ⟨1, 0, rfl, Nat.le_refl _, .inl rfl, Lib.hid (fun j a b h => by omega), rfl⟩
  case round =>
    obtain ⟨m, q, rfl, hm1, hk, hs, hw⟩ := hrel
    by_cases hlt : m < n
    · have h3 : (m : Int) < (n : Int) := by omega
      obtain ⟨k, hkm⟩ : ∃ k, m = k + 1 := ⟨m - 1, by omega⟩
      have h4 : (k : Int) < (n : Int) := by omega
      have h5 : k < n := by omega
      have u1 : IntKind.i64.wrap ((m : Int) - 1) = (k : Int) := by rw [IntKind.wrap_i64]; omega
      have HR' : Prr wr (.slice ao n c) n L := by rw [hw]; exact HR.out
      obtain ⟨a, o, rfl, ho, c0, _, _, _⟩ := HR'.at hlt
      obtain ⟨a', o', e, ho', d0, _, _, _⟩ := HR'.at (k := k) (by omega)
      cases e
      rw [hkm] at ho
      have HO := Lib.hid (And.intro ho (And.intro ho' (And.intro hw hkm)))
      clear ho ho' hw HR' hkm
      by_cases hb : (Op.bytesLess o.key.toList o'.key.toList || o.key.toList == o'.key.toList) = true
      · have HN : Hid (¬ Rise L) := Lib.hid (fun hR => by
          have h1 := rise_next hR HO.out.2.1 HO.out.1
          unfold kOf at h1
          rw [Bool.or_eq_true, bytesLess_eq, decide_eq_true_eq, beq_iff_eq] at hb
          rcases hb with h2 | h2
          · exact List.lt_irrefl _ (List.lt_trans h1 h2)
          · rw [h2] at h1; exact List.lt_irrefl _ h1)
        go_wp2_with fail
        go_quiet (fail)
        go_wp2
        go_ret
        exact ⟨q + nq, by rw [decide_eq_false HN.out]; rfl, by rw [HO.out.2.2.1, World.drewN_drewN]⟩
      · have HN : Hid (kOf o' < kOf o) := Lib.hid (by
          unfold kOf
          rw [Bool.or_eq_true, bytesLess_eq, decide_eq_true_eq, beq_iff_eq] at hb
          by_cases h1 : o'.key.toList < o.key.toList
          · exact h1
          · refine absurd ?_ hb
            by_cases h2 : o.key.toList < o'.key.toList
            · exact .inl h2
            · exact .inr (List.le_antisymm (List.not_lt.1 h1) (List.not_lt.1 h2)))
        rw [Bool.not_eq_true] at hb
        go_wp2_with fail
        go_quiet (fail)
        go_wp2
        refine ⟨⟨m + 1, q + nq, by go_num, by omega, .inr (by omega), Lib.hid (fun j a b hj h1 h2 => ?_), by rw [HO.out.2.2.1, World.drewN_drewN]⟩, by simp [RowKit.intOf]; omega⟩
        have hkm := HO.out.2.2.2
        by_cases hjk : j + 1 < m
        · exact hs.out j a b hjk h1 h2
        · obtain rfl : j = k := by omega
          rw [HO.out.2.1] at h1
          rw [HO.out.1] at h2
          cases h1; cases h2
          exact HN.out
    · have h3 : ¬ (m : Int) < (n : Int) := by omega
      have HW := Lib.hid hw
      have HN : Hid (Rise L) := Lib.hid (rise_steps fun j a b h1 h2 => hs.out j a b (by
        have := (List.getElem?_eq_some_iff.1 h2).1
        have := HR.out.1
        omega) h1 h2)
      clear hw
      go_wp2_with fail
      go_ret
      exact ⟨by rw [decide_eq_true HN.out]; rfl, q, HW.out⟩

theorem find_first {L : List Prm} {k : ByteArray} {j : Nat} {o : Prm} (h : L[j]? = some o) (hk : o.key = k) (hs : ∀ x ∈ L.take j, x.key ≠ k) : L.find? (fun o => decide (o.key = k)) = some o := by
  have e : L = L.take j ++ o :: L.drop (j + 1) := by
    have := List.take_append_drop j L
    obtain ⟨hl, e2⟩ := List.getElem?_eq_some_iff.1 h
    rw [List.drop_eq_getElem_cons hl, e2] at this
    exact this.symm
  rw [e, List.find?_append, List.find?_eq_none.2 (fun x hx => by simpa using hs x hx)]
  simp [hk]

end Go.Proofs.YthglbmnhlnpmkaaGreat
