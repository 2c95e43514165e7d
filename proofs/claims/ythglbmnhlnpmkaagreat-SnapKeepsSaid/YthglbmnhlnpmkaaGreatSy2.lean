/- The stable sort's merge of ops where the second part is one op: the walk. Numbers and types by name. -/
import Derived.Test.YthglbmnhlnpmkaaGreatSpc
import Derived.Test.YthglbmnhlnpmkaaGreatOp
import Derived.Shelf.SlSortCmp.KitK
import Derived.Test.YthglbmnhlnpmkaaGreatBe4
import Derived.Lib.Bytealg
import Derived.Sort.Grow
import Derived.StillTailTactics
/- How much may be on a disk behind saves: plain facts. Numbers and types by name. -/
namespace Go.Proofs.YthglbmnhlnpmkaaGreat
open Go.RowKit Go.Lib

theorem well_run {K : Nat} : ∀ (ops : List Opn) (M : MD) (j : Nat), Well K M j → (∀ op ∈ ops, Adds op K ∧ Keeps op) → Well K (runOps ops M).2 (j + ops.length)
  | [], M, j, h, _ => h
  | op :: l, M, j, h, ho => by
    rw [runOps_one]
    have h1 := well_act h (ho op (by simp)).1 (ho op (by simp)).2
    split
    · have := well_run l _ (j + 1) h1 fun o hm => ho o (List.mem_cons_of_mem _ hm)
      rw [List.length_cons, show j + (l.length + 1) = j + 1 + l.length by omega]
      exact this
    · exact well_more h1 (by rw [List.length_cons]; omega)
theorem saveOps_all {K : Nat} (fs : List Ent) {x : List UInt8} (hx : x.length ≤ K) : ∀ op ∈ saveOps fs x, Adds op K ∧ Keeps op := by
  intro op hm
  unfold saveOps at hm
  rcases List.mem_append.1 hm with h | h
  · split at h
    · rw [List.mem_singleton.1 h]; exact ⟨adds_remove K tmpK, keeps_remove tmpK⟩
    · cases h
  · simp only [List.mem_cons, List.not_mem_nil, or_false] at h
    rcases h with rfl | rfl | rfl | rfl
    · exact ⟨adds_create K tmpK, keeps_create tmpK⟩
    · exact ⟨adds_append K tmpK x hx, keeps_append tmpK x⟩
    · exact ⟨adds_sync K tmpK, keeps_sync tmpK⟩
    · exact ⟨adds_rename K tmpK snapK, keeps_rename tmpK snapK⟩
theorem saveOps_length (fs : List Ent) (x : List UInt8) : (saveOps fs x).length ≤ 5 := by
  unfold saveOps
  split <;> simp
theorem well_save {K : Nat} {M : MD} {j : Nat} (h : Well K M j) {x : List UInt8} (hx : x.length ≤ K) : Well K (saveP M x).2 (j + 5) := by
  have h1 := well_run (saveOps M.fs x) M j h (saveOps_all M.fs hx)
  have h2 := saveOps_length M.fs x
  exact well_more h1 (by omega)

theorem act_now {M : MD} (h1 : M.dw = false) (h2 : M.n + 1 ≠ M.cr) (h3 : M.fail.contains (M.n + 1) = false) (op : Opn) : M.act op = ((op M.cap M.fs).1, { M with n := M.n + 1, fs := (op M.cap M.fs).2 }) := by
  unfold MD.act
  rw [if_neg (by simp [h1]), if_neg h2, if_neg (by simp only [h3]; simp)]
/-- The first save on a disk without files, whose first four calls are carried out. -/
theorem save_first {M : MD} (hd : M.dw = false) (hfs : M.fs = []) (hq : ∀ i : Int, M.n < i → i ≤ M.n + 4 → i ≠ M.cr ∧ M.fail.contains i = false) (x : List UInt8) (hc : ¬ M.cap < (x.length : Int)) :
    saveP M x = (0, { M with n := M.n + 1 + 1 + 1 + 1, fs := [(snapK, x, x.length)] }) := by
  unfold saveP saveOps
  rw [if_neg (by rw [hfs]; simp), List.nil_append]
  have c1 : opCreate tmpK M.cap [] = (0, [(tmpK, [], 0)]) := rfl
  have c2 : opAppend tmpK x M.cap [(tmpK, [], 0)] = (0, [(tmpK, x, 0)]) := by
    unfold opAppend
    simp only [List.find?_cons, tmp_is]
    rw [if_neg (by simpa [tot] using hc)]
    simp [updE, tmp_is]
  have c3 : opSync tmpK M.cap [(tmpK, x, 0)] = (0, [(tmpK, x, x.length)]) := by
    unfold opSync
    simp [tmp_is, updE]
  have c4 : opRename tmpK snapK M.cap [(tmpK, x, x.length)] = (0, [(snapK, x, x.length)]) := by
    unfold opRename
    simp only [List.find?_cons, tmp_is]
    rw [if_neg (by decide), if_neg (by decide)]
    simp [woE, tmp_is, insE]
  have a1 : M.act (opCreate tmpK) = (0, { M with n := M.n + 1, fs := [(tmpK, [], 0)] }) := by
    rw [act_now hd (hq _ (by omega) (by omega)).1 (hq _ (by omega) (by omega)).2, hfs, c1]
  have a2 : ({ M with n := M.n + 1, fs := [(tmpK, [], 0)] } : MD).act (opAppend tmpK x) = (0, { M with n := M.n + 1 + 1, fs := [(tmpK, x, 0)] }) := by
    rw [act_now (M := { M with n := M.n + 1, fs := [(tmpK, [], 0)] }) hd (hq (M.n + 1 + 1) (by omega) (by omega)).1 (hq (M.n + 1 + 1) (by omega) (by omega)).2]
    simp only
    rw [c2]
  have a3 : ({ M with n := M.n + 1 + 1, fs := [(tmpK, x, 0)] } : MD).act (opSync tmpK) = (0, { M with n := M.n + 1 + 1 + 1, fs := [(tmpK, x, x.length)] }) := by
    rw [act_now (M := { M with n := M.n + 1 + 1, fs := [(tmpK, x, 0)] }) hd (hq (M.n + 1 + 1 + 1) (by omega) (by omega)).1 (hq (M.n + 1 + 1 + 1) (by omega) (by omega)).2]
    simp only
    rw [c3]
  have a4 : ({ M with n := M.n + 1 + 1 + 1, fs := [(tmpK, x, x.length)] } : MD).act (opRename tmpK snapK) = (0, { M with n := M.n + 1 + 1 + 1 + 1, fs := [(snapK, x, x.length)] }) := by
    rw [act_now (M := { M with n := M.n + 1 + 1 + 1, fs := [(tmpK, x, x.length)] }) hd (hq (M.n + 1 + 1 + 1 + 1) (by omega) (by omega)).1 (hq (M.n + 1 + 1 + 1 + 1) (by omega) (by omega)).2]
    simp only
    rw [c4]
  rw [runOps_one, a1, if_pos rfl, runOps_one, a2, if_pos rfl, runOps_one, a3, if_pos rfl, runOps_one, a4, if_pos rfl]
  rfl

/-- Two saves, a crash and failures behind the first: what is loaded behind the restart is the first, or the second, whole, and the second where it told OK. -/
theorem keeps_two {M : MD} (hM : M.dw = false) (hfs : M.fs = []) (hq : ∀ i : Int, M.n < i → i ≤ M.n + 4 → i ≠ M.cr ∧ M.fail.contains i = false) (x y : List UInt8) (hc : ¬ M.cap < (x.length : Int)) (cap : Int) :
    (saveP M x).1 = 0 ∧ ((saveP (saveP M x).2 y).1 = 0 → loadP ((saveP (saveP M x).2 y).2.restart cap 0 false [] []) = (y, 0)) ∧
      (loadP ((saveP (saveP M x).2 y).2.restart cap 0 false [] []) = (x, 0) ∨ loadP ((saveP (saveP M x).2 y).2.restart cap 0 false [] []) = (y, 0)) := by
  have h1 := save_first hM hfs hq x hc
  have hr : Rising (saveP M x).2.fs := by rw [h1]; exact List.pairwise_singleton _ _
  have hs : Sure (saveP M x).2.fs snapK x := by rw [h1]; unfold Sure; simp [snap_is]
  obtain ⟨k1, k2, k3⟩ := save_keeps (M := (saveP M x).2) (x := y) hr
  have load : ∀ b, Sure (saveP (saveP M x).2 y).2.fs snapK b → loadP ((saveP (saveP M x).2 y).2.restart cap 0 false [] []) = (b, 0) := fun b hb =>
    load_snap rfl (sure_restart k3 hb cap 0 false [] []).1
  refine ⟨by rw [h1], fun h => load y (k2 h), ?_⟩
  rcases k1 with h | h
  · exact .inl (load x (h.trans hs))
  · exact .inr (load y h)

end Go.Proofs.YthglbmnhlnpmkaaGreat

/- A row of ops under the stable sort: its worlds; the exchange of two runs. Numbers and types by name. -/
namespace Go.Proofs.YthglbmnhlnpmkaaGreat
open Go.RowKit Go.Lib Go.Sort

instance opmIn : Inhabited Opm := ⟨⟨false, ⟨#[]⟩, ⟨#[]⟩⟩⟩
theorem ov_length (o : Opm) : (ov o).length = 3 := rfl
theorem ov_oneS (o : Opm) : ∀ v ∈ ov o, v.oneCell' = true := by
  intro v hv
  simp only [ov, List.mem_cons, List.not_mem_nil, or_false] at hv
  rcases hv with rfl | rfl | rfl <;> rfl

/-- The row lies where the sort began. -/
def Lies (w0 : World) (blk off n : Nat) : Prop := n ≤ 1000000000000 ∧ ∃ d0 : Array Opm, d0.size = n ∧ RowK ov 3 w0 blk off d0
/-- W is a world of the sort that began at w0; the row holds L. -/
def Srts (w0 : World) (blk off n : Nat) (L : List Opm) (W : World) : Prop := L.length = n ∧ SWK ov 3 w0 blk off L.toArray W

theorem Srts.drewN {w0 W : World} {blk off n : Nat} {L : List Opm} (h : Srts w0 blk off n L W) (q : Nat) : Srts w0 blk off n L (W.drewN q) := ⟨h.1, h.2.drewN q⟩
theorem Srts.grown {w0 W : World} {blk off n : Nat} {L : List Opm} (h : Srts w0 blk off n L W) (q : Nat) (os : Array Obj) : Srts w0 blk off n L (grow (W.drewN q) os) := ⟨h.1, h.2.grown q os⟩
theorem arr_at {L : List Opm} {i : Nat} {x : Opm} (h : L[i]? = some x) : (L.toArray)[i]! = x := by
  obtain ⟨hi, e⟩ := List.getElem?_eq_some_iff.1 h
  rw [getElem!_pos L.toArray i (by simpa using hi)]
  simpa using e

/-- The cells of an element. -/
theorem Srts.cells {w0 W : World} {blk off n : Nat} {L : List Opm} (h : Srts w0 blk off n L W) (B : Lies w0 blk off n) {i : Nat} {x : Opm} (hx : L[i]? = some x) :
    (W.cell? ⟨blk, off + i * 3, none⟩ = some (.bool x.del) ∧ W.cell? ⟨blk, off + i * 3 + 1, none⟩ = some (.string x.key) ∧ W.cell? ⟨blk, off + i * 3 + 2, none⟩ = some (.string x.val)) ∧
    W.frozen? ⟨blk, off + i * 3, none⟩ = false ∧ W.frozen? ⟨blk, off + i * 3 + 1, none⟩ = false ∧ W.frozen? ⟨blk, off + i * 3 + 2, none⟩ = false := by
  obtain ⟨_, d0, hd, R⟩ := B
  have hi : i < L.toArray.size := by simpa using (List.getElem?_eq_some_iff.1 hx).1
  have H := h.2.holds R.hblk R.hH (by simp [h.1, hd])
  have e := arr_at hx
  have c0 := H.cell (i := i) (c := 0) hi (by omega)
  have c1 := H.cell (i := i) (c := 1) hi (by omega)
  have c2 := H.cell (i := i) (c := 2) hi (by omega)
  rw [e] at c0 c1 c2
  rw [Nat.add_zero (off + i * 3)] at c0
  exact ⟨⟨c0.1, c1.1, c2.1⟩, c0.2, c1.2, c2.2⟩

/-- What a store of a whole element does. -/
def putE (W : World) (blk at0 : Nat) (x : Opm) : World := ((W.setCell ⟨blk, at0, none⟩ (.bool x.del)).setCell ⟨blk, at0 + 1, none⟩ (.string x.key)).setCell ⟨blk, at0 + 2, none⟩ (.string x.val)

/-- Two elements change places. -/
def swpL (L : List Opm) (i j : Nat) (x y : Opm) : List Opm := (L.set i y).set j x
theorem swpL_arr {L : List Opm} {i j : Nat} {x y : Opm} (hx : L[i]? = some x) (hy : L[j]? = some y) : swp L.toArray i j = (swpL L i j x y).toArray := by
  have hi := (List.getElem?_eq_some_iff.1 hx).1
  have hj := (List.getElem?_eq_some_iff.1 hy).1
  unfold swp swpL
  rw [arr_at hx, arr_at hy]
  simp
theorem Srts.swap {w0 W : World} {blk off n : Nat} {L : List Opm} (h : Srts w0 blk off n L W) (B : Lies w0 blk off n) {i j : Nat} {x y : Opm} (hx : L[i]? = some x) (hy : L[j]? = some y) :
    Srts w0 blk off n (swpL L i j x y) (putE (putE W blk (off + i * 3) y) blk (off + j * 3) x).drew := by
  obtain ⟨_, d0, hd, R⟩ := B
  suffices hs : Srts w0 blk off n (swpL L i j x y) (putE (putE W.drew blk (off + i * 3) y) blk (off + j * 3) x) by
    have e : ∀ (W : World) (b a : Nat) (z : Opm), putE W.drew b a z = (putE W b a z).drew := fun W b a z => rfl
    rw [e, e] at hs
    exact hs
  refine ⟨by simp [swpL, h.1], ?_⟩
  have := h.2.swapped R i j (by simpa using (List.getElem?_eq_some_iff.1 hx).1) (by simpa using (List.getElem?_eq_some_iff.1 hy).1)
  rw [arr_at hx, arr_at hy, swpL_arr hx hy] at this
  exact this

/-- Two runs of n elements change places. -/
def runsL (P U Q V R : List Opm) (k : Nat) : List Opm := P ++ (V.take k ++ U.drop k) ++ Q ++ (U.take k ++ V.drop k) ++ R
theorem runs_at1 {P U Q V R : List Opm} {k : Nat} (hUV : U.length = V.length) {x : Opm} (hx : U[k]? = some x) : (runsL P U Q V R k)[P.length + k]? = some x := by
  have hk := (List.getElem?_eq_some_iff.1 hx).1
  unfold runsL
  rw [List.append_assoc, List.append_assoc, List.append_assoc, List.getElem?_append_right (by omega), List.getElem?_append_left (by simp; omega), List.getElem?_append_right (by simp; omega)]
  simp only [List.length_take, List.getElem?_drop]
  rw [← hx]; congr 1; omega
theorem runs_at2 {P U Q V R : List Opm} {k : Nat} (hUV : U.length = V.length) {y : Opm} (hy : V[k]? = some y) : (runsL P U Q V R k)[P.length + U.length + Q.length + k]? = some y := by
  have hk := (List.getElem?_eq_some_iff.1 hy).1
  unfold runsL
  rw [List.append_assoc (P ++ (V.take k ++ U.drop k) ++ Q), List.getElem?_append_right (by simp; omega), List.getElem?_append_left (by simp; omega), List.getElem?_append_right (by simp; omega)]
  simp only [List.length_take, List.length_append, List.length_drop, List.getElem?_drop]
  rw [← hy]; congr 1; omega
theorem runs_step {P U Q V R : List Opm} {k : Nat} (hUV : U.length = V.length) {x y : Opm} (hx : U[k]? = some x) (hy : V[k]? = some y) :
    swpL (runsL P U Q V R k) (P.length + k) (P.length + U.length + Q.length + k) x y = runsL P U Q V R (k + 1) := by
  have hk := (List.getElem?_eq_some_iff.1 hx).1
  have hk2 := (List.getElem?_eq_some_iff.1 hy).1
  have eU : U.drop k = x :: U.drop (k + 1) := by
    rw [← List.getElem_cons_drop (h := hk)]; congr 1; exact (List.getElem?_eq_some_iff.1 hx).2
  have eV : V.drop k = y :: V.drop (k + 1) := by
    rw [← List.getElem_cons_drop (h := hk2)]; congr 1; exact (List.getElem?_eq_some_iff.1 hy).2
  unfold runsL swpL
  rw [List.take_add_one, List.take_add_one, hx, hy, eU, eV]
  simp only [Option.toList, List.append_assoc, List.cons_append, List.nil_append]
  have t1 : (V.take k).length = k := by simp; omega
  have t2 : (U.take k).length = k := by simp; omega
  rw [List.set_append_right _ _ (by omega), show P.length + k - P.length = k by omega, List.set_append_right _ _ (by omega)]
  rw [List.set_append_right _ _ (by omega), t1, Nat.sub_self, List.set_cons_zero, List.set_append_right _ _ (by omega), t1]
  obtain ⟨d, hd⟩ : ∃ d, U.length = k + 1 + d := ⟨U.length - (k + 1), by omega⟩
  rw [show P.length + U.length + Q.length + k - P.length - k = (d + Q.length + k) + 1 by omega, List.set_cons_succ, List.set_append_right _ _ (by simp; omega), List.set_append_right _ _ (by simp; omega), List.set_append_right _ _ (by simp; omega)]
  rw [show d + Q.length + k - (U.drop (k + 1)).length - Q.length - (U.take k).length = 0 by simp; omega, List.set_cons_zero]

end Go.Proofs.YthglbmnhlnpmkaaGreat

/- The stable sort: two runs of ops change places: the walk. Numbers and types by name. -/
namespace Go.Proofs.YthglbmnhlnpmkaaGreat
open Go.RowKit Go.Lib Go.Sort

/-- What the exchange leaves. -/
def Swapped (w0 : World) (blk off n : Nat) (L : List Opm) (e : Ending) (w' : World) : Prop := e = .returned (.tuple #[]) ∧ Srts w0 blk off n L w'

end Go.Proofs.YthglbmnhlnpmkaaGreat

/- The stable sort: two runs of ops that stand side by side change places: the walk. Numbers and types by name. -/
namespace Go.Proofs.YthglbmnhlnpmkaaGreat
open Go.RowKit Go.Lib Go.Sort

end Go.Proofs.YthglbmnhlnpmkaaGreat

/- Texts compared: strings.Compare. Numbers and types by name. -/
namespace Go.Proofs.YthglbmnhlnpmkaaGreat
open Go.RowKit Go.Lib Go.Sort

theorem cmp_lt : ∀ a b : List UInt8, compareBytes a b < 0 ↔ a < b
  | [], [] => by simp [compareBytes]
  | [], _ :: _ => by simp [compareBytes]
  | _ :: _, [] => by simp [compareBytes]
  | x :: a, y :: b => by
    unfold compareBytes
    rw [List.cons_lt_cons_iff]
    by_cases h1 : x < y
    · simp [h1]
    · by_cases h2 : y < x
      · have h3 : x ≠ y := fun e => by subst e; exact h1 h2
        simp [h1, h2, h3]
      · have h3 : x = y := by
          refine Decidable.byContradiction fun h => ?_
          rcases UInt8.lt_or_lt_of_ne h with h | h
          · exact h1 h
          · exact h2 h
        subst h3
        simp [UInt8.lt_irrefl, cmp_lt a b]
theorem cmp_eq0 : ∀ a b : List UInt8, compareBytes a b = 0 ↔ a = b
  | [], [] => by simp [compareBytes]
  | [], _ :: _ => by simp [compareBytes]
  | _ :: _, [] => by simp [compareBytes]
  | x :: a, y :: b => by
    unfold compareBytes
    by_cases h1 : x < y
    · have h3 : x ≠ y := fun e => by subst e; exact UInt8.lt_irrefl _ h1
      simp [h1, h3]
    · by_cases h2 : y < x
      · have h3 : x ≠ y := fun e => by subst e; exact UInt8.lt_irrefl _ h2
        simp [h1, h2, h3]
      · have h3 : x = y := by
          refine Decidable.byContradiction fun h => ?_
          rcases UInt8.lt_or_lt_of_ne h with h | h
          · exact h1 h
          · exact h2 h
        subst h3
        simp [UInt8.lt_irrefl, cmp_eq0 a b]

end Go.Proofs.YthglbmnhlnpmkaaGreat

/- Ops compared by their keys: table's own closure. Numbers and types by name. -/
namespace Go.Proofs.YthglbmnhlnpmkaaGreat
open Go.RowKit Go.Lib Go.Sort

def kO (o : Opm) : List UInt8 := o.key.data.toList

/-- What the closure tells; it may lay blocks. -/
def Cmps (x y : Opm) (w : World) (e : Ending) (w' : World) : Prop := e = .returned (.int .i64 (compareBytes (kO x) (kO y))) ∧ ∃ q os, w' = grow (w.drewN q) os

end Go.Proofs.YthglbmnhlnpmkaaGreat

/- Lists of ops that are one but for the order of unlike keys; lists by rising keys: plain facts. Numbers and types by name. -/
namespace Go.Proofs.YthglbmnhlnpmkaaGreat
open Go.RowKit Go.Lib Go.Sort

/-- The same ops of each key, in the same order. -/
def Same (A B : List Opm) : Prop := ∀ k : List UInt8, A.filter (fun o => kO o == k) = B.filter (fun o => kO o == k)
theorem Same.refl (A : List Opm) : Same A A := fun _ => rfl
theorem Same.trans {A B C : List Opm} (h : Same A B) (g : Same B C) : Same A C := fun k => (h k).trans (g k)
theorem Same.symm {A B : List Opm} (h : Same A B) : Same B A := fun k => (h k).symm
theorem Same.app {A B C D : List Opm} (h : Same A B) (g : Same C D) : Same (A ++ C) (B ++ D) := fun k => by rw [List.filter_append, List.filter_append, h k, g k]
theorem Same.mem {A B : List Opm} (h : Same A B) {x : Opm} (hx : x ∈ A) : x ∈ B := by
  have : x ∈ A.filter (fun o => kO o == kO x) := by simp [hx]
  rw [h] at this
  exact (List.mem_filter.1 this).1
theorem same_turn {A B : List Opm} (h : ∀ x ∈ A, ∀ y ∈ B, kO y < kO x) : Same (A ++ B) (B ++ A) := by
  intro k
  rw [List.filter_append, List.filter_append]
  by_cases hA : A.filter (fun o => kO o == k) = []
  · rw [hA]; simp
  · have hB : B.filter (fun o => kO o == k) = [] := by
      rw [List.filter_eq_nil_iff]
      intro y hy
      obtain ⟨x, hx⟩ := List.exists_mem_of_ne_nil _ hA
      rw [List.mem_filter] at hx
      have h1 := h x hx.1 y hy
      have h2 : kO x = k := by simpa using hx.2
      simp only [beq_iff_eq]
      intro h3
      rw [h2, h3] at h1
      exact List.lt_irrefl _ h1
    rw [hB]; simp

/-- By rising keys, or the same. -/
def Asc (A : List Opm) : Prop := A.Pairwise fun x y => ¬ kO y < kO x

theorem key_tri {a b : List UInt8} (h : ¬ a < b) (g : ¬ b < a) : a = b := List.le_antisymm (List.not_lt.1 g) (List.not_lt.1 h)
theorem key_nlt_trans {a b c : List UInt8} (h : ¬ b < a) (g : ¬ c < b) : ¬ c < a := by
  rw [List.not_lt] at *
  exact List.le_trans h g
theorem key_lt_of {a b c : List UInt8} (h : ¬ b < a) (g : b < c) : a < c := by
  rw [List.not_lt] at h
  exact List.lt_of_le_of_lt h g
theorem key_lt_of' {a b c : List UInt8} (h : a < b) (g : ¬ c < b) : a < c := by
  exact Decidable.byContradiction fun hn => g (List.lt_of_le_of_lt (List.not_lt.1 hn) h)

theorem Asc.nil : Asc [] := List.Pairwise.nil
theorem Asc.app {A B : List Opm} (hA : Asc A) (hB : Asc B) (h : ∀ x ∈ A, ∀ y ∈ B, ¬ kO y < kO x) : Asc (A ++ B) := List.pairwise_append.2 ⟨hA, hB, h⟩
theorem Asc.left {A B : List Opm} (h : Asc (A ++ B)) : Asc A := (List.pairwise_append.1 h).1
theorem Asc.right {A B : List Opm} (h : Asc (A ++ B)) : Asc B := (List.pairwise_append.1 h).2.1
theorem Asc.cross {A B : List Opm} (h : Asc (A ++ B)) : ∀ x ∈ A, ∀ y ∈ B, ¬ kO y < kO x := (List.pairwise_append.1 h).2.2
theorem Asc.at {A : List Opm} (h : Asc A) {i j : Nat} (hij : i ≤ j) {x y : Opm} (hx : A[i]? = some x) (hy : A[j]? = some y) : ¬ kO y < kO x := by
  rcases Nat.eq_or_lt_of_le hij with rfl | hlt
  · rw [hx] at hy; cases hy; exact List.lt_irrefl _
  · obtain ⟨h1, e1⟩ := List.getElem?_eq_some_iff.1 hx
    obtain ⟨h2, e2⟩ := List.getElem?_eq_some_iff.1 hy
    have := List.pairwise_iff_getElem.1 h i j h1 h2 hlt
    rw [e1, e2] at this
    exact this

/-- An op behind all that are not greater, ahead of all that are: what was by rising keys is. -/
theorem asc_in {X1 X2 : List Opm} {x : Opm} (h : Asc (X1 ++ X2)) (h2 : ∀ z ∈ X2, kO x < kO z) (h1 : ∀ z, X1.getLast? = some z → ¬ kO x < kO z) : Asc (X1 ++ x :: X2) := by
  have h1' : ∀ z ∈ X1, ¬ kO x < kO z := by
    intro z hz
    obtain ⟨Y, l, rfl⟩ : ∃ Y l, X1 = Y ++ [l] := ⟨X1.dropLast, X1.getLast (List.ne_nil_of_mem hz), (List.dropLast_concat_getLast _).symm⟩
    have hl := h1 l (by simp)
    rcases List.mem_append.1 hz with hz | hz
    · exact key_nlt_trans (Asc.cross (Asc.left h) z hz l (by simp)) hl
    · obtain rfl : z = l := by simpa using hz
      exact hl
  refine Asc.app (Asc.left h) (List.pairwise_cons.2 ⟨fun y hy => ?_, Asc.right h⟩) fun z hz y hy => ?_
  · exact fun hlt => List.lt_irrefl _ (List.lt_trans (h2 y hy) hlt)
  · rcases List.mem_cons.1 hy with rfl | hy
    · exact h1' z hz
    · exact Asc.cross h z hz y hy
theorem same_in {X1 X2 B : List Opm} {x : Opm} (h2 : ∀ z ∈ X2, kO x < kO z) (h : Same B (X1 ++ X2)) : Same (B ++ [x]) (X1 ++ x :: X2) := by
  refine (h.app (Same.refl [x])).trans ?_
  rw [List.append_assoc]
  refine (Same.refl X1).app ?_
  exact same_turn (A := X2) (B := [x]) fun z hz y hy => by
    obtain rfl : y = x := by simpa using hy
    exact h2 z hz

theorem swpL_down (F R : List Opm) (x z : Opm) : swpL (F ++ z :: x :: R) (F.length + 1) F.length x z = F ++ x :: z :: R := by
  unfold swpL
  rw [List.set_append_right _ _ (by omega), List.set_append_right _ _ (by omega), Nat.sub_self, Nat.add_sub_cancel_left]
  rfl
theorem swpL_up (F R : List Opm) (x z : Opm) : swpL (F ++ x :: z :: R) F.length (F.length + 1) x z = F ++ z :: x :: R := by
  unfold swpL
  rw [List.set_append_right _ _ (by omega), List.set_append_right _ _ (by omega), Nat.sub_self, Nat.add_sub_cancel_left]
  rfl
theorem mid_at0 (F R : List Opm) (x : Opm) : (F ++ x :: R)[F.length]? = some x := by rw [List.getElem?_append_right (by omega), Nat.sub_self]; rfl
theorem mid_at1 (F R : List Opm) (x z : Opm) : (F ++ x :: z :: R)[F.length + 1]? = some z := by rw [List.getElem?_append_right (by omega), Nat.add_sub_cancel_left]; rfl

end Go.Proofs.YthglbmnhlnpmkaaGreat

/- The stable sort's insertion sort of ops: the walk. Numbers and types by name. -/
namespace Go.Proofs.YthglbmnhlnpmkaaGreat
open Go.RowKit Go.Lib Go.Sort

/-- What a sorting call leaves: the part A is by rising keys. -/
def Sorted1 (w0 : World) (blk off n : Nat) (P A S : List Opm) (e : Ending) (w' : World) : Prop := e = .returned (.tuple #[]) ∧ ∃ B, Asc B ∧ Same A B ∧ B.length = A.length ∧ Srts w0 blk off n (P ++ B ++ S) w'

end Go.Proofs.YthglbmnhlnpmkaaGreat

/- The stable sort's merge of ops where the first part is one op: the walk. Numbers and types by name. -/
namespace Go.Proofs.YthglbmnhlnpmkaaGreat
open Go.RowKit Go.Lib Go.Sort

theorem asc_mid {X1 X2 : List Opm} {x : Opm} (h : Asc (X1 ++ X2)) (h1 : ∀ z ∈ X1, ¬ kO x < kO z) (h2 : ∀ z ∈ X2, ¬ kO z < kO x) : Asc (X1 ++ x :: X2) := by
  refine Asc.app (Asc.left h) (List.pairwise_cons.2 ⟨h2, Asc.right h⟩) fun z hz y hy => ?_
  rcases List.mem_cons.1 hy with rfl | hy
  · exact h1 z hz
  · exact Asc.cross h z hz y hy

theorem mem_take_at {A : List Opm} {k : Nat} {z : Opm} (h : z ∈ A.take k) : ∃ t, t < k ∧ A[t]? = some z := by
  obtain ⟨t, ht, e⟩ := List.getElem_of_mem h
  rw [List.length_take] at ht
  refine ⟨t, by omega, ?_⟩
  rw [List.getElem_take] at e
  rw [List.getElem?_eq_getElem (by omega), e]
theorem mem_drop_at {A : List Opm} {k : Nat} {z : Opm} (h : z ∈ A.drop k) : ∃ t, k ≤ t ∧ t < A.length ∧ A[t]? = some z := by
  obtain ⟨t, ht, e⟩ := List.getElem_of_mem h
  rw [List.length_drop] at ht
  refine ⟨k + t, by omega, by omega, ?_⟩
  rw [List.getElem_drop] at e
  rw [List.getElem?_eq_getElem (by omega), e]
theorem row_at {P A R : List Opm} {t : Nat} {x : Opm} (h : A[t]? = some x) : (P ++ A ++ R)[P.length + t]? = some x := by
  have ht := (List.getElem?_eq_some_iff.1 h).1
  rw [List.append_assoc, List.getElem?_append_right (by omega), Nat.add_sub_cancel_left, List.getElem?_append_left ht]
  exact h

end Go.Proofs.YthglbmnhlnpmkaaGreat

namespace Go.Proofs.YthglbmnhlnpmkaaGreat
open Go.RowKit Go.Lib Go.Sort

end Go.Proofs.YthglbmnhlnpmkaaGreat
