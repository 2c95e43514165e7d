/- Append, that is carried out. Numbers and types by name. -/
import Derived.Test.YthcdkggkoanjpaaGreatDoorCop
import Derived.BigRegion
import Derived.RegionTactic
import Derived.ChangeAlike
import Derived.Maps.OwnSet
import Derived.Sort.KeysCollected
import Derived.WalkSpells
namespace Go.Proofs.YthcdkggkoanjpaaGreatDoor
open Go.RowKit Go.Maps Go.Sort
def leI (x y : Int) : Bool := decide (x ≤ y)
theorem sort_int (base : Nat) (ao : Option Addr) (c : Nat) (zs : List Int) (w : World) (hown : w.ownsRow base 3 1 (.slice ao zs.length c) zs.length (iv zs)) (hz : zs.length < 4611686018427387904) :
    Calls Tryz.prog 63 #[.slice ao zs.length c] w fun e w' => e = .returned (.tuple #[]) ∧ w'.ownsRow base 3 1 (.slice ao zs.length c) zs.length (iv (zs.mergeSort leI)) ∧ Turn (Value.slice ao zs.length c).ownBlock.toList w w' := by
  rcases hown.2 with ⟨h, h0⟩ | ⟨g, cap, cur, h, hb, hg, h1, h2, h3, h4⟩
  · obtain rfl : zs = [] := List.eq_nil_of_length_eq_zero h0
    simp only [Value.slice.injEq] at h
    obtain ⟨rfl, _, rfl⟩ := h
    refine (Tryz.slices_Sort_int_none none 0 w).mono ?_
    rintro e w' ⟨rfl, hw⟩
    subst hw
    exact ⟨rfl, by simpa [iv] using World.ownsRow_nil _ _ _ _, Turn.refl _ _⟩
  · simp only [Value.slice.injEq] at h
    obtain ⟨rfl, _, rfl⟩ := h
    have hh : Holds (Value.int .i64) w g 0 zs.toArray := by
      intro j hj
      have hj' : j < zs.length := by simpa using hj
      refine ⟨?_, by simp [World.frozen?, hg]⟩
      have e1 : (cur.toList.take zs.length)[j]? = (iv zs)[j]? := by rw [← h4]; simp
      rw [List.getElem?_take_of_lt hj'] at e1
      simp only [World.cell?, hg, Nat.zero_add]
      simp only [Option.isSome_none, Bool.false_eq_true, if_false]
      rw [← Array.getElem?_toList, e1]
      simp [iv, hj']
    refine (Tryz.slices_Sort_int g 0 c zs w hh (lt_of hg) hz).mono ?_
    rintro e w' ⟨rfl, n, os, rfl⟩
    refine ⟨rfl, ⟨by simp [iv], .inr ⟨g, c, putCells (Value.int .i64) 0 (zs.mergeSort leI).toArray cur, rfl, hb, ?_, h1, h2, by simp [putCells, h3], ?_⟩⟩, ?_⟩
    · have hgl := lt_of hg
      rw [heap_grow_old _ _ (by simpa using hgl)]
      simp [putRow, mapBlock, Sort.ahead, Array.getElem?_modify, hg, onCells]
      rfl
    · have hl : (zs.mergeSort leI).length = zs.length := by simp
      apply List.ext_getElem?
      intro j
      by_cases hj : j < zs.length
      · have hjc : j < cur.size := by omega
        rw [List.getElem?_take_of_lt (by omega), Array.getElem?_toList]
        simp [putCells, iv, hj, hjc]
      · rw [List.getElem?_take_eq_none (by omega), List.getElem?_eq_none (by simp [iv]; omega)]
    · refine ⟨rfl, rfl, rfl, by simp, fun k hk hne => ?_⟩
      rw [heap_grow_old _ _ (by simpa using hk)]
      have : g ≠ k := fun e => hne (by simp [Value.ownBlock, e])
      simp [putRow, mapBlock, Sort.ahead, Array.getElem?_modify, this]
theorem own_ints {w : World} {base : Nat} {ao : Option Addr} {c : Nat} {zs : List Int} (h : w.ownsRow base 3 1 (.slice ao zs.length c) zs.length (iv zs)) :
    (zs = [] ∧ ao = none) ∨ ∃ g, ao = some ⟨g, 0, none⟩ ∧ ∀ j, j < zs.length → w.cell? ⟨g, 0 + j, none⟩ = some (.int .i64 (zs.getD j 0)) := by
  rcases h.2 with ⟨h, h0⟩ | ⟨g, cap, cur, h, hb, hg, h1, h2, h3, h4⟩
  · simp only [Value.slice.injEq] at h
    exact .inl ⟨List.eq_nil_of_length_eq_zero h0, h.1⟩
  · simp only [Value.slice.injEq] at h
    obtain ⟨rfl, _, rfl⟩ := h
    refine .inr ⟨g, rfl, fun j hj => ?_⟩
    have e1 : (cur.toList.take zs.length)[j]? = (iv zs)[j]? := by rw [← h4]; simp
    rw [List.getElem?_take_of_lt hj] at e1
    simp only [World.cell?, hg, Nat.zero_add]
    simp only [Option.isSome_none, Bool.false_eq_true, if_false]
    rw [← Array.getElem?_toList, e1]
    simp [iv, hj]
theorem fails_any (b : Nat) (s : DS) (base : Nat) (ao : Option Addr) (c : Nat) (zs : List Int) (w : World) (hd : DiskC w b s) (hfl : s.fl = .slice ao zs.length c) (hown : w.ownsRow base 3 1 (.slice ao zs.length c) zs.length (iv zs)) (hs : zs.Pairwise (· ≤ ·)) (hz : zs.length < 4611686018427387904) :
    Calls Tryz.prog 101 #[.pointer (some ⟨b, 0, none⟩)] w fun e w' => e = .returned (.bool (zs.contains s.ca)) ∧ ∃ n, w' = w.drewN n := by
  have c1 := hd.c1
  have c7 := hd.c7
  rw [hfl] at c1
  have hcon : ∀ W : World, (∀ a, W.cell? a = w.cell? a) → Calls Tryz.prog 142 #[.slice ao zs.length c, .int .i64 s.ca] W fun e w' => e = .returned (.tuple #[.int .i64 (zs.countP (· < s.ca) : Nat), .bool (zs.contains s.ca)]) ∧ ∃ n, w' = W.drewN n := by
    intro W hW
    rcases own_ints hown with ⟨rfl, rfl⟩ | ⟨g, rfl, hc⟩
    · refine (Tryz.slices_BinarySearch_int_empty none c s.ca W).mono ?_
      rintro e w' ⟨rfl, rfl⟩
      exact ⟨rfl, 0, rfl⟩
    · refine (Tryz.slices_BinarySearch_int g 0 zs.length c zs s.ca W (Nat.le_refl _) hz (fun j hj => by rw [hW]; exact hc j hj) (by simpa using hs)).mono ?_
      rintro e w' ⟨rfl, n, rfl⟩
      exact ⟨by simp, n, rfl⟩
  clear hd hfl hown hs hz
  generalize zs.contains s.ca = r at *
  generalize zs.countP (· < s.ca) = k at *
  generalize zs.length = len at *
  go_enter Tryz.func101, Tryz.ntmps101
  go_wp2
  go_quiet ((go_at_call 142; exact Calls.quiet_of (hcon _ (fun _ => rfl))))
  go_wp2
  go_ret
  exact ⟨rfl, _, rfl⟩
end Go.Proofs.YthcdkggkoanjpaaGreatDoor
namespace Go.Proofs.YthcdkggkoanjpaaGreatDoor
open Go.RowKit Go.Maps Go.Sort
theorem owns_turn {F : List Nat} {w w' : World} {base e size : Nat} {v : Value} {n : Nat} {xs : List Value} (h : w.ownsRow base e size v n xs) (t : Turn F w w') (hF : ∀ g, v.ownBlock = some g → g ∉ F) : w'.ownsRow base e size v n xs := by
  refine ⟨h.1, ?_⟩
  rcases h.2 with hn | ⟨g, cap, cur, rfl, hb, hg, rest⟩
  · exact .inl hn
  · exact .inr ⟨g, cap, cur, rfl, hb, t.heap hg (hF g rfl), rest⟩
set_option maxHeartbeats 800000 in
theorem begin_any (b : Nat) (s : DS) (cap cr : Int) (dn : Bool) (fl kp : Value) (zs ks : List Int) (w : World) (hd : DiskC w b s) (hf : Reads w fl (iv zs)) (hk : Reads w kp (iv ks)) (hz : zs.length * 8 ≤ 140737488355328) (hz2 : ks.length * 8 ≤ 140737488355328) :
    Calls Tryz.prog 34 #[.pointer (some ⟨b, 0, none⟩), .agg #[.int .i64 cap, fl, .int .i64 cr, .bool dn, kp]] w fun e w' => e = .returned (.tuple #[]) ∧ ∃ ao c ao' c',
      DiskC w' b { s with cap := cap, fl := .slice ao zs.length c, cr := cr, dn := dn, kp := .slice ao' ks.length c', ca := 0, dw := false } ∧ w'.ownsRow w.heap.size 3 1 (.slice ao zs.length c) zs.length (iv (zs.mergeSort leI)) ∧
      w'.ownsRow w.heap.size 3 1 (.slice ao' ks.length c') ks.length (iv ks) ∧ Turn [b] w w' := by
  have hf1 := hf.alloc (.cells #[.int .i64 cap, fl, .int .i64 cr, .bool dn, kp] 31)
  have hbl := lt_of hd
  have HK : Hid (ks.length * 8 ≤ 140737488355328) := Lib.hid hz2
  have HZ : Hid (zs.length * 8 ≤ 140737488355328) := Lib.hid hz
  have HZ2 : Hid (zs.length < 4611686018427387904) := Lib.hid (by omega)
  clear hz hz2 hf
  go_enter Tryz.func34, Tryz.ntmps34
  go_wp2_with fail
  refine (copied_int fl zs _ hf1 HZ.out).mono ?_
  rintro e w2 ⟨ao, c, rfl, hown, hg⟩
  have hsz : w.heap.size + 1 ≤ w2.heap.size := by have := hg.size; simpa using this
  have hp : w2.heap[w.heap.size]? = some (.cells #[.int .i64 cap, fl, .int .i64 cr, .bool dn, kp] 31 (0, 0)) := by
    rw [hg.block w.heap.size (by simp) (by simp)]; exact heap_alloc_new _ _
  have t2 : Turn [] w w2 := (Turn.refl [] w).alloc _ |>.trans (Turn.of_none hg)
  have hd2 : DiskC w2 b s := hd.turn t2 (by simp)
  have hk2 : Reads w2 kp (iv ks) := (hk.alloc _).grown hg (by intro a n c _; simp)
  have hown0 := owns_base (base' := w.heap.size) hown (by simp)
  clear hg
  have p1 := cells_of hp 1 fl rfl
  have q1 := free_of hp 1
  go_wp2_with fail
  have hp3 := heap_set hp 1 (.slice ao zs.length c)
  simp at hp3
  have hge : ∀ g, (Value.slice ao zs.length c).ownBlock = some g → g ≠ w.heap.size := by
    intro g hg
    have := (hown.lt g hg).1
    simp at this
    omega
  have hown3 : (w2.setCell ⟨w.heap.size, 1, none⟩ (.slice ao zs.length c)).ownsRow w.heap.size 3 1 (.slice ao zs.length c) zs.length (iv zs) :=
    owns_turn hown0 ((Turn.refl [w.heap.size] w2).set (.inl (by simp)) _ _) (fun g hg => by simpa using hge g hg)
  have t3 : Turn [] w (w2.setCell ⟨w.heap.size, 1, none⟩ (.slice ao zs.length c)) := t2.set (.inr (Nat.le_refl _)) _ _
  have hk3 : Reads (w2.setCell ⟨w.heap.size, 1, none⟩ (.slice ao zs.length c)) kp (iv ks) := hk.grown (row := none) ⟨t3.os, t3.tape, t3.output, t3.size, fun k hk _ => t3.block k hk (by simp)⟩ (by intro a n c _; simp)
  have hs3 : w.heap.size + 1 ≤ (w2.setCell ⟨w.heap.size, 1, none⟩ (.slice ao zs.length c)).heap.size := by simpa [World.setCell] using hsz
  generalize w2.setCell ⟨w.heap.size, 1, none⟩ (.slice ao zs.length c) = w3 at *
  refine (sort_int _ ao c zs w3 hown3 HZ2.out).mono ?_
  rintro e w4 ⟨rfl, hown4, t4⟩
  have hnew : ∀ x, x ∈ (Value.slice ao zs.length c).ownBlock.toList → x ∈ ([] : List Nat) ∨ w.heap.size ≤ x := by
    intro x hx
    have := (hown0.lt x (by simpa using hx)).1
    exact .inr this
  have t5 : Turn [] w w4 := t3.trans' t4 hnew
  have hp4 : w4.heap[w.heap.size]? = some (.cells #[.int .i64 cap, .slice ao zs.length c, .int .i64 cr, .bool dn, kp] 31 (0, 0)) :=
    t4.heap hp3 (fun hm => hge _ (by simpa using hm) rfl)
  have hk4 : Reads w4 kp (iv ks) := hk.grown (row := none) ⟨t5.os, t5.tape, t5.output, t5.size, fun k hk _ => t5.block k hk (by simp)⟩ (by intro a n c _; simp)
  have hs4 : w.heap.size + 1 ≤ w4.heap.size := Nat.le_trans hs3 t4.size
  clear hp3 hp hown3 hown hown0 hk3 hk2 hd2 hk t3 t2 p1 q1 hs3 hsz t4
  have a4 := cells_of hp4 4 kp rfl
  go_wp2_with fail
  refine (copied_int kp ks _ hk4 HK.out).mono ?_
  rintro e w5 ⟨ao', c', rfl, hown5, hg5⟩
  have t6 : Turn [] w w5 := t5.trans (Turn.of_none hg5)
  have hp5 : w5.heap[w.heap.size]? = some (.cells #[.int .i64 cap, .slice ao zs.length c, .int .i64 cr, .bool dn, kp] 31 (0, 0)) := by
    rw [hg5.block w.heap.size (by omega) (by simp)]; exact hp4
  have hd5 : DiskC w5 b s := hd.turn t6 (by simp)
  have hown6 : w5.ownsRow w.heap.size 3 1 (.slice ao zs.length c) zs.length (iv (zs.mergeSort leI)) := owns_turn hown4 (Turn.of_none (F := []) hg5) (by simp)
  have hge5 : ∀ g, (Value.slice ao' ks.length c').ownBlock = some g → g ≠ w.heap.size ∧ g ≠ b := by
    intro g hg
    have := (hown5.lt g hg).1
    omega
  have hge6 : ∀ g, (Value.slice ao zs.length c).ownBlock = some g → g ≠ w.heap.size ∧ g ≠ b := by
    intro g hg
    have := (hown6.lt g hg).1
    exact ⟨hge g hg, by omega⟩
  have hown7 := owns_base (base' := w.heap.size) hown5 (by omega)
  clear hg5 hown5 hown4 hp4 t5 a4 hk4 hs4
  have p0 := cells_of hp5 0 (.int .i64 cap) rfl
  have p1 := cells_of hp5 1 (.slice ao zs.length c) rfl
  have p2 := cells_of hp5 2 (.int .i64 cr) rfl
  have p3 := cells_of hp5 3 (.bool dn) rfl
  have p4 := cells_of hp5 4 kp rfl
  have q4 := free_of hp5 4
  have d0 := hd5.c0
  have d1 := hd5.c1
  have d2 := hd5.c2
  have d3 := hd5.c3
  have d4 := hd5.c4
  have d7 := hd5.c7
  have d8 := hd5.c8
  have e0 := hd5.free 0
  have e1 := hd5.free 1
  have e2 := hd5.free 2
  have e3 := hd5.free 3
  have e4 := hd5.free 4
  have e7 := hd5.free 7
  have e8 := hd5.free 8
  have hne : ¬ b = w.heap.size := by omega
  go_wp2_with fail
  go_end0
  have k1 := ((((((hd5.setNe hne 4 (.slice ao' ks.length c')).set0 cap).set1 (.slice ao zs.length c)).set2 cr).set3 dn).set4 (.slice ao' ks.length c')).set7 0 |>.set8 false
  have u1 := (Turn.refl [w.heap.size, b] w5).set (c := w.heap.size) (.inl (by simp)) 4 (.slice ao' ks.length c')
  have u2 := u1.set (c := b) (.inl (by simp)) 0 (.int .i64 cap)
  have u3 := u2.set (c := b) (.inl (by simp)) 1 (.slice ao zs.length c)
  have u4 := u3.set (c := b) (.inl (by simp)) 2 (.int .i64 cr)
  have u5 := u4.set (c := b) (.inl (by simp)) 3 (.bool dn)
  have u6 := u5.set (c := b) (.inl (by simp)) 4 (.slice ao' ks.length c')
  have u7 := u6.set (c := b) (.inl (by simp)) 7 (.int .i64 0)
  have t7 := u7.set (c := b) (.inl (by simp)) 8 (.bool false)
  refine ⟨rfl, ao, c, ao', c', k1, owns_turn hown6 t7 (fun g hg => by have := hge6 g hg; simp [this]), owns_turn hown7 t7 (fun g hg => by have := hge5 g hg; simp [this]), ?_⟩
  exact (t6.mono (by simp)).trans' t7 (by intro x hx; simp at hx; rcases hx with rfl | rfl <;> simp)
set_option maxHeartbeats 400000 in
theorem new_any (cap cr : Int) (dn : Bool) (fl kp : Value) (zs ks : List Int) (w : World) (hf : Reads w fl (iv zs)) (hk : Reads w kp (iv ks)) (hz : zs.length * 8 ≤ 140737488355328) (hz2 : ks.length * 8 ≤ 140737488355328) :
    Calls Tryz.prog 13 #[.agg #[.int .i64 cap, fl, .int .i64 cr, .bool dn, kp]] w fun e w' => ∃ b ao c ao' c', e = .returned (.pointer (some ⟨b, 0, none⟩)) ∧ w.heap.size ≤ b ∧
      DiskC w' b { cap := cap, fl := .slice ao zs.length c, cr := cr, dn := dn, kp := .slice ao' ks.length c', fs := .map none, sz := 0, ca := 0, dw := false } ∧ w'.ownsRow (b + 1) 3 1 (.slice ao zs.length c) zs.length (iv (zs.mergeSort leI)) ∧
      w'.ownsRow (b + 1) 3 1 (.slice ao' ks.length c') ks.length (iv ks) ∧ w.grownBy w' none := by
  go_enter Tryz.func13, Tryz.ntmps13
  have hd : DiskC ((w.alloc (.cells #[.int .i64 cap, fl, .int .i64 cr, .bool dn, kp] 31)).alloc (.cells #[.int .i64 0, .slice none 0 0, .int .i64 0, .bool false, .slice none 0 0, .map none, .int .i64 0, .int .i64 0, .bool false] 76)) (w.heap.size + 1) { cap := 0, fl := .slice none 0 0, cr := 0, dn := false, kp := .slice none 0 0, fs := .map none, sz := 0, ca := 0, dw := false } := by
    have := heap_alloc_new (w.alloc (.cells #[.int .i64 cap, fl, .int .i64 cr, .bool dn, kp] 31)) (.cells #[.int .i64 0, .slice none 0 0, .int .i64 0, .bool false, .slice none 0 0, .map none, .int .i64 0, .int .i64 0, .bool false] 76)
    simpa [DiskC, DS.cells] using this
  have hf2 := (hf.alloc (.cells #[.int .i64 cap, fl, .int .i64 cr, .bool dn, kp] 31)).alloc (.cells #[.int .i64 0, .slice none 0 0, .int .i64 0, .bool false, .slice none 0 0, .map none, .int .i64 0, .int .i64 0, .bool false] 76)
  have hk2 := (hk.alloc (.cells #[.int .i64 cap, fl, .int .i64 cr, .bool dn, kp] 31)).alloc (.cells #[.int .i64 0, .slice none 0 0, .int .i64 0, .bool false, .slice none 0 0, .map none, .int .i64 0, .int .i64 0, .bool false] 76)
  have HK : Hid (ks.length * 8 ≤ 140737488355328) := Lib.hid hz2
  have HZ : Hid (zs.length * 8 ≤ 140737488355328) := Lib.hid hz
  clear hz hz2 hf hk
  go_wp2_with fail
  refine (begin_any _ _ cap cr dn fl kp zs ks _ hd hf2 hk2 HZ.out HK.out).mono ?_
  rintro e w1 ⟨rfl, ao, c, ao', c', hd1, h1, h2, t⟩
  go_wp2
  go_ret
  refine ⟨_, ao, c, ao', c', rfl, by omega, hd1, by simpa using h1, by simpa using h2, ?_⟩
  have t0 : Turn [] w w1 := (((Turn.refl [] w).alloc _).alloc _).trans' t (by intro x hx; simp at hx; subst hx; simp)
  exact ⟨t0.os, t0.tape, t0.output, t0.size, fun k hk _ => t0.block k hk (by simp)⟩
end Go.Proofs.YthcdkggkoanjpaaGreatDoor
namespace Go.Proofs.YthcdkggkoanjpaaGreatDoor
open Go.RowKit Go.Maps Go.Sort Go.WideMaps
structure FM where
  name : List UInt8
  blk : Nat
  row : Option Nat
  bytes : List UInt8
  sy : Nat
def named (k : List UInt8) (f : FM) : Bool := f.name == k
def Rp (v : Value) : Option (DataW Unit × List MemPlace) :=
  match v with
  | .pointer (some ⟨f, 0, none⟩) => some (.lit (.int .i64 f), [])
  | .pointer none => some (.nil, [])
  | _ => none
def lookD (files : List FM) (k : List UInt8) : DataW Unit :=
  match files.find? (named k) with
  | some f => .lit (.int .i64 f.blk)
  | none => .nil
def ptrOf (files : List FM) (k : List UInt8) : Option Addr := (files.find? (named k)).map fun f => ⟨f.blk, 0, none⟩
def MapAt (w : World) (m : Nat) (files : List FM) : Prop :=
  ∃ D : DataW Unit, w.ownsMap Tryz.prog 9 Rp m files.length D ∧ Maps.size D = files.length ∧ (∀ k, D.atKey (.string k) .nil = lookD files k) ∧ ∀ k, Maps.has D (.string k) = files.any (named k)
theorem law : Keyed Tryz.prog 9 := string_keyed Tryz.underlying9
theorem zero_ptr (w : World) : (zeroValue 99).run Tryz.prog w = .ok (.pointer none) w := by kernel_rfl
theorem Rp_ptr {v : Value} {f : Nat} {ps : List MemPlace} (h : Rp v = some (.lit (.int .i64 f), ps)) : v = .pointer (some ⟨f, 0, none⟩) := by
  unfold Rp at h
  split at h
  · simp only [Option.some.injEq, Prod.mk.injEq, DataW.lit.injEq, Lit.int.injEq, true_and] at h
    rename_i g
    obtain rfl : g = f := by omega
    rfl
  · simp at h
  · simp at h
theorem Rp_nil {v : Value} {ps : List MemPlace} (h : Rp v = some (.nil, ps)) : v = .pointer none := by
  unfold Rp at h
  split at h
  · simp at h
  · rfl
  · simp at h
theorem MapAt.keep {w w' : World} {m : Nat} {files : List FM} (h : MapAt w m files) {F : List Nat} (t : Turn F w w') (hm : m ∉ F) : MapAt w' m files := by
  obtain ⟨D, ⟨es, clock, hb, F', hs, hD⟩, h2⟩ := h
  exact ⟨D, ⟨es, clock, t.heap hb hm, F', hs, hD⟩, h2⟩
theorem MapAt.lt {w : World} {m : Nat} {files : List FM} (h : MapAt w m files) : m < w.heap.size := by
  obtain ⟨D, h1, _⟩ := h; exact h1.lt
theorem MapAt.look {w : World} {m : Nat} {files : List FM} (h : MapAt w m files) (key : ByteArray) (hk : key.size ≤ maxLen) :
    (Instr.lookup 74 (.map (some m)) (.string key) false).run Tryz.prog w = .ok (.pointer (ptrOf files key.data.toList)) w := by
  obtain ⟨D, hown, _, hat, _⟩ := h
  have hkey := keyOf_string_mk Tryz.underlying9 hk
  obtain ⟨v, ps, hrun, hv⟩ := hown.lookup law Tryz.underlying74 (zero_ptr w) (zd := .nil) (zp := []) rfl hkey
  rw [hat] at hv
  rw [hrun]
  unfold Go.Proofs.YthcdkggkoanjpaaGreatDoor.lookD at hv
  unfold ptrOf
  cases hf : files.find? (named key.data.toList) with
  | none => rw [hf] at hv; rw [Rp_nil hv]; rfl
  | some f => rw [hf] at hv; rw [Rp_ptr hv]; rfl
theorem look_noneD (w : World) (key : ByteArray) (hk : key.size ≤ maxLen) :
    (Instr.lookup 74 (.map none) (.string key) false).run Tryz.prog w = .ok (.pointer none) w :=
  look_nil false law Tryz.underlying74 (zero_ptr w) (keyOf_string_mk Tryz.underlying9 hk)
theorem MapAt.perm {w : World} {m : Nat} {files : List FM} (_h : MapAt w m files) (hn : (files.map (·.name)).Nodup) {D : DataW Unit} {n : Nat} (hown : w.ownsMap Tryz.prog 9 Rp m n D) (hh : ∀ k, Maps.has D (.string k) = files.any (named k)) :
    (files.map (·.name)).Perm (strKeys D) := by
  refine Collected.perm (left := fun _ => false) ⟨hn, fun x => ?_⟩ hown law Tryz.underlying9 (fun _ => rfl)
  rw [hh x]
  simp [named]
theorem look_appendD (files : List FM) (f : FM) (hf : files.any (named f.name) = false) (k : List UInt8) : Go.Proofs.YthcdkggkoanjpaaGreatDoor.lookD (files ++ [f]) k = if k = f.name then .lit (.int .i64 f.blk) else Go.Proofs.YthcdkggkoanjpaaGreatDoor.lookD files k := by
  unfold Go.Proofs.YthcdkggkoanjpaaGreatDoor.lookD
  rw [List.find?_append]
  by_cases hk : k = f.name
  · subst hk
    have : files.find? (named f.name) = none := by
      rw [List.find?_eq_none]
      intro x hx he
      have : files.any (named f.name) = true := List.any_eq_true.2 ⟨x, hx, he⟩
      rw [hf] at this; cases this
    simp [this, named]
  · have h1 : named k f = false := by simp [named]; exact fun e => hk e.symm
    simp [hk, h1]
theorem MapAt.put {w' : World} {m : Nat} {files : List FM} {f : FM} {D : DataW Unit} (h1 : Maps.size D = files.length) (h2 : ∀ k, D.atKey (.string k) .nil = Go.Proofs.YthcdkggkoanjpaaGreatDoor.lookD files k) (h3 : ∀ k, Maps.has D (.string k) = files.any (named k))
    (hi : IsMap D) (hT : Tidy D) (hf : files.any (named f.name) = false)
    (hown : w'.ownsMap Tryz.prog 9 Rp m (files.length + 1) (D.put (.string f.name) (.lit (.int .i64 f.blk)))) : MapAt w' m (files ++ [f]) := by
  refine ⟨_, by simpa using hown, ?_, fun k => ?_, fun k => ?_⟩
  · rw [size_put hT, h3, hf]; simp [h1]
  · rw [look_appendD files f hf k]
    by_cases hk : k = f.name
    · subst hk
      rw [atKey_put_same hi (by simp [WideAt.IsKeyLit]), if_pos rfl]
    · rw [atKey_put_other (by simpa using hk), if_neg hk, h2]
  · by_cases hk : k = f.name
    · subst hk
      rw [has_put_same hi (by simp [WideAt.IsKeyLit])]
      simp [named]
    · rw [has_put_other (by simpa using hk), h3]
      have : named k f = false := by simp [named]; exact fun e => hk e.symm
      simp [this]
end Go.Proofs.YthcdkggkoanjpaaGreatDoor
namespace Go.Proofs.YthcdkggkoanjpaaGreatDoor
open Go.RowKit Go.Maps Go.Sort Go.WideMaps
structure DM where
  cap : Int
  cr : Int
  ca : Int
  dn : Bool
  dw : Bool
  fail : List Int
  keep : List Int
  files : List FM
  mp : Option Nat
  fr : Option Nat
  kr : Option Nat
def total (l : List FM) : Nat := (l.map fun f => f.bytes.length).sum
def FM.foot (f : FM) : List Nat := f.blk :: f.row.toList
def foot (b : Nat) (S : DM) : List Nat := b :: (S.mp.toList ++ S.files.flatMap FM.foot)
def FileAt (w : World) (base : Nat) (f : FM) : Prop :=
  ∃ ao c, FileC w f.blk (.slice ao f.bytes.length c) f.sy ∧ w.ownsRow base 5 1 (.slice ao f.bytes.length c) f.bytes.length (bv f.bytes) ∧ (Value.slice ao f.bytes.length c).ownBlock = f.row ∧ f.sy ≤ f.bytes.length
def Lists (w : World) (base b : Nat) (S : DM) (s : DS) : Prop :=
  ∃ ao c ao' c', s.fl = .slice ao S.fail.length c ∧ s.kp = .slice ao' S.keep.length c' ∧ w.ownsRow base 3 1 (.slice ao S.fail.length c) S.fail.length (iv S.fail) ∧ w.ownsRow base 3 1 (.slice ao' S.keep.length c') S.keep.length (iv S.keep) ∧
    (Value.slice ao S.fail.length c).ownBlock = S.fr ∧ (Value.slice ao' S.keep.length c').ownBlock = S.kr ∧ (∀ g, S.fr = some g → g ∉ foot b S) ∧ (∀ g, S.kr = some g → g ∉ foot b S)
structure Rep (w : World) (base b : Nat) (S : DM) (s : DS) : Prop where
  disk : DiskC w b s
  cap : s.cap = S.cap
  cr : s.cr = S.cr
  ca : s.ca = S.ca
  dn : s.dn = S.dn
  dw : s.dw = S.dw
  fs : s.fs = .map S.mp
  lists : Lists w base b S s
  mapN : S.mp = none → S.files = []
  mapS : ∀ m, S.mp = some m → MapAt w m S.files
  files : ∀ f ∈ S.files, FileAt w base f
  apart1 : ∀ m, S.mp = some m → b ≠ m
  apart2 : ∀ f ∈ S.files, b ∉ f.foot ∧ (∀ m, S.mp = some m → m ∉ f.foot) ∧ f.foot.Nodup
  apart3 : S.files.Pairwise fun f g => ∀ k ∈ f.foot, k ∉ g.foot
  low : ∀ k ∈ foot b S, base ≤ k
  names : (S.files.map (·.name)).Nodup
  sorted : S.fail.Pairwise (· ≤ ·)
theorem FileAt.keep {w w' : World} {base : Nat} {f : FM} (h : FileAt w base f) {F : List Nat} (t : Turn F w w') (hF : ∀ k ∈ f.foot, k ∉ F) : FileAt w' base f := by
  obtain ⟨ao, c, h1, h2, h3, h4⟩ := h
  exact ⟨ao, c, h1.turn t (hF _ (by simp [FM.foot])), owns_turn h2 t (fun g hg => hF g (by rw [h3] at hg; simp [FM.foot, hg])), h3, h4⟩
theorem FileAt.lt {w : World} {base : Nat} {f : FM} (h : FileAt w base f) : ∀ k ∈ f.foot, k < w.heap.size := by
  obtain ⟨ao, c, h1, h2, h3, h4⟩ := h
  intro k hk
  simp only [FM.foot, List.mem_cons, Option.mem_toList] at hk
  rcases hk with rfl | hk
  · exact h1.lt
  · exact (h2.lt k (h3.trans hk)).2
theorem Rep.lt {w : World} {base b : Nat} {S : DM} {s : DS} (h : Rep w base b S s) : ∀ k ∈ foot b S, k < w.heap.size := by
  intro k hk
  simp only [foot, List.mem_cons, List.mem_append, Option.mem_toList, List.mem_flatMap] at hk
  rcases hk with rfl | hk | ⟨f, hf, hk⟩
  · exact h.disk.lt
  · exact (h.mapS k hk).lt
  · exact (h.files f hf).lt k hk
theorem Rep.keep {w w' : World} {base b : Nat} {S : DM} {s : DS} (h : Rep w base b S s) {F : List Nat} (t : Turn F w w') (hF : ∀ k ∈ foot b S, k ∉ F) (hfr : ∀ g, S.fr = some g → g ∉ F) (hkr : ∀ g, S.kr = some g → g ∉ F) : Rep w' base b S s where
  disk := h.disk.turn t (hF b (by simp [foot]))
  cap := h.cap
  cr := h.cr
  ca := h.ca
  dn := h.dn
  dw := h.dw
  fs := h.fs
  lists := by
    obtain ⟨ao, c, ao', c', h1, h2, h3, h4, h5, h6, h7, h8⟩ := h.lists
    exact ⟨ao, c, ao', c', h1, h2, owns_turn h3 t (fun g hg => hfr g (h5.symm.trans hg)), owns_turn h4 t (fun g hg => hkr g (h6.symm.trans hg)), h5, h6, h7, h8⟩
  mapN := h.mapN
  mapS := fun m hm => (h.mapS m hm).keep t (hF m (by simp [foot, hm]))
  files := fun f hf => (h.files f hf).keep t (fun k hk => hF k (by simp only [foot, List.mem_cons, List.mem_append, List.mem_flatMap]; exact .inr (.inr ⟨f, hf, hk⟩)))
  apart1 := h.apart1
  apart2 := h.apart2
  apart3 := h.apart3
  low := h.low
  names := h.names
  sorted := h.sorted
theorem Rep.new {w w' : World} {base b : Nat} {S : DM} {s : DS} (h : Rep w base b S s) (t : Turn [] w w') : Rep w' base b S s := h.keep t (by simp) (by simp) (by simp)
theorem Rep.look {w : World} {base b : Nat} {S : DM} {s : DS} (h : Rep w base b S s) (key : ByteArray) (hk : key.size ≤ maxLen) :
    (Instr.lookup 74 s.fs (.string key) false).run Tryz.prog w = .ok (.pointer (ptrOf S.files key.data.toList)) w := by
  rw [h.fs]
  cases hm : S.mp with
  | none => rw [look_noneD w key hk]; simp [h.mapN hm, ptrOf]
  | some m => exact (h.mapS m hm).look key hk
end Go.Proofs.YthcdkggkoanjpaaGreatDoor
namespace Go.Proofs.YthcdkggkoanjpaaGreatDoor
open Go.RowKit Go.Maps Go.Sort Go.WideMaps
def addTo (l : List UInt8) (row : Option Nat) (g : FM) : FM := { g with bytes := g.bytes ++ l, row := row }
theorem FileAt.own {w : World} {base : Nat} {f : FM} (h : FileAt w base f) : ∃ ao c, FileC w f.blk (.slice ao f.bytes.length c) f.sy ∧ w.ownsRow base 5 1 (.slice ao f.bytes.length c) f.bytes.length (bv f.bytes) ∧ (Value.slice ao f.bytes.length c).ownBlock = f.row ∧ f.sy ≤ f.bytes.length := h
theorem box_at {w w1 : World} {F : List Nat} {v : Value} {t : TypeId} (h : Turn F (w.alloc (.cells #[v] t)) w1) (hF : w.heap.size ∉ F) : w1.cell? ⟨w.heap.size, 0, none⟩ = some v :=
  cells_of (h.heap (heap_alloc_new _ _) hF) 0 _ rfl
end Go.Proofs.YthcdkggkoanjpaaGreatDoor
