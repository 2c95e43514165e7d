/- 'begin', 'New' with any lists. Numbers and types by name. -/
import Derived.Test.YtmpjjnjggiipjaaWri
namespace Go.Proofs.Ytmpjjnjggiipjaa
open Go.RowKit Go.Maps Go.Sort

theorem owns_turn {F : List Nat} {w w' : World} {base e size : Nat} {v : Value} {n : Nat} {xs : List Value} (h : w.ownsRow base e size v n xs) (t : Turn F w w') (hF : ∀ g, v.ownBlock = some g → g ∉ F) : w'.ownsRow base e size v n xs := by
  refine ⟨h.1, ?_⟩
  rcases h.2 with hn | ⟨g, cap, cur, rfl, hb, hg, rest⟩
  · exact .inl hn
  · exact .inr ⟨g, cap, cur, rfl, hb, t.heap hg (hF g rfl), rest⟩

set_option maxHeartbeats 800000 in
theorem begin_any (b : Nat) (s : DS) (cap cr : Int) (dn : Bool) (fl kp : Value) (zs ks : List Int) (w : World) (hd : DiskC w b s) (hf : Reads w fl (iv zs)) (hk : Reads w kp (iv ks)) (hz : zs.length * 8 ≤ 140737488355328) (hz2 : ks.length * 8 ≤ 140737488355328) :
    Calls Try.prog 18 #[.pointer (some ⟨b, 0, none⟩), .agg #[.int .i64 cap, fl, .int .i64 cr, .bool dn, kp]] w fun e w' => e = .returned (.tuple #[]) ∧ ∃ ao c ao' c',
      DiskC w' b { s with cap := cap, fl := .slice ao zs.length c, cr := cr, dn := dn, kp := .slice ao' ks.length c', ca := 0, dw := false } ∧ w'.ownsRow w.heap.size 3 1 (.slice ao zs.length c) zs.length (iv (zs.mergeSort leI)) ∧
      w'.ownsRow w.heap.size 3 1 (.slice ao' ks.length c') ks.length (iv ks) ∧ Turn [b] w w' := by
  have hf1 := hf.alloc (.cells #[.int .i64 cap, fl, .int .i64 cr, .bool dn, kp] 24)
  have hbl := lt_of hd
  have HK : Hid (ks.length * 8 ≤ 140737488355328) := Lib.hid hz2
  have HZ : Hid (zs.length * 8 ≤ 140737488355328) := Lib.hid hz
  have HZ2 : Hid (zs.length < 4611686018427387904) := Lib.hid (by omega)
  clear hz hz2 hf
  go_enter Try.func18, Try.ntmps18
  go_wp2_with fail
  refine (copied_int fl zs _ hf1 HZ.out).mono ?_
  rintro e w2 ⟨ao, c, rfl, hown, hg⟩
  have hsz : w.heap.size + 1 ≤ w2.heap.size := by have := hg.size; simpa using this
  have hp : w2.heap[w.heap.size]? = some (.cells #[.int .i64 cap, fl, .int .i64 cr, .bool dn, kp] 24 (0, 0)) := by
    rw [hg.block w.heap.size (by simp) (by simp)]; exact heap_alloc_new _ _
  have t2 : Turn [] w w2 := (Turn.refl [] w).alloc _ |>.trans (Turn.of_none hg)
  have hd2 : DiskC w2 b s := hd.turn t2 (by simp)
  have hk2 : Reads w2 kp (iv ks) := (hk.alloc _).grown hg (by intro a n c _; simp)
  have hown0 := owns_base (base' := w.heap.size) hown (by simp)
  clear hg
  have p1 := cells_of hp 1 fl rfl
  have q1 := free_of hp 1
  go_wp2_with fail
  have hp3 := heap_set hp 1 (.slice ao zs.length c)
  simp at hp3
  have hge : ∀ g, (Value.slice ao zs.length c).ownBlock = some g → g ≠ w.heap.size := by
    intro g hg
    have := (hown.lt g hg).1
    simp at this
    omega
  have hown3 : (w2.setCell ⟨w.heap.size, 1, none⟩ (.slice ao zs.length c)).ownsRow w.heap.size 3 1 (.slice ao zs.length c) zs.length (iv zs) :=
    owns_turn hown0 ((Turn.refl [w.heap.size] w2).set (.inl (by simp)) _ _) (fun g hg => by simpa using hge g hg)
  have t3 : Turn [] w (w2.setCell ⟨w.heap.size, 1, none⟩ (.slice ao zs.length c)) := t2.set (.inr (Nat.le_refl _)) _ _
  have hk3 : Reads (w2.setCell ⟨w.heap.size, 1, none⟩ (.slice ao zs.length c)) kp (iv ks) := hk.grown (row := none) ⟨t3.os, t3.tape, t3.output, t3.size, fun k hk _ => t3.block k hk (by simp)⟩ (by intro a n c _; simp)
  have hs3 : w.heap.size + 1 ≤ (w2.setCell ⟨w.heap.size, 1, none⟩ (.slice ao zs.length c)).heap.size := by simpa [World.setCell] using hsz
  generalize w2.setCell ⟨w.heap.size, 1, none⟩ (.slice ao zs.length c) = w3 at *
  refine (sort_int _ ao c zs w3 hown3 HZ2.out).mono ?_
  rintro e w4 ⟨rfl, hown4, t4⟩
  have hnew : ∀ x, x ∈ (Value.slice ao zs.length c).ownBlock.toList → x ∈ ([] : List Nat) ∨ w.heap.size ≤ x := by
    intro x hx
    have := (hown0.lt x (by simpa using hx)).1
    exact .inr this
  have t5 : Turn [] w w4 := t3.trans' t4 hnew
  have hp4 : w4.heap[w.heap.size]? = some (.cells #[.int .i64 cap, .slice ao zs.length c, .int .i64 cr, .bool dn, kp] 24 (0, 0)) :=
    t4.heap hp3 (fun hm => hge _ (by simpa using hm) rfl)
  have hk4 : Reads w4 kp (iv ks) := hk.grown (row := none) ⟨t5.os, t5.tape, t5.output, t5.size, fun k hk _ => t5.block k hk (by simp)⟩ (by intro a n c _; simp)
  have hs4 : w.heap.size + 1 ≤ w4.heap.size := Nat.le_trans hs3 t4.size
  clear hp3 hp hown3 hown hown0 hk3 hk2 hd2 hk t3 t2 p1 q1 hs3 hsz t4
  have a4 := cells_of hp4 4 kp rfl
  go_wp2_with fail
  refine (copied_int kp ks _ hk4 HK.out).mono ?_
  rintro e w5 ⟨ao', c', rfl, hown5, hg5⟩
  have t6 : Turn [] w w5 := t5.trans (Turn.of_none hg5)
  have hp5 : w5.heap[w.heap.size]? = some (.cells #[.int .i64 cap, .slice ao zs.length c, .int .i64 cr, .bool dn, kp] 24 (0, 0)) := by
    rw [hg5.block w.heap.size (by omega) (by simp)]; exact hp4
  have hd5 : DiskC w5 b s := hd.turn t6 (by simp)
  have hown6 : w5.ownsRow w.heap.size 3 1 (.slice ao zs.length c) zs.length (iv (zs.mergeSort leI)) := owns_turn hown4 (Turn.of_none (F := []) hg5) (by simp)
  have hge5 : ∀ g, (Value.slice ao' ks.length c').ownBlock = some g → g ≠ w.heap.size ∧ g ≠ b := by
    intro g hg
    have := (hown5.lt g hg).1
    omega
  have hge6 : ∀ g, (Value.slice ao zs.length c).ownBlock = some g → g ≠ w.heap.size ∧ g ≠ b := by
    intro g hg
    have := (hown6.lt g hg).1
    exact ⟨hge g hg, by omega⟩
  have hown7 := owns_base (base' := w.heap.size) hown5 (by omega)
  clear hg5 hown5 hown4 hp4 t5 a4 hk4 hs4
  have p0 := cells_of hp5 0 (.int .i64 cap) rfl
  have p1 := cells_of hp5 1 (.slice ao zs.length c) rfl
  have p2 := cells_of hp5 2 (.int .i64 cr) rfl
  have p3 := cells_of hp5 3 (.bool dn) rfl
  have p4 := cells_of hp5 4 kp rfl
  have q4 := free_of hp5 4
  have d0 := hd5.c0
  have d1 := hd5.c1
  have d2 := hd5.c2
  have d3 := hd5.c3
  have d4 := hd5.c4
  have d7 := hd5.c7
  have d8 := hd5.c8
  have e0 := hd5.free 0
  have e1 := hd5.free 1
  have e2 := hd5.free 2
  have e3 := hd5.free 3
  have e4 := hd5.free 4
  have e7 := hd5.free 7
  have e8 := hd5.free 8
  have hne : ¬ b = w.heap.size := by omega
  go_wp2_with fail
  go_end0
  have k1 := ((((((hd5.setNe hne 4 (.slice ao' ks.length c')).set0 cap).set1 (.slice ao zs.length c)).set2 cr).set3 dn).set4 (.slice ao' ks.length c')).set7 0 |>.set8 false
  have u1 := (Turn.refl [w.heap.size, b] w5).set (c := w.heap.size) (.inl (by simp)) 4 (.slice ao' ks.length c')
  have u2 := u1.set (c := b) (.inl (by simp)) 0 (.int .i64 cap)
  have u3 := u2.set (c := b) (.inl (by simp)) 1 (.slice ao zs.length c)
  have u4 := u3.set (c := b) (.inl (by simp)) 2 (.int .i64 cr)
  have u5 := u4.set (c := b) (.inl (by simp)) 3 (.bool dn)
  have u6 := u5.set (c := b) (.inl (by simp)) 4 (.slice ao' ks.length c')
  have u7 := u6.set (c := b) (.inl (by simp)) 7 (.int .i64 0)
  have t7 := u7.set (c := b) (.inl (by simp)) 8 (.bool false)
  refine ⟨rfl, ao, c, ao', c', k1, owns_turn hown6 t7 (fun g hg => by have := hge6 g hg; simp [this]), owns_turn hown7 t7 (fun g hg => by have := hge5 g hg; simp [this]), ?_⟩
  exact (t6.mono (by simp)).trans' t7 (by intro x hx; simp at hx; rcases hx with rfl | rfl <;> simp)

set_option maxHeartbeats 400000 in
theorem new_any (cap cr : Int) (dn : Bool) (fl kp : Value) (zs ks : List Int) (w : World) (hf : Reads w fl (iv zs)) (hk : Reads w kp (iv ks)) (hz : zs.length * 8 ≤ 140737488355328) (hz2 : ks.length * 8 ≤ 140737488355328) :
    Calls Try.prog 6 #[.agg #[.int .i64 cap, fl, .int .i64 cr, .bool dn, kp]] w fun e w' => ∃ b ao c ao' c', e = .returned (.pointer (some ⟨b, 0, none⟩)) ∧ w.heap.size ≤ b ∧
      DiskC w' b { cap := cap, fl := .slice ao zs.length c, cr := cr, dn := dn, kp := .slice ao' ks.length c', fs := .map none, sz := 0, ca := 0, dw := false } ∧ w'.ownsRow (b + 1) 3 1 (.slice ao zs.length c) zs.length (iv (zs.mergeSort leI)) ∧
      w'.ownsRow (b + 1) 3 1 (.slice ao' ks.length c') ks.length (iv ks) ∧ w.grownBy w' none := by
  go_enter Try.func6, Try.ntmps6
  have hd : DiskC ((w.alloc (.cells #[.int .i64 cap, fl, .int .i64 cr, .bool dn, kp] 24)).alloc (.cells #[.int .i64 0, .slice none 0 0, .int .i64 0, .bool false, .slice none 0 0, .map none, .int .i64 0, .int .i64 0, .bool false] 51)) (w.heap.size + 1) { cap := 0, fl := .slice none 0 0, cr := 0, dn := false, kp := .slice none 0 0, fs := .map none, sz := 0, ca := 0, dw := false } := by
    have := heap_alloc_new (w.alloc (.cells #[.int .i64 cap, fl, .int .i64 cr, .bool dn, kp] 24)) (.cells #[.int .i64 0, .slice none 0 0, .int .i64 0, .bool false, .slice none 0 0, .map none, .int .i64 0, .int .i64 0, .bool false] 51)
    simpa [DiskC, DS.cells] using this
  have hf2 := (hf.alloc (.cells #[.int .i64 cap, fl, .int .i64 cr, .bool dn, kp] 24)).alloc (.cells #[.int .i64 0, .slice none 0 0, .int .i64 0, .bool false, .slice none 0 0, .map none, .int .i64 0, .int .i64 0, .bool false] 51)
  have hk2 := (hk.alloc (.cells #[.int .i64 cap, fl, .int .i64 cr, .bool dn, kp] 24)).alloc (.cells #[.int .i64 0, .slice none 0 0, .int .i64 0, .bool false, .slice none 0 0, .map none, .int .i64 0, .int .i64 0, .bool false] 51)
  have HK : Hid (ks.length * 8 ≤ 140737488355328) := Lib.hid hz2
  have HZ : Hid (zs.length * 8 ≤ 140737488355328) := Lib.hid hz
  clear hz hz2 hf hk
  go_wp2_with fail
  refine (begin_any _ _ cap cr dn fl kp zs ks _ hd hf2 hk2 HZ.out HK.out).mono ?_
  rintro e w1 ⟨rfl, ao, c, ao', c', hd1, h1, h2, t⟩
  go_wp2
  go_ret
  refine ⟨_, ao, c, ao', c', rfl, by omega, hd1, by simpa using h1, by simpa using h2, ?_⟩
  have t0 : Turn [] w w1 := (((Turn.refl [] w).alloc _).alloc _).trans' t (by intro x hx; simp at hx; subst hx; simp)
  exact ⟨t0.os, t0.tape, t0.output, t0.size, fun k hk _ => t0.block k hk (by simp)⟩

end Go.Proofs.Ytmpjjnjggiipjaa
