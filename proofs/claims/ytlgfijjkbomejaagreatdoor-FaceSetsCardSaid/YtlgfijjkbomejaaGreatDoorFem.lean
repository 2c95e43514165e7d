/- Of a module that shows nothing. Numbers and types by name. -/
import Derived.Test.YtlgfijjkbomejaaGreatDoorProg
import Derived.Shelf.SlSortCmp.WholeK
import Derived.Ground.SlsfProg
import Derived.Test.YtlgfijjkbomejaaGreatDoorFfh
import Derived.Shelf.SlSortCmp.NoneTotal
/-
  DERIVED: THE SHELF's CONTRACTS AT THIS DUMP, IN PLAIN WORDS (tools/lay-plain.mjs out of 'YtlgfijjkbomejaaGreatDoorFso.lean', which tools/lay-shelf.mjs wrote): THE SAME DECLARATIONS UNDER THE SAME NAMES: 'import', 'namespace', 'open', 'def', 'theorem' AND NOTHING ELSE: no command of the shelf's: FOR A HAND-IN. Each laying: the table of numbers ('.._ren') and one theorem, a field a fact of the dump's own or the kernel's comparison; each contract: ONE APPLICATION.
-/
namespace Go.Proofs
open Go.Shelf
def Tryz.sortVar_ren : Go.Shelf.Ren := ⟨fun | 6 => 31 | 15 => 77 | 14 => 76 | 28 => 117 | 29 => 118 | 20 => 109 | 21 => 110 | 22 => 111 | 23 => 112 | 24 => 113 | 25 => 114 | 26 => 115 | 27 => 116 | 46 => 138 | 47 => 139 | 48 => 140 | 49 => 141 | 50 => 142 | 57 => 165 | n => n, fun | 22 => 23 | 24 => 76 | 25 => 82 | 3 => 3 | 39 => 131 | 0 => 0 | 53 => 173 | 55 => 152 | 4 => 4 | 46 => 167 | 45 => 166 | 50 => 138 | 5 => 5 | 9 => 9 | 66 => 192 | 70 => 196 | 76 => 218 | 77 => 219 | n => n, fun | n => n⟩
theorem Tryz.sortVar : Go.Proofs.SlLaysF0.n6 Tryz.prog Tryz.sortVar_ren := {
  mixed := by kernel_rfl
  f6 := ⟨Tryz.f31.name, by decide, Tryz.func31.trans (congrArg some (by kernel_rfl))⟩
  f14 := ⟨Tryz.f76.name, by decide, Tryz.func76.trans (congrArg some (by kernel_rfl))⟩
  f15 := Tryz.func77.trans (congrArg some (by kernel_rfl))
  f20 := ⟨Tryz.f109.name, by decide, Tryz.func109.trans (congrArg some (by kernel_rfl))⟩
  f21 := ⟨Tryz.f110.name, by decide, Tryz.func110.trans (congrArg some (by kernel_rfl))⟩
  f22 := ⟨Tryz.f111.name, by decide, Tryz.func111.trans (congrArg some (by kernel_rfl))⟩
  f23 := ⟨Tryz.f112.name, by decide, Tryz.func112.trans (congrArg some (by kernel_rfl))⟩
  f24 := ⟨Tryz.f113.name, by decide, Tryz.func113.trans (congrArg some (by kernel_rfl))⟩
  f25 := ⟨Tryz.f114.name, by decide, Tryz.func114.trans (congrArg some (by kernel_rfl))⟩
  f26 := ⟨Tryz.f115.name, by decide, Tryz.func115.trans (congrArg some (by kernel_rfl))⟩
  f27 := ⟨Tryz.f116.name, by decide, Tryz.func116.trans (congrArg some (by kernel_rfl))⟩
  f28 := Tryz.func117.trans (congrArg some (by kernel_rfl))
  f29 := Tryz.func118.trans (congrArg some (by kernel_rfl))
  f46 := ⟨Tryz.f138.name, by decide, Tryz.func138.trans (congrArg some (by kernel_rfl))⟩
  f47 := Tryz.func139.trans (congrArg some (by kernel_rfl))
  f48 := Tryz.func140.trans (congrArg some (by kernel_rfl))
  f49 := ⟨Tryz.f141.name, by decide, Tryz.func141.trans (congrArg some (by kernel_rfl))⟩
  f50 := ⟨Tryz.f142.name, by decide, Tryz.func142.trans (congrArg some (by kernel_rfl))⟩
  f57 := ⟨Tryz.f165.name, by decide, Tryz.func165.trans (congrArg some (by kernel_rfl))⟩
  t0 := Tryz.underlying0
  a0 := Tryz.isAgg0
  z0 := Tryz.sizeOf0
  v0 := Tryz.zeroValue0
  t3 := Tryz.underlying3
  a3 := Tryz.isAgg3
  z3 := Tryz.sizeOf3
  v3 := Tryz.zeroValue3
  t4 := Tryz.underlying4
  a4 := Tryz.isAgg4
  z4 := Tryz.sizeOf4
  v4 := Tryz.zeroValue4
  t5 := Tryz.underlying5
  a5 := Tryz.isAgg5
  z5 := Tryz.sizeOf5
  v5 := Tryz.zeroValue5
  t9 := Tryz.underlying9
  a9 := Tryz.isAgg9
  z9 := Tryz.sizeOf9
  v9 := Tryz.zeroValue9
  t22 := Tryz.underlying23
  a22 := Tryz.isAgg23
  z22 := Tryz.sizeOf23
  v22 := Tryz.zeroValue23
  t25 := Tryz.underlying82
  a25 := Tryz.isAgg82
  z25 := Tryz.sizeOf82
  v25 := Tryz.zeroValue82
  t39 := Tryz.underlying131
  a39 := Tryz.isAgg131
  z39 := Tryz.sizeOf131
  v39 := Tryz.zeroValue131
  t45 := Tryz.underlying166
  a45 := Tryz.isAgg166
  z45 := Tryz.sizeOf166
  v45 := Tryz.zeroValue166
  t46 := Tryz.underlying167
  a46 := Tryz.isAgg167
  z46 := Tryz.sizeOf167
  v46 := Tryz.zeroValue167
  t50 := Tryz.underlying138
  a50 := Tryz.isAgg138
  z50 := Tryz.sizeOf138
  v50 := Tryz.zeroValue138
  t53 := Tryz.underlying173
  a53 := Tryz.isAgg173
  z53 := Tryz.sizeOf173
  v53 := Tryz.zeroValue173
  t55 := Tryz.underlying152
  a55 := Tryz.isAgg152
  z55 := Tryz.sizeOf152
  v55 := Tryz.zeroValue152
  t66 := Tryz.underlying192
  a66 := Tryz.isAgg192
  z66 := Tryz.sizeOf192
  v66 := Tryz.zeroValue192
  t70 := Tryz.underlying196
  a70 := Tryz.isAgg196
  z70 := Tryz.sizeOf196
  v70 := Tryz.zeroValue196
  t76 := Tryz.underlying218
  a76 := Tryz.isAgg218
  z76 := Tryz.sizeOf218
  v76 := Tryz.zeroValue218
  t77 := Tryz.underlying219
  a77 := Tryz.isAgg219
  z77 := Tryz.sizeOf219
  v77 := Tryz.zeroValue219 }
def Tryz.sortSig_ren : Go.Shelf.Ren := ⟨fun | 6 => 34 | 15 => 77 | 14 => 79 | 28 => 117 | 29 => 118 | 20 => 119 | 21 => 120 | 22 => 121 | 23 => 122 | 24 => 123 | 25 => 124 | 26 => 125 | 27 => 126 | 46 => 143 | 47 => 139 | 48 => 140 | 49 => 144 | 50 => 145 | 57 => 166 | n => n, fun | 22 => 30 | 24 => 78 | 25 => 84 | 3 => 3 | 39 => 131 | 0 => 0 | 53 => 173 | 55 => 152 | 4 => 4 | 46 => 167 | 45 => 166 | 50 => 138 | 5 => 5 | 9 => 9 | 66 => 192 | 70 => 196 | 76 => 218 | 77 => 219 | n => n, fun | n => n⟩
theorem Tryz.sortSig : Go.Proofs.SlLaysF0.n6 Tryz.prog Tryz.sortSig_ren := {
  mixed := by kernel_rfl
  f6 := ⟨Tryz.f34.name, by decide, Tryz.func34.trans (congrArg some (by kernel_rfl))⟩
  f14 := ⟨Tryz.f79.name, by decide, Tryz.func79.trans (congrArg some (by kernel_rfl))⟩
  f15 := Tryz.func77.trans (congrArg some (by kernel_rfl))
  f20 := ⟨Tryz.f119.name, by decide, Tryz.func119.trans (congrArg some (by kernel_rfl))⟩
  f21 := ⟨Tryz.f120.name, by decide, Tryz.func120.trans (congrArg some (by kernel_rfl))⟩
  f22 := ⟨Tryz.f121.name, by decide, Tryz.func121.trans (congrArg some (by kernel_rfl))⟩
  f23 := ⟨Tryz.f122.name, by decide, Tryz.func122.trans (congrArg some (by kernel_rfl))⟩
  f24 := ⟨Tryz.f123.name, by decide, Tryz.func123.trans (congrArg some (by kernel_rfl))⟩
  f25 := ⟨Tryz.f124.name, by decide, Tryz.func124.trans (congrArg some (by kernel_rfl))⟩
  f26 := ⟨Tryz.f125.name, by decide, Tryz.func125.trans (congrArg some (by kernel_rfl))⟩
  f27 := ⟨Tryz.f126.name, by decide, Tryz.func126.trans (congrArg some (by kernel_rfl))⟩
  f28 := Tryz.func117.trans (congrArg some (by kernel_rfl))
  f29 := Tryz.func118.trans (congrArg some (by kernel_rfl))
  f46 := ⟨Tryz.f143.name, by decide, Tryz.func143.trans (congrArg some (by kernel_rfl))⟩
  f47 := Tryz.func139.trans (congrArg some (by kernel_rfl))
  f48 := Tryz.func140.trans (congrArg some (by kernel_rfl))
  f49 := ⟨Tryz.f144.name, by decide, Tryz.func144.trans (congrArg some (by kernel_rfl))⟩
  f50 := ⟨Tryz.f145.name, by decide, Tryz.func145.trans (congrArg some (by kernel_rfl))⟩
  f57 := ⟨Tryz.f166.name, by decide, Tryz.func166.trans (congrArg some (by kernel_rfl))⟩
  t0 := Tryz.underlying0
  a0 := Tryz.isAgg0
  z0 := Tryz.sizeOf0
  v0 := Tryz.zeroValue0
  t3 := Tryz.underlying3
  a3 := Tryz.isAgg3
  z3 := Tryz.sizeOf3
  v3 := Tryz.zeroValue3
  t4 := Tryz.underlying4
  a4 := Tryz.isAgg4
  z4 := Tryz.sizeOf4
  v4 := Tryz.zeroValue4
  t5 := Tryz.underlying5
  a5 := Tryz.isAgg5
  z5 := Tryz.sizeOf5
  v5 := Tryz.zeroValue5
  t9 := Tryz.underlying9
  a9 := Tryz.isAgg9
  z9 := Tryz.sizeOf9
  v9 := Tryz.zeroValue9
  t22 := Tryz.underlying30
  a22 := Tryz.isAgg30
  z22 := Tryz.sizeOf30
  v22 := Tryz.zeroValue30
  t25 := Tryz.underlying84
  a25 := Tryz.isAgg84
  z25 := Tryz.sizeOf84
  v25 := Tryz.zeroValue84
  t39 := Tryz.underlying131
  a39 := Tryz.isAgg131
  z39 := Tryz.sizeOf131
  v39 := Tryz.zeroValue131
  t45 := Tryz.underlying166
  a45 := Tryz.isAgg166
  z45 := Tryz.sizeOf166
  v45 := Tryz.zeroValue166
  t46 := Tryz.underlying167
  a46 := Tryz.isAgg167
  z46 := Tryz.sizeOf167
  v46 := Tryz.zeroValue167
  t50 := Tryz.underlying138
  a50 := Tryz.isAgg138
  z50 := Tryz.sizeOf138
  v50 := Tryz.zeroValue138
  t53 := Tryz.underlying173
  a53 := Tryz.isAgg173
  z53 := Tryz.sizeOf173
  v53 := Tryz.zeroValue173
  t55 := Tryz.underlying152
  a55 := Tryz.isAgg152
  z55 := Tryz.sizeOf152
  v55 := Tryz.zeroValue152
  t66 := Tryz.underlying192
  a66 := Tryz.isAgg192
  z66 := Tryz.sizeOf192
  v66 := Tryz.zeroValue192
  t70 := Tryz.underlying196
  a70 := Tryz.isAgg196
  z70 := Tryz.sizeOf196
  v70 := Tryz.zeroValue196
  t76 := Tryz.underlying218
  a76 := Tryz.isAgg218
  z76 := Tryz.sizeOf218
  v76 := Tryz.zeroValue218
  t77 := Tryz.underlying219
  a77 := Tryz.isAgg219
  z77 := Tryz.sizeOf219
  v77 := Tryz.zeroValue219 }
end Go.Proofs

namespace Go.Proofs.YtlgfijjkbomejaaGreatDoor
open Go.RowKit Go.Lib Go.Sort
set_option maxRecDepth 100000

theorem load_face {w : World} {M : Nat} {x y : Value} {t : TypeId} (h : w.heap[M]? = some (.cells #[x, y] t)) : (loadVar 32 ⟨M, 0, none⟩).run Tryz.prog w = .ok (.agg #[x, y]) w := by
  refine run_load_agg w ⟨M, 0, none⟩ 32 [x, y] _ (fun j v hj => ?_) Tryz.underlying32 rfl (show (Tryz.prog.info? 32).map (·.size) = some 2 by decide)
  rw [Addr.add_lit, Nat.zero_add]
  exact cellsN h j v (by simpa using hj)
theorem res_face {fn : Func} {p q : Nat} (h : fn.results = #[.cell p 32, .tmp q]) (tmps : Array Value) (w : World) (M : Nat) (x y : Value) {t : TypeId} (hM : w.heap[M]? = some (.cells #[x, y] t)) (z : Value)
    (h2 : tmps.getD p undef = .pointer (some ⟨M, 0, none⟩)) (h3 : tmps.getD q undef = z) : (results fn tmps).run Tryz.prog w = .ok (.tuple #[.agg #[x, y], z]) w := by
  have hv := load_face hM
  have h2' : tmps[p]?.getD undef = .pointer (some ⟨M, 0, none⟩) := by simpa using h2
  have h3' : tmps[q]?.getD undef = z := by simpa using h3
  simp [results, h, h2', h3', asAddr, hv]
theorem res_face1 {fn : Func} {p : Nat} (h : fn.results = #[.cell p 32]) (tmps : Array Value) (w : World) (M : Nat) (x y : Value) {t : TypeId} (hM : w.heap[M]? = some (.cells #[x, y] t))
    (h2 : tmps.getD p undef = .pointer (some ⟨M, 0, none⟩)) : (results fn tmps).run Tryz.prog w = .ok (.agg #[x, y]) w := by
  have hv := load_face hM
  have h2' : tmps[p]?.getD undef = .pointer (some ⟨M, 0, none⟩) := by simpa using h2
  simp [results, h, h2', asAddr, hv]

theorem three_new (w : World) (o1 o2 o3 : Obj) : Grow w (((w.alloc o1).alloc o2).alloc o3) ∧ (((w.alloc o1).alloc o2).alloc o3).heap[w.heap.size]? = some o1 ∧ (((w.alloc o1).alloc o2).alloc o3).heap[w.heap.size + 1]? = some o2 ∧ (((w.alloc o1).alloc o2).alloc o3).heap[w.heap.size + 1 + 1]? = some o3 := by
  have g1 : Grow w (w.alloc o1) := (Below.refl _ w).alloc (Nat.le_refl _) _
  have g2 : Grow (w.alloc o1) ((w.alloc o1).alloc o2) := (Below.refl _ _).alloc (Nat.le_refl _) _
  have g3 : Grow ((w.alloc o1).alloc o2) (((w.alloc o1).alloc o2).alloc o3) := (Below.refl _ _).alloc (Nat.le_refl _) _
  have s1 : (w.alloc o1).heap.size = w.heap.size + 1 := by simp
  have s2 : ((w.alloc o1).alloc o2).heap.size = w.heap.size + 1 + 1 := by simp
  have n1 := heap_alloc_new w o1
  have n2 := heap_alloc_new (w.alloc o1) o2
  have n3 := heap_alloc_new ((w.alloc o1).alloc o2) o3
  rw [s1] at n2
  rw [s2] at n3
  exact ⟨Grow.trans g1 (Grow.trans g2 g3), (g3.block _ (by omega)).trans ((g2.block _ (by omega)).trans n1), (g3.block _ (by omega)).trans n2, n3⟩
def mdlE : Mdl := ⟨[109], 0, [], [], []⟩
theorem trows_nil {α : Type} (w : World) (size : Nat) (R : α → List Value → Prop) : TRows w size R (.slice none 0 0) [] :=
  ⟨Nat.zero_le _, [], ⟨none, 0, rfl, by simp, Nat.le_refl _, fun _ => ⟨rfl, rfl⟩, fun a h => by cases h⟩, rfl⟩
theorem few_empty : Few mdlE := ⟨by decide, ⟨by decide, fun i h => by cases h⟩, ⟨by decide, fun i h => by cases h⟩, ⟨by decide, fun i h => by cases h⟩, fun i h => by cases h⟩
set_option maxHeartbeats 4000000 in
theorem of_empty (w : World) : Calls Tryz.prog 10 #[.agg #[.string ⟨#[109]⟩, .int .i64 0, .slice none 0 0, .slice none 0 0, .slice none 0 0], .agg #[.slice none 0 0, .slice none 0 0, .slice none 0 0, .slice none 0 0, .int .i64 0, .int .i64 0]] w
    fun e w' => e = .returned (.tuple #[.agg #[.slice none 0 0, .slice none 0 0], .slice none 0 0]) ∧ Grow w w' := by
  have P1 := Lib.hid (fun W => faults_walk mdlE (.slice none 0 0) (.slice none 0 0) (.slice none 0 0) none 0 0 [] (.slice none 0 0) (.slice none 0 0) (.slice none 0 0) (.int .i64 0) (.int .i64 0) W ⟨trows_nil _ _ _, trows_nil _ _ _, trows_nil _ _ _⟩ few_empty (StrV.nil W) (by decide))
  have P2 := Lib.hid (fun W => AnyF.slices_SortFunc_none { Tryz.sortVar with } none 0 (.func (.func 32) #[] #[]) W)
  have P3 := Lib.hid (fun W => AnyF.slices_SortFunc_none { Tryz.sortSig with } none 0 (.func (.func 35) #[] #[]) W)
  have hD : fauD (setF []) mdlE = [] := rfl
  rw [hD] at P1
  obtain ⟨w1, hw1⟩ : ∃ w1, ((w.alloc (.cells #[.string ⟨#[109]⟩, .int .i64 0, .slice none 0 0, .slice none 0 0, .slice none 0 0] 26)).alloc (.cells #[.slice none 0 0, .slice none 0 0, .slice none 0 0, .slice none 0 0, .int .i64 0, .int .i64 0] 40)).alloc (.cells #[.slice none 0 0, .slice none 0 0] 32) = w1 := ⟨_, rfl⟩
  obtain ⟨hg1, hb0, hb1, hb2⟩ := three_new w (.cells #[.string ⟨#[109]⟩, .int .i64 0, .slice none 0 0, .slice none 0 0, .slice none 0 0] 26) (.cells #[.slice none 0 0, .slice none 0 0, .slice none 0 0, .slice none 0 0, .int .i64 0, .int .i64 0] 40) (.cells #[.slice none 0 0, .slice none 0 0] 32)
  rw [hw1] at hg1 hb0 hb1 hb2
  have a0 : w1.cell? ⟨w.heap.size, 0, none⟩ = some (.string ⟨#[109]⟩) := cellsN hb0 0 _ rfl
  have a1 : w1.cell? ⟨w.heap.size, 1, none⟩ = some (.int .i64 0) := cellsN hb0 1 _ rfl
  have a2 : w1.cell? ⟨w.heap.size, 2, none⟩ = some (.slice none 0 0) := cellsN hb0 2 _ rfl
  have a3 : w1.cell? ⟨w.heap.size, 3, none⟩ = some (.slice none 0 0) := cellsN hb0 3 _ rfl
  have a4 : w1.cell? ⟨w.heap.size, 4, none⟩ = some (.slice none 0 0) := cellsN hb0 4 _ rfl
  have c0 : w1.cell? ⟨w.heap.size + 1, 0, none⟩ = some (.slice none 0 0) := cellsN hb1 0 _ rfl
  have c1 : w1.cell? ⟨w.heap.size + 1, 1, none⟩ = some (.slice none 0 0) := cellsN hb1 1 _ rfl
  have c2 : w1.cell? ⟨w.heap.size + 1, 2, none⟩ = some (.slice none 0 0) := cellsN hb1 2 _ rfl
  have c3 : w1.cell? ⟨w.heap.size + 1, 3, none⟩ = some (.slice none 0 0) := cellsN hb1 3 _ rfl
  have c4 : w1.cell? ⟨w.heap.size + 1, 4, none⟩ = some (.int .i64 0) := cellsN hb1 4 _ rfl
  have c5 : w1.cell? ⟨w.heap.size + 1, 5, none⟩ = some (.int .i64 0) := cellsN hb1 5 _ rfl
  have HB := Lib.hid (And.intro hg1 (And.intro hb0 hb2))
  obtain ⟨R, hR⟩ : ∃ R, w.heap.size + 1 + 1 = R := ⟨_, rfl⟩
  rw [hR] at HB
  clear hg1 hb0 hb1 hb2
  go_enter Tryz.func10, Tryz.ntmps10
  go_upto_region 2 with (go_at_call 29; refine (P1.out w1).mono ?_; rintro e w2 ⟨ad, n, c, rfl, ho, hg⟩; have HO := Lib.hid (And.intro ho.1 hg); clear ho hg)
  clear hw1 a0 a1 a2 a3 a4 c0 c1 c2 c3 c4 c5
  obtain rfl : n = 0 := HO.out.1
  have HG2 := HO.out.2
  have hb0 := (HG2.block _ (Array.getElem?_eq_some_iff.1 HB.out.2.1).1).trans HB.out.2.1
  have hb2 := (HG2.block _ (Array.getElem?_eq_some_iff.1 HB.out.2.2).1).trans HB.out.2.2
  obtain ⟨w3, hw3⟩ : ∃ w3, w2.alloc (.cells #[.slice none 0 0, .slice none 0 0] 32) = w3 := ⟨_, rfl⟩
  have hg3 : Grow w2 w3 := by rw [← hw3]; exact (Below.refl _ w2).alloc (Nat.le_refl _) _
  have hb3 : w3.heap[w2.heap.size]? = some (.cells #[.slice none 0 0, .slice none 0 0] 32) := by rw [← hw3]; exact heap_alloc_new _ _
  have hbm := (hg3.block _ (Array.getElem?_eq_some_iff.1 hb0).1).trans hb0
  have hbr := (hg3.block _ (Array.getElem?_eq_some_iff.1 hb2).1).trans hb2
  have m3 : w3.cell? ⟨w.heap.size, 3, none⟩ = some (.slice none 0 0) := cellsN hbm 3 _ rfl
  have m4 : w3.cell? ⟨w.heap.size, 4, none⟩ = some (.slice none 0 0) := cellsN hbm 4 _ rfl
  have r0 : w3.cell? ⟨R, 0, none⟩ = some (.slice none 0 0) := cellsN hbr 0 _ rfl
  have r1 : w3.cell? ⟨R, 1, none⟩ = some (.slice none 0 0) := cellsN hbr 1 _ rfl
  have fr0 := frozen_of_row w3 R 0 _ _ hbr
  have fr1 := frozen_of_row w3 R 1 _ _ hbr
  have f0 : w3.cell? ⟨w2.heap.size, 0, none⟩ = some (.slice none 0 0) := cellsN hb3 0 _ rfl
  have f1 : w3.cell? ⟨w2.heap.size, 1, none⟩ = some (.slice none 0 0) := cellsN hb3 1 _ rfl
  have HE : Hid (Grow w w3 ∧ w.heap.size ≤ R ∧ w3.heap[R]? = some (.cells #[.slice none 0 0, .slice none 0 0] 32)) := Lib.hid ⟨Grow.trans HB.out.1 (Grow.trans HG2 hg3), by omega, hbr⟩
  clear hb0 hb2 hg3 hb3 hbm hbr HG2 hR
  have hlt0 : ¬ (0 : Int) < 0 := by omega
  go_wp2_with fail
  clear hw3
  go_loopw [23] (fun i wr => i = .int .i64 0 ∧ w3 = wr) (fun _ _ => 0)
  case atStart => exact ⟨rfl, rfl⟩
  case round =>
    obtain ⟨rfl, rfl⟩ := hrel
    go_wp2_with fail
    go_loopw [41] (fun i wr2 => i = .int .i64 0 ∧ w3 = wr2) (fun _ _ => 0)
    case atStart => exact ⟨rfl, rfl⟩
    case round =>
      obtain ⟨rfl, rfl⟩ := hrel
      go_wp2_with (first | (go_at_call 31; refine (P2.out _).mono ?_; rintro e w' ⟨rfl, rfl⟩) | (go_at_call 34; refine (P3.out _).mono ?_; rintro e w' ⟨rfl, rfl⟩))
      exact bodyPost_ret (res_face rfl _ _ R (.slice none 0 0) (.slice none 0 0) (heap_setCell_same _ _ _ _ _ _ (heap_setCell_same _ _ _ _ _ _ HE.out.2.2)) _ rfl rfl) rfl ⟨rfl, below_set (below_set HE.out.1 HE.out.2.1 0 _) HE.out.2.1 1 _⟩

end Go.Proofs.YtlgfijjkbomejaaGreatDoor
