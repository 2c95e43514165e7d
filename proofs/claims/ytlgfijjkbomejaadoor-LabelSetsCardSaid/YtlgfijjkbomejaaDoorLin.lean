/- slices.BinarySearch and slices.Insert at lists of texts; the code's with. Numbers and types by name. -/
import Derived.Test.YtlgfijjkbomejaaDoorProg
import Derived.Shelf.Spec.SearchS
import Derived.Shelf.Spec.SlicesInsertGrow
import Derived.Ground.Names2Prog
import Derived.Test.YtlgfijjkbomejaaDoorLra
/-
  DERIVED: THE SHELF's CONTRACTS AT THIS DUMP, IN PLAIN WORDS (tools/lay-plain.mjs out of 'YtlgfijjkbomejaaDoorIns.lean', which tools/lay-shelf.mjs wrote): THE SAME DECLARATIONS UNDER THE SAME NAMES: 'import', 'namespace', 'open', 'def', 'theorem' AND NOTHING ELSE: no command of the shelf's: FOR A HAND-IN. Each laying: the table of numbers ('.._ren') and one theorem, a field a fact of the dump's own or the kernel's comparison; each contract: ONE APPLICATION.
-/
namespace Go.Proofs
open Go.Shelf
def Tryd.laysBS_ren : Go.Shelf.Ren := ⟨fun | 26 => 22 | 33 => 28 | 34 => 29 | 38 => 36 | n => n, fun | 24 => 27 | 9 => 9 | 3 => 3 | 4 => 4 | 40 => 22 | 0 => 0 | n => n, fun | n => n⟩
theorem Tryd.laysBS : Go.Proofs.Lays2.n26 Tryd.prog Tryd.laysBS_ren := {
  mixed := by kernel_rfl
  f26 := Tryd.func22.trans (congrArg some (by kernel_rfl))
  f33 := Tryd.func28.trans (congrArg some (by kernel_rfl))
  f34 := Tryd.func29.trans (congrArg some (by kernel_rfl))
  f38 := Tryd.func36.trans (congrArg some (by kernel_rfl))
  t0 := Tryd.underlying0
  a0 := Tryd.isAgg0
  z0 := Tryd.sizeOf0
  v0 := Tryd.zeroValue0
  t3 := Tryd.underlying3
  a3 := Tryd.isAgg3
  z3 := Tryd.sizeOf3
  v3 := Tryd.zeroValue3
  t4 := Tryd.underlying4
  a4 := Tryd.isAgg4
  z4 := Tryd.sizeOf4
  v4 := Tryd.zeroValue4
  t9 := Tryd.underlying9
  a9 := Tryd.isAgg9
  z9 := Tryd.sizeOf9
  v9 := Tryd.zeroValue9
  t24 := Tryd.underlying27
  a24 := Tryd.isAgg27
  z24 := Tryd.sizeOf27
  v24 := Tryd.zeroValue27
  t40 := Tryd.underlying22
  a40 := Tryd.isAgg22
  z40 := Tryd.sizeOf22
  v40 := Tryd.zeroValue22 }
def Tryd.laysIN_ren : Go.Shelf.Ren := ⟨fun | 22 => 23 | 29 => 30 | 30 => 31 | 36 => 37 | 17 => 44 | n => n, fun | 24 => 27 | 9 => 9 | 3 => 3 | 4 => 4 | 0 => 0 | n => n, fun | n => n⟩
theorem Tryd.laysIN : Go.Proofs.Lays2.n22 Tryd.prog Tryd.laysIN_ren := {
  mixed := by kernel_rfl
  f17 := Tryd.func44.trans (congrArg some (by kernel_rfl))
  f22 := Tryd.func23.trans (congrArg some (by kernel_rfl))
  f29 := Tryd.func30.trans (congrArg some (by kernel_rfl))
  f30 := Tryd.func31.trans (congrArg some (by kernel_rfl))
  f36 := Tryd.func37.trans (congrArg some (by kernel_rfl))
  t0 := Tryd.underlying0
  a0 := Tryd.isAgg0
  z0 := Tryd.sizeOf0
  v0 := Tryd.zeroValue0
  t3 := Tryd.underlying3
  a3 := Tryd.isAgg3
  z3 := Tryd.sizeOf3
  v3 := Tryd.zeroValue3
  t4 := Tryd.underlying4
  a4 := Tryd.isAgg4
  z4 := Tryd.sizeOf4
  v4 := Tryd.zeroValue4
  t9 := Tryd.underlying9
  a9 := Tryd.isAgg9
  z9 := Tryd.sizeOf9
  v9 := Tryd.zeroValue9
  t24 := Tryd.underlying27
  a24 := Tryd.isAgg27
  z24 := Tryd.sizeOf27
  v24 := Tryd.zeroValue27
  i9 := by kernel_rfl }
end Go.Proofs

namespace Go.Proofs.YtlgfijjkbomejaaDoor
open Go.RowKit Go.Lib Go.Sort
set_option maxRecDepth 100000

def owL (xs : List Value) (o : Nat) : List Value → List Value
  | [] => xs
  | v :: r => owL (xs.set o v) (o + 1) r
theorem owL_length : ∀ (vs xs : List Value) (o : Nat), (owL xs o vs).length = xs.length
  | [], _, _ => rfl
  | v :: r, xs, o => by unfold owL; rw [owL_length r, List.length_set]
theorem owL_get : ∀ (vs xs : List Value) (o k : Nat), o + vs.length ≤ xs.length → (owL xs o vs)[k]? = if o ≤ k ∧ k < o + vs.length then vs[k - o]? else xs[k]?
  | [], xs, o, k, _ => by rw [if_neg (by simp)]; rfl
  | v :: r, xs, o, k, h => by
    simp only [List.length_cons] at h
    unfold owL
    rw [owL_get r _ _ _ (by rw [List.length_set]; omega)]
    by_cases h1 : o + 1 ≤ k ∧ k < o + 1 + r.length
    · rw [if_pos h1, if_pos (by simp only [List.length_cons]; omega), show k - o = (k - (o + 1)) + 1 by omega, List.getElem?_cons_succ]
    · rw [if_neg h1]
      by_cases h2 : k = o
      · subst h2
        rw [List.getElem?_set_self (by omega), if_pos (by simp), Nat.sub_self]
        rfl
      · rw [List.getElem?_set_ne (by omega), if_neg (by simp only [List.length_cons]; omega)]
theorem heap_setCellsL {b : Nat} {t : TypeId} {fr : Nat × Nat} : ∀ (vs : List Value) (o : Nat) (w : World) (cur : Array Value), w.heap[b]? = some (.cells cur t fr) → ∃ cur' : Array Value, (w.setCells b o vs).heap[b]? = some (.cells cur' t fr) ∧ cur'.toList = owL cur.toList o vs
  | [], o, w, cur, h => ⟨cur, h, rfl⟩
  | v :: r, o, w, cur, h => by
    obtain ⟨cur', h1, h2⟩ := heap_setCellsL r (o + 1) _ _ (heap_set h o v)
    refine ⟨cur', h1, ?_⟩
    rw [h2, Array.toList_setIfInBounds]
    rfl
theorem below_setsL {B b : Nat} (hb : B ≤ b) {a : World} : ∀ (vs : List Value) (o : Nat) (w : World), Below B a w → Below B a (w.setCells b o vs)
  | [], _, _, h => h
  | v :: r, o, _, h => below_setsL hb r (o + 1) _ (below_set h hb o v)

theorem chg_setsL {F : List Nat} {b : Nat} {a : World} (hb : b ∈ F ∨ a.heap.size ≤ b) : ∀ (vs : List Value) (o : Nat) (w : World), Chg F a w → Chg F a (w.setCells b o vs)
  | [], _, _, h => h
  | v :: r, o, _, h => chg_setsL hb r (o + 1) _ (h.set hb o v)
theorem tgt_get {xs : List Value} {K : Nat} {x : Value} (hK : K ≤ xs.length) (k : Nat) : (xs.take K ++ x :: xs.drop K)[k]? = if k < K then xs[k]? else if k = K then some x else xs[k - 1]? := by
  by_cases h1 : k < K
  · rw [if_pos h1, List.getElem?_append_left (by simp; omega), List.getElem?_take, if_pos h1]
  · rw [if_neg h1, List.getElem?_append_right (by simp; omega)]
    have e : (xs.take K).length = K := by simp; omega
    rw [e]
    by_cases h2 : k = K
    · subst h2; simp
    · rw [if_neg h2, show k - K = (k - K - 1) + 1 by omega, List.getElem?_cons_succ, List.getElem?_drop]
      congr 1
      omega
theorem tgt_take {xs ys : List Value} {K : Nat} {x : Value} (hK : K ≤ xs.length) (h : ∀ k, k < xs.length + 1 → ys[k]? = if k < K then xs[k]? else if k = K then some x else xs[k - 1]?) : ys.take (xs.length + 1) = xs.take K ++ x :: xs.drop K := by
  apply List.ext_getElem?
  intro k
  rw [tgt_get hK]
  by_cases hk : k < xs.length + 1
  · rw [List.getElem?_take, if_pos hk, h k hk]
  · rw [List.getElem?_take, if_neg hk, if_neg (by omega), if_neg (by omega), List.getElem?_eq_none (by omega)]

set_option maxHeartbeats 2000000 in
theorem ins_str (base : Nat) (ao : Option Addr) (n c K : Nat) (L : List (List UInt8)) (s : List UInt8) (w : World) (hown : OwnS w base (.slice ao n c) n L) (hK : K ≤ n) (hb : base ≤ w.heap.size) (hn : n ≤ 100000) (vb : Nat) (hv : w.heap[vb]? = some (.cells #[.string (tx s)] 9 (0, 0))) (hvb : ∀ g, ao = some ⟨g, 0, none⟩ → vb ≠ g) :
    Calls Tryd.prog 23 #[.slice ao n c, .int .i64 (K : Int), .slice (some ⟨vb, 0, none⟩) 1 1] w (InsTold w base (.slice ao n c) (L.take K ++ s :: L.drop K)) := by
  have hvs : ∀ j v, [Value.string (tx s)][j]? = some v → w.cell? ⟨vb, 0 + j, none⟩ = some v := fun j v hj => by rw [Nat.zero_add]; exact cellsN hv j v (by simpa using hj)
  have h1v : ∀ v ∈ [Value.string (tx s)], v.oneCell' = true := by intro v hm; simp at hm; subst hm; rfl
  have hnL := hown.1
  have hxl : (sx L).length = n := by rw [sx_length]; exact hnL.symm
  have hres : ∀ (w' : World) (g c' : Nat) (cur : Array Value), base ≤ g → w'.heap[g]? = some (.cells cur 9 (0, 0)) → n + 1 ≤ c' → c' ≤ maxLen → cur.size = c' → (∀ k, k < n + 1 → cur.toList[k]? = if k < K then (sx L)[k]? else if k = K then some (.string (tx s)) else (sx L)[k - 1]?) → OwnS w' base (.slice (some ⟨g, 0, none⟩) (n + 1) c') (n + 1) (L.take K ++ s :: L.drop K) := by
    intro w' g c' cur h1 h2 h3 h4 h5 h6
    have hl : n + 1 = (L.take K ++ s :: L.drop K).length := by simp; omega
    refine ⟨hl, by rw [sx_length]; omega, .inr ⟨g, c', cur, rfl, h1, h2, h3, h4, by omega, ?_⟩⟩
    have hsx : sx (L.take K ++ s :: L.drop K) = (sx L).take K ++ .string (tx s) :: (sx L).drop K := by simp [sx, List.map_take, List.map_drop]
    rw [hsx, Nat.mul_one, ← hxl]
    exact tgt_take (by omega) (by rw [hxl]; exact h6)
  have hge : ∀ (W : World) (m cc : Nat) (t : TypeId), m ≤ 1000000 → m ≤ grownCap W m cc t ∧ grownCap W m cc t ≤ maxLen := fun W m cc t hm => ⟨grownCap_ge W m cc t, grownCap_le_maxLen W m cc t (by unfold maxLen; omega)⟩
  have hzs : ∀ m, (Builtin.zeroCells (Value.string ⟨#[]⟩).cells m).size = m := fun m => by rw [size_zeroCells]; simp [Value.cells]
  have hgrown : ∀ (W : World) (cc : Nat) (k : Nat), k < n + 1 → ((sx L ++ [Value.string (tx s)]).toArray ++ Builtin.zeroCells (Value.string ⟨#[]⟩).cells (grownCap W (n + 1) cc 9 - (n + 1))).toList[k]? = (sx L ++ [Value.string (tx s)])[k]? := by
    intro W cc k hk
    rw [Array.toList_append, List.getElem?_append_left (by simp [hxl]; omega)]
  have hend : ∀ k, k < n + 1 → (sx L ++ [Value.string (tx s)])[k]? = if k < n then (sx L)[k]? else if k = n then some (.string (tx s)) else (sx L)[k - 1]? := by
    intro k hk
    by_cases h1 : k < n
    · rw [if_pos h1, List.getElem?_append_left (by omega)]
    · obtain rfl : k = n := by omega
      rw [if_neg h1, if_pos rfl, List.getElem?_append_right (by omega), hxl, Nat.sub_self]
      rfl
  rcases hown.2.2 with ⟨e, hz⟩ | ⟨g, cap, cur, e, hbg, hg, hnc, hcm, hcs, ht⟩
  · cases e
    obtain rfl : K = 0 := by omega
    obtain rfl : L = [] := List.eq_nil_of_length_eq_zero hnL.symm
    have P := Any2.slices_Insert_string_end_grow Tryd.laysIN none 0 0 vb 0 1 1 [] [.string (tx s)] w (by decide) (by decide) (by decide) (by decide) rfl rfl (fun _ => rfl) (fun a h => by cases h) hvs h1v
    refine Calls.mono P ?_
    rintro e w' ⟨rfl, rfl⟩
    refine ⟨_, _, _, rfl, hres _ _ _ _ hb (heap_alloc_new _ _) (hge _ _ _ _ (by decide)).1 (hge _ _ _ _ (by decide)).2 ?_ ?_, ((Chg.refl _ w).drewN 1).alloc _, .inr fun k hk => by simp only [Value.ownBlock, Option.some.injEq] at hk; omega⟩
    · have := (hge w (0 + 1) 0 9 (by decide)).1
      rw [Array.size_append, hzs]
      simp only [List.nil_append, List.size_toArray, List.length_cons, List.length_nil]
      exact Nat.add_sub_cancel' this
    · intro k hk
      exact (hgrown w 0 k hk).trans (hend k hk)
  · cases e
    have hcell : ∀ k v, cur.toList[k]? = some v → w.cell? ⟨g, k, none⟩ = some v := fun k v hk => cellsN hg k v (by simpa using hk)
    have hcur : ∀ k, k < n → cur.toList[k]? = (sx L)[k]? := fun k hk => by rw [← ht, List.getElem?_take, if_pos (by omega)]
    have hcsz : cur.size = c := by omega
    have hcl : cur.toList.length = c := by simpa using hcsz
    have hcs' : ∀ j v, (sx L)[j]? = some v → w.cell? ⟨g, 0 + j, none⟩ = some v := fun j v hj => by
      have hjn : j < n := by have := (List.getElem?_eq_some_iff.1 hj).1; omega
      rw [Nat.zero_add]
      exact hcell j v (by rw [hcur j hjn]; exact hj)
    have hsome : ∀ j, j < c → (w.cell? ⟨g, 0 + j, none⟩).isSome = true := fun j hj => by
      rw [Nat.zero_add, hcell j _ (List.getElem?_eq_getElem (by omega))]
      rfl
    have hfree : ∀ j, w.frozen? ⟨g, j, none⟩ = false := fun j => frozen_of_row _ _ _ _ _ hg
    have h63 : c ≤ 9223372036854775807 := by unfold maxLen at hcm; omega
    have hvg := hvb g rfl
    by_cases hKn : K = n
    · subst hKn
      by_cases hroom : K + 1 ≤ c
      · have P := Any2.slices_Insert_string_end_room Tryd.laysIN g 0 K c vb 0 1 1 [.string (tx s)] w (by decide) hroom h63 rfl (fun j hj => by have := hsome (K + j) (by omega); rwa [Nat.zero_add] at this ⊢) (fun j _ => hfree _) hvs h1v
        refine Calls.mono P ?_
        rintro e w' ⟨rfl, rfl⟩
        obtain ⟨cur', h1, h2⟩ := heap_setCellsL [.string (tx s)] (0 + K) w cur hg
        refine ⟨_, _, _, rfl, hres _ _ _ _ hbg h1 hroom hcm (by rw [← hcsz]; have := congrArg List.length h2; rw [owL_length] at this; simpa using this) fun k hk => ?_, chg_setsL (.inl (rowF_mem.2 rfl)) _ _ _ (Chg.refl _ w), .inl rfl⟩
        rw [h2, Nat.zero_add, owL_get _ _ _ _ (by simp; omega)]
        by_cases h3 : k < K
        · rw [if_neg (by omega), if_pos h3, hcur k h3]
        · obtain rfl : k = K := by omega
          rw [if_pos (by simp), if_neg h3, if_pos rfl, Nat.sub_self]
          rfl
      · have P := Any2.slices_Insert_string_end_grow Tryd.laysIN (some ⟨g, 0, none⟩) K c vb 0 1 1 (sx L) [.string (tx s)] w (by decide) hnc (by omega) (by omega) hxl rfl (fun h => by cases h) (fun a ha j v hj => by cases ha; rw [Addr.add_lit]; exact hcs' j v hj) hvs h1v
        refine Calls.mono P ?_
        rintro e w' ⟨rfl, rfl⟩
        refine ⟨_, _, _, rfl, hres _ _ _ _ hb (heap_alloc_new _ _) (hge _ _ _ _ (by omega)).1 (hge _ _ _ _ (by omega)).2 ?_ ?_, ((Chg.refl _ w).drewN 1).alloc _, .inr fun k hk => by simp only [Value.ownBlock, Option.some.injEq] at hk; omega⟩
        · have := (hge w (K + 1) c 9 (by omega)).1
          rw [Array.size_append, hzs]
          simp only [List.size_toArray, List.length_append, List.length_cons, List.length_nil, hxl]
          exact Nat.add_sub_cancel' this
        · intro k hk
          exact (hgrown w c k hk).trans (hend k hk)
    · have hKl : K < n := by omega
      have hdl : ((sx L).drop K).length = n - K := by simp [hxl]
      by_cases hroom : n + 1 ≤ c
      · have P := Any2.slices_Insert_string_shift Tryd.laysIN g 0 n c K vb 0 1 1 (sx L) [.string (tx s)] w hKl (by decide) hroom h63 hvg hxl rfl hcs' (fun j hj => hsome j (by omega)) (fun j _ => hfree _) hvs (sx_one L) h1v 9 9 1 c (by simp [World.shape?, hv]) (by simp [World.shape?, hg, hcsz]) (by omega) (frozen_of_row _ _ _ _ _ hv) (frozen_of_row _ _ _ _ _ hv)
        refine Calls.mono P ?_
        rintro e w' ⟨rfl, rfl⟩
        obtain ⟨cur1, h1, h2⟩ := heap_setCellsL ((sx L).drop K) (0 + (K + 1)) w.drew cur hg
        obtain ⟨cur2, h3, h4⟩ := heap_setCellsL [.string (tx s)] (0 + K) _ cur1 h1
        have hl1 : cur1.toList.length = c := by rw [h2, owL_length, hcl]
        refine ⟨_, _, _, rfl, hres _ _ _ _ hbg h3 hroom hcm (by have := congrArg List.length h4; rw [owL_length, hl1] at this; simpa using this) fun k hk => ?_, chg_setsL (.inl (rowF_mem.2 rfl)) _ _ _ (chg_setsL (.inl (rowF_mem.2 rfl)) _ _ _ ((Chg.refl _ w).drewN 1)), .inl rfl⟩
        rw [h4, Nat.zero_add, owL_get _ _ _ _ (by simp only [List.length_cons, List.length_nil]; omega), h2, Nat.zero_add, owL_get _ _ _ _ (by rw [hdl]; omega), hdl]
        by_cases h5 : k < K
        · rw [if_neg (by omega), if_neg (by omega), if_pos h5, hcur k (by omega)]
        · rw [if_neg h5]
          by_cases h6 : k = K
          · subst h6
            rw [if_pos (by simp), if_pos rfl, Nat.sub_self]
            rfl
          · rw [if_neg (by simp only [List.length_cons, List.length_nil]; omega), if_pos (by omega), if_neg h6, List.getElem?_drop]
            congr 1
            omega
      · have P := Any2.slices_Insert_string_grow Tryd.laysIN g 0 n c K vb 0 1 1 (sx L) [.string (tx s)] w hKl (by decide) hnc (by omega) (by omega) hxl rfl hcs' hvs (sx_one L) h1v
        refine Calls.mono P ?_
        rintro e w' ⟨rfl, rfl⟩
        have hg0 := heap_alloc_new w (.cells (((sx L).take K).toArray ++ Builtin.zeroCells (Value.string ⟨#[]⟩).cells (n + 1 - K) ++ Builtin.zeroCells (Value.string ⟨#[]⟩).cells (grownCap w (n + 1) c 9 - (n + 1))) 9)
        obtain ⟨cur1, h1, h2⟩ := heap_setCellsL [.string (tx s)] K (w.alloc (.cells (((sx L).take K).toArray ++ Builtin.zeroCells (Value.string ⟨#[]⟩).cells (n + 1 - K) ++ Builtin.zeroCells (Value.string ⟨#[]⟩).cells (grownCap w (n + 1) c 9 - (n + 1))) 9)).drew _ hg0
        obtain ⟨cur2, h3, h4⟩ := heap_setCellsL ((sx L).drop K) (K + 1) (((w.alloc (.cells (((sx L).take K).toArray ++ Builtin.zeroCells (Value.string ⟨#[]⟩).cells (n + 1 - K) ++ Builtin.zeroCells (Value.string ⟨#[]⟩).cells (grownCap w (n + 1) c 9 - (n + 1))) 9)).drew.setCells w.heap.size K [.string (tx s)]).drew) cur1 h1
        have hgc := hge w (n + 1) c 9 (by omega)
        have hsz : (((sx L).take K).toArray ++ Builtin.zeroCells (Value.string ⟨#[]⟩).cells (n + 1 - K) ++ Builtin.zeroCells (Value.string ⟨#[]⟩).cells (grownCap w (n + 1) c 9 - (n + 1))).toList.length = grownCap w (n + 1) c 9 := by
          rw [Array.length_toList, Array.size_append, Array.size_append, hzs, hzs]
          simp only [List.size_toArray, List.length_take, hxl]
          omega
        have hl1 : cur1.toList.length = grownCap w (n + 1) c 9 := by rw [h2, owL_length, hsz]
        refine ⟨_, _, _, rfl, hres _ _ _ _ hb h3 hgc.1 hgc.2 (show cur2.size = grownCap w (n + 1) c 9 by have := congrArg List.length h4; rw [owL_length, hl1] at this; simpa using this) fun k hk => ?_, chg_setsL (.inr (Nat.le_refl _)) _ _ _ ((chg_setsL (.inr (Nat.le_refl _)) _ _ _ (((Chg.refl _ w).alloc _).drewN 1)).drewN 1), .inr fun k hk => by simp only [Value.ownBlock, Option.some.injEq] at hk; omega⟩
        rw [h4, owL_get _ _ _ _ (by rw [hdl]; omega), hdl, h2, owL_get _ _ _ _ (by simp only [List.length_cons, List.length_nil]; omega)]
        by_cases h5 : k < K
        · rw [if_neg (by omega), if_neg (by omega), if_pos h5, Array.toList_append, Array.toList_append, List.getElem?_append_left (by simp [hxl, hzs]; omega), List.getElem?_append_left (by simp [hxl]; omega), List.getElem?_take, if_pos h5]
        · rw [if_neg h5]
          by_cases h6 : k = K
          · subst h6
            rw [if_neg (by omega), if_pos (by simp), if_pos rfl, Nat.sub_self]
            rfl
          · rw [if_pos (by omega), if_neg h6, List.getElem?_drop]
            congr 1
            omega

theorem rise_from {L : List (List UInt8)} (h : RiseT L) {K : Nat} {s : List UInt8} (hhi : ∀ x, L[K]? = some x → ¬ x < s) : ∀ t y, K ≤ t → L[t]? = some y → ¬ y < s := by
  intro t y ht hy
  rcases Nat.eq_or_lt_of_le ht with e | hlt
  · subst e
    exact hhi y hy
  · obtain ⟨h3, h4⟩ := List.getElem?_eq_some_iff.1 hy
    have h5 := List.pairwise_iff_getElem.1 h K t (by omega) h3 hlt
    rw [h4] at h5
    exact fun h6 => hhi _ (List.getElem?_eq_getElem (by omega)) (List.lt_trans h5 h6)

def seaS (L : List (List UInt8)) (s : List UInt8) (t : Nat) : ByteArray := match L[t]? with | some y => tx y | none => tx s
/-- The search in a rising list. -/
theorem sea_str (base : Nat) (ao : Option Addr) (n c K : Nat) (L : List (List UInt8)) (s : List UInt8) (w : World) (h : OwnS w base (.slice ao n c) n L) (hn : n ≤ 100000) (hR : RiseT L) (hlow : ∀ t, t < K → ∃ x, L[t]? = some x ∧ x < s) (hhi : ∀ x, L[K]? = some x → ¬ x < s) (hK : K ≤ n) :
    Calls Tryd.prog 22 #[.slice ao n c, .string (tx s)] w fun e w' => e = .returned (.tuple #[.int .i64 (K : Int), .bool (decide (L[K]? = some s))]) ∧ ∃ q, w' = w.drewN q := by
  by_cases h0 : n = 0
  · subst h0
    obtain rfl : K = 0 := by omega
    obtain rfl : L = [] := List.eq_nil_of_length_eq_zero h.1.symm
    refine Calls.mono (Any2.slices_BinarySearch_string_empty Tryd.laysBS ao c (tx s) w) ?_
    rintro e w' ⟨rfl, rfl⟩
    exact ⟨by simp, 0, rfl⟩
  · obtain ⟨g, rfl, _, _⟩ := h.block (by omega)
    have hnL := h.1
    have P := Any2.slices_BinarySearch_string Tryd.laysBS g 0 n c (seaS L s) (tx s) w (by omega) (fun j hj => by
      have hj2 : L[j]? = some (L[j]'(by omega)) := List.getElem?_eq_getElem (by omega)
      rw [Nat.zero_add]
      unfold seaS
      rw [hj2]
      exact (h.cell hj2).1)
    have hgo : Lib.bsGo (fun t => Op.bytesLess (seaS L s t).toList (tx s).toList) n 0 n = K := by
      refine bsGo_spec _ K (fun t ht => ?_) (fun t ht => ?_) n 0 n (by omega) (by omega) hK
      · obtain ⟨x, hx, hlt⟩ := hlow t ht
        unfold seaS
        rw [hx, tx_list, tx_list, bytesLess_eq]
        simpa using hlt
      · unfold seaS
        cases hy : L[t]? with
        | none =>
          simp only
          rw [tx_list, bytesLess_eq]
          simp [lt_irr8 s]
        | some y =>
          simp only
          rw [tx_list, tx_list, bytesLess_eq]
          simpa using rise_from hR hhi t y ht hy
    have hdec : decide (K < n ∧ seaS L s K = tx s) = decide (L[K]? = some s) := by
      rw [decide_eq_decide]
      unfold seaS
      by_cases hKn : K < n
      · have hj2 : L[K]? = some (L[K]'(by omega)) := List.getElem?_eq_getElem (by omega)
        rw [hj2]
        simp only [Option.some.injEq]
        constructor
        · rintro ⟨_, e⟩
          have := congrArg ByteArray.toList e
          rw [tx_list, tx_list] at this
          exact this
        · intro e
          exact ⟨hKn, by rw [e]⟩
      · rw [List.getElem?_eq_none (by omega)]
        simp [hKn]
    refine Calls.mono P ?_
    rintro e w' ⟨rfl, hq⟩
    rw [hgo, hdec]
    exact ⟨rfl, hq⟩

theorem code_with (base : Nat) (v : Value) (n : Nat) (L : List (List UInt8)) (s : List UInt8) (w : World) (hown : OwnS w base v n L) (hR : RiseT L) (hb : base ≤ w.heap.size) (hn : n ≤ 100000) :
    Calls Tryd.prog 14 #[v, .string (tx s)] w (InsTold w base v (insT s L)) := by
  obtain ⟨ao, c, rfl⟩ := hown.shape
  obtain ⟨K, hK, hlow, hhi⟩ := insT_place L s
  have hKn : K ≤ n := by rw [hown.1]; exact hK
  have P := sea_str base ao n c K L s w hown hn hR hlow hhi hKn
  have HI := Lib.hid (insT_at K hlow hhi)
  have HO := Lib.hid (And.intro hown hb)
  have HIns := Lib.hid (fun q : Nat => ins_str base ao n c K L s ((w.drewN q).alloc (.cells #[.string (tx s)] 9)) (hown.later ((below_drewN (Grow.refl w) q).alloc (Nat.le_refl _) _)) hKn (by have : ((w.drewN q).alloc (.cells #[.string (tx s)] 9)).heap.size = w.heap.size + 1 := (by simp); omega) hn w.heap.size (heap_alloc_new (w.drewN q) _) (fun g hg => by
    subst hg
    have := (hown.2.lt g rfl).2
    omega))
  clear hown hb hlow hhi hK
  by_cases hf : L[K]? = some s
  · rw [decide_eq_true hf] at P
    have HF := Lib.hid hf
    clear hf
    go_enter Tryd.func14, Tryd.ntmps14
    go_wp2_with (go_at_call 22; refine P.mono ?_; rintro e w' ⟨rfl, q, rfl⟩)
    go_ret
    rw [HI.out, if_pos HF.out]
    exact ⟨ao, n, c, rfl, HO.out.1.later (below_drewN (Grow.refl w) q), (Chg.refl _ w).drewN q, FromRow.refl _ _⟩
  · rw [decide_eq_false hf] at P
    have HF := Lib.hid hf
    clear hf
    go_enter Tryd.func14, Tryd.ntmps14
    go_wp2_with (first | (go_at_call 22; refine P.mono ?_; rintro e w' ⟨rfl, q, rfl⟩) | (go_at_call 23; refine (HIns.out _).mono ?_; rintro e w' ⟨ao2, m2, c2, rfl, hO2, hB2, hF2⟩; have HO2 := Lib.hid (And.intro hO2 (And.intro hB2 hF2)); clear hO2 hB2 hF2))
    go_ret
    rw [HI.out, if_neg HF.out]
    refine ⟨ao2, m2, c2, rfl, HO2.out.1, (((Chg.refl _ w).drewN _).alloc _).trans HO2.out.2.1, ?_⟩
    rcases HO2.out.2.2 with h | h
    · exact .inl h
    · exact .inr fun k hk => by
        have := h k hk
        simp at this
        omega

end Go.Proofs.YtlgfijjkbomejaaDoor
