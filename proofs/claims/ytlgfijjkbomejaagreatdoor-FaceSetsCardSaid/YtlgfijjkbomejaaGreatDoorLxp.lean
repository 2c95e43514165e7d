/- The tokens of a text as the document says. Plain facts. Numbers and types by name. -/
import Derived.Test.YtlgfijjkbomejaaGreatDoorLta
import Derived.Lib.SlicesCompact
import Derived.Test.YtlgfijjkbomejaaGreatDoorProg
import Derived.Shelf.SlGeneric
import Derived.Shelf.SortM.Plain
import Derived.Shelf.SortM.SortNone
import Derived.Ground.SlgmProg
import Derived.Shelf.SlicesG.CompactS
import Derived.Shelf.SlicesE.Clone
import Derived.Shelf.SlicesE.IndexFunc
import Derived.Ground.SlgnProg
import Derived.Ground.SlgfProg
import Derived.Shelf.Spec.SearchS
import Derived.Ground.Names2Prog
import Derived.Test.YtlgfijjkbomejaaGreatDoorBas
/- Sets of texts, plainly. Numbers and types by name. -/
namespace Go.Proofs.YtlgfijjkbomejaaGreatDoor
open Go.RowKit Go.Lib
set_option maxRecDepth 100000

abbrev B8 := List UInt8
/-- Texts put into a set, one by one. -/
def intoT (L A : List B8) : List B8 := L.foldl (fun a s => insT s a) A
def setF (L : List B8) : List B8 := intoT L []
def uniT (a b : List B8) : List B8 := intoT b (setF a)
theorem intoT_cons (s : B8) (L A : List B8) : intoT (s :: L) A = intoT L (insT s A) := rfl
theorem intoT_append (L M A : List B8) : intoT (L ++ M) A = intoT M (intoT L A) := by unfold intoT; rw [List.foldl_append]
theorem intoT_rise : ∀ (L A : List B8), RiseT A → RiseT (intoT L A)
  | [], _, h => h
  | s :: L, A, h => by rw [intoT_cons]; exact intoT_rise L _ (insT_rise h)
theorem intoT_mem : ∀ (L A : List B8) (x : B8), x ∈ intoT L A ↔ x ∈ A ∨ x ∈ L
  | [], A, x => by simp [intoT]
  | s :: L, A, x => by
    rw [intoT_cons, intoT_mem L, insT_mem, List.mem_cons]
    constructor
    · rintro ((h | h) | h)
      · exact .inr (.inl h)
      · exact .inl h
      · exact .inr (.inr h)
    · rintro (h | h | h)
      · exact .inl (.inr h)
      · exact .inl (.inl h)
      · exact .inr h
theorem intoT_len : ∀ (L A : List B8), (intoT L A).length ≤ A.length + L.length
  | [], A => by simp [intoT]
  | s :: L, A => by
    have h1 := intoT_len L (insT s A)
    have h2 := (insT_length s A).2
    rw [intoT_cons, List.length_cons]
    omega
theorem setF_rise (L : List B8) : RiseT (setF L) := intoT_rise L [] List.Pairwise.nil
theorem setF_mem {L : List B8} {x : B8} : x ∈ setF L ↔ x ∈ L := by unfold setF; rw [intoT_mem]; simp
theorem setF_len (L : List B8) : (setF L).length ≤ L.length := by have := intoT_len L []; simpa [setF] using this
theorem uniT_rise (a b : List B8) : RiseT (uniT a b) := intoT_rise b _ (setF_rise a)
theorem uniT_mem {a b : List B8} {x : B8} : x ∈ uniT a b ↔ x ∈ a ∨ x ∈ b := by unfold uniT; rw [intoT_mem, setF_mem]
theorem uniT_len (a b : List B8) : (uniT a b).length ≤ a.length + b.length := by
  have h1 := intoT_len b (setF a)
  have h2 := setF_len a
  unfold uniT
  omega
theorem setF_of {L M : List B8} (hM : RiseT M) (h : ∀ x, x ∈ M ↔ x ∈ L) : setF L = M := rise_ext (setF_rise L) hM fun x => by rw [setF_mem, h]
theorem setF_self {L : List B8} (h : RiseT L) : setF L = L := setF_of h fun _ => Iff.rfl
theorem uniT_nil (a : List B8) : uniT a [] = setF a := rfl

/-- Two rising lists, put together. -/
def mergeT : List B8 → List B8 → List B8
  | [], b => b
  | a, [] => a
  | x :: a, y :: b => if x < y then x :: mergeT a (y :: b) else if y < x then y :: mergeT (x :: a) b else mergeT a (y :: b)
termination_by a b => a.length + b.length
theorem mergeT_nil_left (b : List B8) : mergeT [] b = b := by unfold mergeT; rfl
theorem mergeT_nil_right (a : List B8) : mergeT a [] = a := by cases a <;> simp [mergeT]
theorem mergeT_lt {x y : B8} {a b : List B8} (h : x < y) : mergeT (x :: a) (y :: b) = x :: mergeT a (y :: b) := by rw [mergeT, if_pos h]
theorem mergeT_gt {x y : B8} {a b : List B8} (h : ¬ x < y) (h2 : y < x) : mergeT (x :: a) (y :: b) = y :: mergeT (x :: a) b := by rw [mergeT, if_neg h, if_pos h2]
theorem mergeT_eq {x : B8} {a b : List B8} : mergeT (x :: a) (x :: b) = mergeT a (x :: b) := by rw [mergeT, if_neg (lt_irr8 x), if_neg (lt_irr8 x)]
theorem mergeT_mem : ∀ (n : Nat) (a b : List B8), a.length + b.length ≤ n → ∀ x, x ∈ mergeT a b ↔ x ∈ a ∨ x ∈ b
  | _, [], b, _, x => by rw [mergeT_nil_left]; simp
  | _, x :: a, [], _, z => by rw [mergeT_nil_right]; simp
  | 0, x :: a, y :: b, h, z => by simp at h
  | n + 1, x :: a, y :: b, h, z => by
    simp only [List.length_cons] at h
    by_cases h1 : x < y
    · rw [mergeT_lt h1, List.mem_cons, mergeT_mem n a (y :: b) (by simp; omega), List.mem_cons, List.mem_cons]
      exact ⟨fun h => by rcases h with h | h | h <;> simp [h], fun h => by rcases h with (h | h) | h <;> simp [h]⟩
    · by_cases h2 : y < x
      · rw [mergeT_gt h1 h2, List.mem_cons, mergeT_mem n (x :: a) b (by simp; omega), List.mem_cons, List.mem_cons]
        exact ⟨fun h => by rcases h with h | (h | h) | h <;> simp [h], fun h => by rcases h with (h | h) | h | h <;> simp [h]⟩
      · obtain rfl : x = y := by
          by_cases e : x = y
          · exact e
          · exact absurd (lt_tri8 h1 e) h2
        rw [mergeT_eq, mergeT_mem n a (x :: b) (by simp; omega), List.mem_cons, List.mem_cons]
        exact ⟨fun h => by rcases h with h | h | h <;> simp [h], fun h => by rcases h with (h | h) | h | h <;> simp [h]⟩
theorem mergeT_rise : ∀ (n : Nat) (a b : List B8), a.length + b.length ≤ n → RiseT a → RiseT b → RiseT (mergeT a b)
  | _, [], b, _, _, hb => by rw [mergeT_nil_left]; exact hb
  | _, x :: a, [], _, ha, _ => by rw [mergeT_nil_right]; exact ha
  | 0, x :: a, y :: b, h, _, _ => by simp at h
  | n + 1, x :: a, y :: b, h, ha, hb => by
    simp only [List.length_cons] at h
    have ha1 := List.pairwise_cons.1 ha
    have hb1 := List.pairwise_cons.1 hb
    by_cases h1 : x < y
    · rw [mergeT_lt h1]
      refine List.pairwise_cons.2 ⟨fun z hz => ?_, mergeT_rise n a (y :: b) (by simp; omega) ha1.2 hb⟩
      rcases (mergeT_mem _ _ _ (Nat.le_refl _) z).1 hz with h3 | h3
      · exact ha1.1 z h3
      · rcases List.mem_cons.1 h3 with rfl | h3
        · exact h1
        · exact List.lt_trans h1 (hb1.1 z h3)
    · by_cases h2 : y < x
      · rw [mergeT_gt h1 h2]
        refine List.pairwise_cons.2 ⟨fun z hz => ?_, mergeT_rise n (x :: a) b (by simp; omega) ha hb1.2⟩
        rcases (mergeT_mem _ _ _ (Nat.le_refl _) z).1 hz with h3 | h3
        · rcases List.mem_cons.1 h3 with rfl | h3
          · exact h2
          · exact List.lt_trans h2 (ha1.1 z h3)
        · exact hb1.1 z h3
      · obtain rfl : x = y := by
          by_cases e : x = y
          · exact e
          · exact absurd (lt_tri8 h1 e) h2
        rw [mergeT_eq]
        exact mergeT_rise n a (x :: b) (by simp; omega) ha1.2 hb
theorem merge_uni (a b : List B8) : mergeT (setF a) (setF b) = uniT a b :=
  rise_ext (mergeT_rise _ _ _ (Nat.le_refl _) (setF_rise a) (setF_rise b)) (uniT_rise a b) fun x => by rw [mergeT_mem _ _ _ (Nat.le_refl _), setF_mem, setF_mem, uniT_mem]

theorem le8 {a b : B8} : a ≤ b ↔ ¬ b < a := Iff.rfl
/-- What compacting a sorted list leaves is its set. -/
theorem comp_set {d : List B8} (h : d.Pairwise (· ≤ ·)) : ∀ m, m ≤ d.length → RiseT (compactUpTo d.toArray m) ∧ ∀ x, x ∈ compactUpTo d.toArray m ↔ x ∈ d.take m
  | 0, _ => by simp [compactUpTo, RiseT]
  | m + 1, hm => by
    obtain ⟨h1, h2⟩ := comp_set h m (by omega)
    have hlt : m < d.length := by omega
    have hg : d.toArray[m]! = d[m] := by simp [hlt]
    rw [compactUpTo_succ, hg]
    have htk : d.take (m + 1) = d.take m ++ [d[m]] := by rw [List.take_succ_eq_append_getElem hlt]
    have hle : ∀ x, x ∈ d.take m → x ≤ d[m] := fun x hx => by
      obtain ⟨j, hj, e⟩ := List.getElem_of_mem hx
      rw [List.length_take] at hj
      rw [List.getElem_take] at e
      rw [← e]
      exact List.pairwise_iff_getElem.1 h j m (by omega) hlt (by omega)
    by_cases hk : keeps d.toArray m = true
    · rw [if_pos hk]
      have hlt2 : ∀ x, x ∈ d.take m → x < d[m] := fun x hx => by
        obtain ⟨j, hj, e⟩ := List.getElem_of_mem hx
        rw [List.length_take] at hj
        rw [List.getElem_take] at e
        have hm0 : m ≠ 0 := by omega
        unfold keeps at hk
        rw [decide_eq_true_eq] at hk
        have hk2 := hk.resolve_left hm0
        rw [hg, show d.toArray[m - 1]! = d[m - 1] by simp [show m - 1 < d.length by omega]] at hk2
        have a1 : x ≤ d[m - 1] := by
          rcases Nat.lt_or_ge j (m - 1) with h3 | h3
          · rw [← e]; exact List.pairwise_iff_getElem.1 h j (m - 1) (by omega) (by omega) h3
          · have : j = m - 1 := by omega
            subst this
            rw [← e]
            exact lt_irr8 _
        have a2 : d[m - 1] < d[m] := lt_tri8 (List.pairwise_iff_getElem.1 h (m - 1) m (by omega) hlt (by omega)) hk2
        by_cases e2 : x = d[m - 1]
        · rw [e2]; exact a2
        · exact List.lt_trans (lt_tri8 a1 (fun e3 => e2 e3.symm)) a2
      refine ⟨List.pairwise_append.2 ⟨h1, List.pairwise_singleton _ _, fun x hx y hy => ?_⟩, fun x => ?_⟩
      · rw [List.mem_singleton] at hy
        rw [hy]
        exact hlt2 x ((h2 x).1 hx)
      · rw [List.mem_append, h2, htk, List.mem_append]
    · rw [if_neg hk, List.append_nil]
      refine ⟨h1, fun x => ?_⟩
      rw [h2, htk, List.mem_append, List.mem_singleton]
      refine ⟨.inl, fun h3 => h3.elim id fun e => ?_⟩
      unfold keeps at hk
      rw [decide_eq_true_eq] at hk
      have hm0 : m ≠ 0 := fun e => hk (.inl e)
      have hk2 : d.toArray[m]! = d.toArray[m - 1]! := Classical.byContradiction fun e => hk (.inr e)
      rw [hg, show d.toArray[m - 1]! = d[m - 1] by simp [show m - 1 < d.length by omega]] at hk2
      rw [e, hk2]
      exact List.mem_take_iff_getElem.2 ⟨m - 1, by omega, rfl⟩
theorem sort8 (L : List B8) : (L.mergeSort fun x y => decide (x ≤ y)).Pairwise (· ≤ ·) := by
  have h := List.pairwise_mergeSort (le := fun x y : B8 => decide (x ≤ y)) (fun a b c h1 h2 => by
    simp only [decide_eq_true_eq] at *
    exact List.le_trans h1 h2) (fun a b => by
    simp only [Bool.or_eq_true, decide_eq_true_eq]
    exact List.le_total a b) L
  exact h.imp fun h => of_decide_eq_true h
theorem compact_sort (L : List B8) : compactUpTo (L.mergeSort fun x y => decide (x ≤ y)).toArray (L.mergeSort fun x y => decide (x ≤ y)).length = setF L := by
  obtain ⟨h1, h2⟩ := comp_set (sort8 L) _ (Nat.le_refl _)
  refine (setF_of h1 fun x => ?_).symm
  rw [h2, List.take_length, List.mem_mergeSort]

end Go.Proofs.YtlgfijjkbomejaaGreatDoor

/-
  DERIVED: THE SHELF's CONTRACTS AT THIS DUMP, IN PLAIN WORDS (tools/lay-plain.mjs out of 'YtlgfijjkbomejaaGreatDoorFly.lean', which tools/lay-shelf.mjs wrote): THE SAME DECLARATIONS UNDER THE SAME NAMES: 'import', 'namespace', 'open', 'def', 'theorem' AND NOTHING ELSE: no command of the shelf's: FOR A HAND-IN. Each laying: the table of numbers ('.._ren') and one theorem, a field a fact of the dump's own or the kernel's comparison; each contract: ONE APPLICATION.
-/
namespace Go.Proofs
open Go.Shelf
def Tryz.clone8_ren : Go.Shelf.Ren := ⟨fun | 41 => 99 | n => n, fun | 22 => 36 | 23 => 9 | 4 => 4 | n => n, fun | n => n⟩
theorem Tryz.clone8 : Go.Proofs.SlLaysE0.n41 Tryz.prog Tryz.clone8_ren := {
  mixed := by kernel_rfl
  f41 := ⟨Tryz.f99.name, by decide, Tryz.func99.trans (congrArg some (by kernel_rfl))⟩
  t4 := Tryz.underlying4
  a4 := Tryz.isAgg4
  z4 := Tryz.sizeOf4
  v4 := Tryz.zeroValue4
  t22 := Tryz.underlying36
  a22 := Tryz.isAgg36
  z22 := Tryz.sizeOf36
  v22 := Tryz.zeroValue36 }
def Tryz.sort8_ren : Go.Shelf.Ren := ⟨fun | 6 => 100 | 8 => 77 | 9 => 132 | 19 => 117 | 20 => 118 | 21 => 154 | 22 => 155 | 23 => 156 | 24 => 157 | 25 => 158 | 26 => 159 | 27 => 133 | 28 => 160 | 29 => 161 | 36 => 177 | 31 => 139 | 32 => 140 | 37 => 178 | 38 => 179 | 39 => 78 | 41 => 187 | n => n, fun | 27 => 36 | 29 => 9 | 3 => 3 | 32 => 131 | 26 => 36 | 0 => 0 | 44 => 173 | 46 => 152 | 4 => 4 | 36 => 167 | 35 => 166 | 41 => 138 | 5 => 5 | 9 => 9 | 53 => 192 | 57 => 196 | 63 => 218 | 64 => 219 | n => n, fun | n => n⟩
theorem Tryz.sort8 : Go.Proofs.SlLaysM.n6 Tryz.prog Tryz.sort8_ren := {
  mixed := by kernel_rfl
  f6 := ⟨Tryz.f100.name, by decide, Tryz.func100.trans (congrArg some (by kernel_rfl))⟩
  f8 := Tryz.func77.trans (congrArg some (by kernel_rfl))
  f9 := ⟨Tryz.f132.name, by decide, Tryz.func132.trans (congrArg some (by kernel_rfl))⟩
  f19 := Tryz.func117.trans (congrArg some (by kernel_rfl))
  f20 := Tryz.func118.trans (congrArg some (by kernel_rfl))
  f21 := ⟨Tryz.f154.name, by decide, Tryz.func154.trans (congrArg some (by kernel_rfl))⟩
  f22 := ⟨Tryz.f155.name, by decide, Tryz.func155.trans (congrArg some (by kernel_rfl))⟩
  f23 := ⟨Tryz.f156.name, by decide, Tryz.func156.trans (congrArg some (by kernel_rfl))⟩
  f24 := ⟨Tryz.f157.name, by decide, Tryz.func157.trans (congrArg some (by kernel_rfl))⟩
  f25 := ⟨Tryz.f158.name, by decide, Tryz.func158.trans (congrArg some (by kernel_rfl))⟩
  f26 := ⟨Tryz.f159.name, by decide, Tryz.func159.trans (congrArg some (by kernel_rfl))⟩
  f27 := ⟨Tryz.f133.name, by decide, Tryz.func133.trans (congrArg some (by kernel_rfl))⟩
  f28 := ⟨Tryz.f160.name, by decide, Tryz.func160.trans (congrArg some (by kernel_rfl))⟩
  f29 := ⟨Tryz.f161.name, by decide, Tryz.func161.trans (congrArg some (by kernel_rfl))⟩
  f31 := Tryz.func139.trans (congrArg some (by kernel_rfl))
  f32 := Tryz.func140.trans (congrArg some (by kernel_rfl))
  f36 := ⟨Tryz.f177.name, by decide, Tryz.func177.trans (congrArg some (by kernel_rfl))⟩
  f37 := ⟨Tryz.f178.name, by decide, Tryz.func178.trans (congrArg some (by kernel_rfl))⟩
  f38 := ⟨Tryz.f179.name, by decide, Tryz.func179.trans (congrArg some (by kernel_rfl))⟩
  f39 := ⟨Tryz.f78.name, by decide, Tryz.func78.trans (congrArg some (by kernel_rfl))⟩
  f41 := ⟨Tryz.f187.name, by decide, Tryz.func187.trans (congrArg some (by kernel_rfl))⟩
  t0 := Tryz.underlying0
  a0 := Tryz.isAgg0
  z0 := Tryz.sizeOf0
  v0 := Tryz.zeroValue0
  t3 := Tryz.underlying3
  a3 := Tryz.isAgg3
  z3 := Tryz.sizeOf3
  v3 := Tryz.zeroValue3
  t4 := Tryz.underlying4
  a4 := Tryz.isAgg4
  z4 := Tryz.sizeOf4
  v4 := Tryz.zeroValue4
  t5 := Tryz.underlying5
  a5 := Tryz.isAgg5
  z5 := Tryz.sizeOf5
  v5 := Tryz.zeroValue5
  t9 := Tryz.underlying9
  a9 := Tryz.isAgg9
  z9 := Tryz.sizeOf9
  v9 := Tryz.zeroValue9
  t26 := Tryz.underlying36
  a26 := Tryz.isAgg36
  z26 := Tryz.sizeOf36
  v26 := Tryz.zeroValue36
  t27 := Tryz.underlying36
  a27 := Tryz.isAgg36
  z27 := Tryz.sizeOf36
  v27 := Tryz.zeroValue36
  t29 := Tryz.underlying9
  a29 := Tryz.isAgg9
  z29 := Tryz.sizeOf9
  v29 := Tryz.zeroValue9
  t32 := Tryz.underlying131
  a32 := Tryz.isAgg131
  z32 := Tryz.sizeOf131
  v32 := Tryz.zeroValue131
  t35 := Tryz.underlying166
  a35 := Tryz.isAgg166
  z35 := Tryz.sizeOf166
  v35 := Tryz.zeroValue166
  t36 := Tryz.underlying167
  a36 := Tryz.isAgg167
  z36 := Tryz.sizeOf167
  v36 := Tryz.zeroValue167
  t41 := Tryz.underlying138
  a41 := Tryz.isAgg138
  z41 := Tryz.sizeOf138
  v41 := Tryz.zeroValue138
  t44 := Tryz.underlying173
  a44 := Tryz.isAgg173
  z44 := Tryz.sizeOf173
  v44 := Tryz.zeroValue173
  t46 := Tryz.underlying152
  a46 := Tryz.isAgg152
  z46 := Tryz.sizeOf152
  v46 := Tryz.zeroValue152
  t53 := Tryz.underlying192
  a53 := Tryz.isAgg192
  z53 := Tryz.sizeOf192
  v53 := Tryz.zeroValue192
  t57 := Tryz.underlying196
  a57 := Tryz.isAgg196
  z57 := Tryz.sizeOf196
  v57 := Tryz.zeroValue196
  t63 := Tryz.underlying218
  a63 := Tryz.isAgg218
  z63 := Tryz.sizeOf218
  v63 := Tryz.zeroValue218
  t64 := Tryz.underlying219
  a64 := Tryz.isAgg219
  z64 := Tryz.sizeOf219
  v64 := Tryz.zeroValue219 }
def Tryz.comp8_ren : Go.Shelf.Ren := ⟨fun | 44 => 101 | n => n, fun | 25 => 36 | 26 => 9 | 3 => 3 | 4 => 4 | 0 => 0 | n => n, fun | n => n⟩
theorem Tryz.comp8 : Go.Proofs.SlLaysN.n44 Tryz.prog Tryz.comp8_ren := {
  mixed := by kernel_rfl
  f44 := ⟨Tryz.f101.name, by decide, Tryz.func101.trans (congrArg some (by kernel_rfl))⟩
  t0 := Tryz.underlying0
  a0 := Tryz.isAgg0
  z0 := Tryz.sizeOf0
  v0 := Tryz.zeroValue0
  t3 := Tryz.underlying3
  a3 := Tryz.isAgg3
  z3 := Tryz.sizeOf3
  v3 := Tryz.zeroValue3
  t4 := Tryz.underlying4
  a4 := Tryz.isAgg4
  z4 := Tryz.sizeOf4
  v4 := Tryz.zeroValue4
  t25 := Tryz.underlying36
  a25 := Tryz.isAgg36
  z25 := Tryz.sizeOf36
  v25 := Tryz.zeroValue36
  t26 := Tryz.underlying9
  a26 := Tryz.isAgg9
  z26 := Tryz.sizeOf9
  v26 := Tryz.zeroValue9
  i26 := by kernel_rfl }
def Tryz.cont8_ren : Go.Shelf.Ren := ⟨fun | 8 => 58 | 6 => 102 | n => n, fun | 22 => 36 | 23 => 9 | 25 => 114 | 4 => 4 | 3 => 3 | 0 => 0 | n => n, fun | n => n⟩
theorem Tryz.cont8 : Go.Proofs.SlLaysH.n8 Tryz.prog Tryz.cont8_ren := {
  mixed := by kernel_rfl
  f6 := ⟨Tryz.f102.name, by decide, Tryz.func102.trans (congrArg some (by kernel_rfl))⟩
  f8 := ⟨Tryz.f58.name, by decide, Tryz.func58.trans (congrArg some (by kernel_rfl))⟩
  t0 := Tryz.underlying0
  a0 := Tryz.isAgg0
  z0 := Tryz.sizeOf0
  v0 := Tryz.zeroValue0
  t3 := Tryz.underlying3
  a3 := Tryz.isAgg3
  z3 := Tryz.sizeOf3
  v3 := Tryz.zeroValue3
  t4 := Tryz.underlying4
  a4 := Tryz.isAgg4
  z4 := Tryz.sizeOf4
  v4 := Tryz.zeroValue4
  t22 := Tryz.underlying36
  a22 := Tryz.isAgg36
  z22 := Tryz.sizeOf36
  v22 := Tryz.zeroValue36
  a23 := Tryz.isAgg9
  z23 := Tryz.sizeOf9
  t25 := Tryz.underlying114
  a25 := Tryz.isAgg114
  z25 := Tryz.sizeOf114
  v25 := Tryz.zeroValue114 }
def Tryz.bs8_ren : Go.Shelf.Ren := ⟨fun | 26 => 103 | 33 => 133 | 34 => 134 | 38 => 78 | n => n, fun | 24 => 36 | 9 => 9 | 3 => 3 | 4 => 4 | 40 => 131 | 0 => 0 | n => n, fun | n => n⟩
theorem Tryz.bs8 : Go.Proofs.Lays2.n26 Tryz.prog Tryz.bs8_ren := {
  mixed := by kernel_rfl
  f26 := Tryz.func103.trans (congrArg some (by kernel_rfl))
  f33 := Tryz.func133.trans (congrArg some (by kernel_rfl))
  f34 := Tryz.func134.trans (congrArg some (by kernel_rfl))
  f38 := Tryz.func78.trans (congrArg some (by kernel_rfl))
  t0 := Tryz.underlying0
  a0 := Tryz.isAgg0
  z0 := Tryz.sizeOf0
  v0 := Tryz.zeroValue0
  t3 := Tryz.underlying3
  a3 := Tryz.isAgg3
  z3 := Tryz.sizeOf3
  v3 := Tryz.zeroValue3
  t4 := Tryz.underlying4
  a4 := Tryz.isAgg4
  z4 := Tryz.sizeOf4
  v4 := Tryz.zeroValue4
  t9 := Tryz.underlying9
  a9 := Tryz.isAgg9
  z9 := Tryz.sizeOf9
  v9 := Tryz.zeroValue9
  t24 := Tryz.underlying36
  a24 := Tryz.isAgg36
  z24 := Tryz.sizeOf36
  v24 := Tryz.zeroValue36
  t40 := Tryz.underlying131
  a40 := Tryz.isAgg131
  z40 := Tryz.sizeOf131
  v40 := Tryz.zeroValue131 }
end Go.Proofs

namespace Go.Proofs.YtlgfijjkbomejaaGreatDoor
open Go.RowKit Go.Lib

def isLet (c : UInt8) : Bool := decide (97 ≤ c.toNat) && decide (c.toNat ≤ 122)
def isDig (c : UInt8) : Bool := decide (48 ≤ c.toNat) && decide (c.toNat ≤ 57)
def isWrd (c : UInt8) : Bool := isLet c || isDig c || c == 95
def isSpc (c : UInt8) : Bool := c == 32 || c == 9 || c == 10 || c == 13
/-- A token: its kind, its text, where it begins. -/
structure Tk where
  kind : Int
  text : List UInt8
  pos : Nat
  deriving DecidableEq
inductive LStep where
  | skip (n : Nat)
  | tok (k : Int) (n : Nat)
  | bad (e : Int)
/-- What Lex tells. -/
structure LexR where
  l : List Tk
  e : Int
  pos : Nat
  deriving DecidableEq

/-- module, import, var, proc, pc, uses, let, call, if, else, while, emit, result, skip, labels -/
def keysL : List (List UInt8) := [[109, 111, 100, 117, 108, 101], [105, 109, 112, 111, 114, 116], [118, 97, 114], [112, 114, 111, 99], [112, 99], [117, 115, 101, 115], [108, 101, 116], [99, 97, 108, 108], [105, 102], [101, 108, 115, 101], [119, 104, 105, 108, 101], [101, 109, 105, 116], [114, 101, 115, 117, 108, 116], [115, 107, 105, 112], [108, 97, 98, 101, 108, 115]]
def runL (p : UInt8 → Bool) (r : List UInt8) : Nat := (r.takeWhile p).length
def twoL (c d : UInt8) : Bool := (c == 61 && d == 61) || (c == 60 && d == 61) || (c == 45 && d == 62)
def oneL (c : UInt8) : Bool := c == 40 || c == 41 || c == 123 || c == 125 || c == 44 || c == 59 || c == 58 || c == 46 || c == 61 || c == 60 || c == 43 || c == 45 || c == 42 || c == 47 || c == 37 || c == 33
/-- How many bytes the sign has that stands there. -/
def signL : List UInt8 → Nat
  | [] => 0
  | [c] => if oneL c then 1 else 0
  | c :: d :: _ => if twoL c d then 2 else if oneL c then 1 else 0
def afterL : List UInt8 → Bool
  | [] => false
  | d :: _ => isLet d || d == 95
/-- What stands at the beginning of a text. -/
def stepC (c : UInt8) (r : List UInt8) : LStep :=
  if isSpc c = true then .skip 1
  else if c = 35 then .skip (1 + runL (fun x => x != 10) r)
  else if isLet c = true then
    if 20 < 1 + runL isWrd r then .bad 9 else .tok (if keysL.contains ((c :: r).take (1 + runL isWrd r)) = true then 3 else 1) (1 + runL isWrd r)
  else if isDig c = true then
    if 9 < 1 + runL isDig r then .bad 9
    else if (1 < 1 + runL isDig r ∧ c = 48) ∨ afterL (r.drop (runL isDig r)) = true then .bad 10 else .tok 2 (1 + runL isDig r)
  else if signL (c :: r) = 0 then .bad 10 else .tok 4 (signL (c :: r))
def stepL : List UInt8 → LStep
  | [] => .skip 1
  | c :: r => stepC c r
def consL (t : Tk) (R : LexR) : LexR := ⟨if R.e = 0 then t :: R.l else R.l, R.e, R.pos⟩
/-- From the offset i on. -/
def lexG : Nat → Nat → List UInt8 → LexR
  | _, i, [] => ⟨[⟨0, [], i⟩], 0, 0⟩
  | 0, i, _ => ⟨[⟨0, [], i⟩], 0, 0⟩
  | f + 1, i, c :: r =>
    match stepL (c :: r) with
    | .skip n => lexG f (i + n) ((c :: r).drop n)
    | .tok k n => consL ⟨k, (c :: r).take n, i⟩ (lexG f (i + n) ((c :: r).drop n))
    | .bad e => ⟨[], e, i⟩
def lexP (b : List UInt8) : LexR := if 8192 < b.length then ⟨[], 9, 8192⟩ else lexG b.length 0 b

theorem runL_le (p : UInt8 → Bool) (r : List UInt8) : runL p r ≤ r.length := by
  unfold runL
  induction r with
  | nil => simp
  | cons c r ih =>
    rw [List.takeWhile_cons]
    split
    · simp only [List.length_cons]; omega
    · simp
theorem signL_le : ∀ r : List UInt8, signL r ≤ r.length
  | [] => by simp [signL]
  | [c] => by
    show (if oneL c = true then 1 else 0) ≤ 1
    split <;> omega
  | c :: d :: r => by
    show (if twoL c d = true then 2 else if oneL c = true then 1 else 0) ≤ r.length + 2
    split
    · omega
    · split <;> omega
/-- What is taken is something, and no more than there is. -/
theorem stepL_n {c : UInt8} {r : List UInt8} : (∀ n, stepL (c :: r) = .skip n → 1 ≤ n ∧ n ≤ r.length + 1) ∧ ∀ k n, stepL (c :: r) = .tok k n → 1 ≤ n ∧ n ≤ r.length + 1 := by
  have h1 := runL_le (fun x => x != 10) r
  have h2 := runL_le isWrd r
  have h3 := runL_le isDig r
  have h4 := signL_le (c :: r)
  simp only [List.length_cons] at h4
  show (∀ n, stepC c r = .skip n → 1 ≤ n ∧ n ≤ r.length + 1) ∧ ∀ k n, stepC c r = .tok k n → 1 ≤ n ∧ n ≤ r.length + 1
  unfold stepC
  split
  · exact ⟨fun n h => (by cases h; omega), fun k n h => by cases h⟩
  split
  · exact ⟨fun n h => (by cases h; omega), fun k n h => by cases h⟩
  split
  · split
    · exact ⟨fun n h => (by cases h), fun k n h => by cases h⟩
    · exact ⟨fun n h => (by cases h), fun k n h => by cases h; omega⟩
  split
  · split
    · exact ⟨fun n h => (by cases h), fun k n h => by cases h⟩
    split
    · exact ⟨fun n h => (by cases h), fun k n h => by cases h⟩
    · exact ⟨fun n h => (by cases h), fun k n h => by cases h; omega⟩
  split
  · exact ⟨fun n h => (by cases h), fun k n h => by cases h⟩
  · rename_i h0
    exact ⟨fun n h => (by cases h), fun k n h => by cases h; omega⟩
/-- Enough steps are enough. -/
theorem lexG_fuel : ∀ (f g i : Nat) (r : List UInt8), r.length ≤ f → r.length ≤ g → lexG f i r = lexG g i r
  | _, _, _, [], _, _ => by simp [lexG]
  | 0, _, _, c :: r, h, _ => by simp at h
  | _, 0, _, c :: r, _, h => by simp at h
  | f + 1, g + 1, i, c :: r, h1, h2 => by
    unfold lexG
    simp only [List.length_cons] at h1 h2
    cases h : stepL (c :: r) with
    | skip n =>
      have := (stepL_n (c := c) (r := r)).1 n h
      exact lexG_fuel f g _ _ (by simp only [List.length_drop, List.length_cons]; omega) (by simp only [List.length_drop, List.length_cons]; omega)
    | tok k n =>
      have := (stepL_n (c := c) (r := r)).2 k n h
      simp only
      rw [lexG_fuel f g (i + n) ((c :: r).drop n) (by simp only [List.length_drop, List.length_cons]; omega) (by simp only [List.length_drop, List.length_cons]; omega)]
    | bad e => rfl
/-- The tokens from the offset i on. -/
def lexA (i : Nat) (r : List UInt8) : LexR := lexG r.length i r
theorem lexA_nil (i : Nat) : lexA i [] = ⟨[⟨0, [], i⟩], 0, 0⟩ := rfl
theorem lexA_skip {i n : Nat} {c : UInt8} {r : List UInt8} (h : stepL (c :: r) = .skip n) : lexA i (c :: r) = lexA (i + n) ((c :: r).drop n) := by
  have hn := (stepL_n (c := c) (r := r)).1 n h
  unfold lexA
  rw [List.length_cons]
  conv => lhs; unfold lexG
  rw [h]
  exact lexG_fuel _ _ _ _ (by simp only [List.length_drop, List.length_cons]; omega) (Nat.le_refl _)
theorem lexA_tok {i n : Nat} {k : Int} {c : UInt8} {r : List UInt8} (h : stepL (c :: r) = .tok k n) : lexA i (c :: r) = consL ⟨k, (c :: r).take n, i⟩ (lexA (i + n) ((c :: r).drop n)) := by
  have hn := (stepL_n (c := c) (r := r)).2 k n h
  unfold lexA
  rw [List.length_cons]
  conv => lhs; unfold lexG
  rw [h]
  simp only
  rw [lexG_fuel r.length ((c :: r).drop n).length (i + n) _ (by simp only [List.length_drop, List.length_cons]; omega) (Nat.le_refl _)]
theorem lexA_bad {i : Nat} {e : Int} {c : UInt8} {r : List UInt8} (h : stepL (c :: r) = .bad e) : lexA i (c :: r) = ⟨[], e, i⟩ := by
  unfold lexA
  rw [List.length_cons]
  unfold lexG
  rw [h]

end Go.Proofs.YtlgfijjkbomejaaGreatDoor
