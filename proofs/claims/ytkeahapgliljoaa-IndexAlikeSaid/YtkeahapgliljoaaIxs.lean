/- Pairs sorted by their keys: slices.SortFunc by the index's closure. Numbers and types by name. -/
import Derived.Test.YtkeahapgliljoaaIxw
import Derived.Test.YtkeahapgliljoaaCmt
import Derived.Test.YtkeahapgliljoaaLay
namespace Go.Proofs.Ytkeahapgliljoaa
open Go.RowKit Go.Lib Go.Sort Go.Shelf
set_option maxRecDepth 100000

instance : Inhabited Prm := ⟨blankP⟩
def kD (o : Prm) : List UInt8 := o.key.data.toList
def cmpP (x y : Prm) : Int := compareBytes (kD x) (kD y)

theorem cmp_pairs (x y : Prm) (w : World) : Calls Try.prog 23 #[.agg (pv x).toArray, .agg (pv y).toArray] w fun e w' => e = .returned (.int .i64 (cmpP x y)) ∧ ∃ q os, w' = grow (w.drewN q) os := by
  obtain ⟨xk, xv⟩ := x
  obtain ⟨yk, yv⟩ := y
  unfold cmpP kD pv
  simp only
  have H := Lib.hid (strings_cmp xk yk)
  have hb1 := heap_alloc_new w (.cells #[.string xk, .string xv] 49)
  have hb2 := heap_alloc_new (w.alloc (.cells #[.string xk, .string xv] 49)) (.cells #[.string yk, .string yv] 49)
  have HW : Hid ((w.alloc (.cells #[.string xk, .string xv] 49)).alloc (.cells #[.string yk, .string yv] 49) = grow (w.drewN 0) #[.cells #[.string xk, .string xv] 49, .cells #[.string yk, .string yv] 49]) := Lib.hid (by rw [alloc_eq_grow, alloc_eq_grow, grow_grow]; rfl)
  go_enter Try.func23, Try.ntmps23
  go_wp2_with (go_at_call 24; refine (H.out _).mono ?_; rintro e w' ⟨rfl, rfl⟩)
  go_ret
  exact ⟨rfl, 0, _, HW.out⟩

theorem lt_cmpP (x y : Prm) : ltOf cmpP x y = decide (kD x < kD y) := by
  unfold ltOf cmpP
  rw [Bool.eq_iff_iff, decide_eq_true_eq, decide_eq_true_eq]
  exact cmp_lt _ _
theorem swo_cmpP : SWO (ltOf cmpP) where
  irrefl x := by rw [lt_cmpP]; simp [List.lt_irrefl]
  trans x y z h1 h2 := by
    rw [lt_cmpP, decide_eq_true_eq] at *
    exact List.lt_trans h1 h2
  ntrans x y z h1 h2 := by
    rw [lt_cmpP, decide_eq_false_iff_not] at *
    exact fun h => List.lt_irrefl _ (Std.lt_of_lt_of_le h (Std.le_trans (List.not_lt.1 h2) (List.not_lt.1 h1)))

theorem holds_pairs {w : World} {base g n c : Nat} {A : List Prm} (h : w.ownsRow base 49 2 (.slice (some ⟨g, 0, none⟩) n c) n (pvs A)) (hn : n = A.length) : HoldsK pv 2 w g 0 A.toArray := by
  intro j hj
  rw [size_flatK] at hj
  have hj2 : j < A.length * 2 := by simpa using hj
  refine ⟨?_, World.ownsRow.frozenAt h _⟩
  have hq : j / 2 < A.length := by omega
  have ho : A[j / 2]? = some A[j / 2] := List.getElem?_eq_getElem hq
  have hr : j % 2 < 2 := Nat.mod_lt _ (by decide)
  rw [get_flatK pv 2 A.toArray j (by simpa using hj), World.ownsRow.cellAt h (0 + j) (by omega)]
  have e : (0 + j) = (j / 2) * 2 + j % 2 := by omega
  have e2 : A.toArray[j / 2]! = A[j / 2] := by rw [getElem!_pos A.toArray (j / 2) (by simpa using hq)]; rfl
  rw [e, pvs_at ho _ hr, e2]
  have hl : (pv A[j / 2]).length = 2 := rfl
  rw [List.getElem?_eq_getElem (by omega), getElem!_pos (pv A[j / 2]) (j % 2) (by omega)]
  rfl

theorem turn_sorted {w : World} {g n : Nat} {os : Array Obj} (d : Array Prm) : Turn [g] w (sortWorldK pv 2 w g 0 n d os) := by
  unfold sortWorldK putRowK
  refine ⟨rfl, rfl, rfl, by simp, fun k hk hne => ?_⟩
  rw [heap_grow_old _ _ (by simpa using hk)]
  have : g ≠ k := fun e => hne (by rw [e]; simp)
  simp [putRow, mapBlock, Sort.ahead, Array.getElem?_modify, this]

theorem sort_pairs (base g n c : Nat) (A : List Prm) (w : World) (h : w.ownsRow base 49 2 (.slice (some ⟨g, 0, none⟩) n c) n (pvs A)) (hn : n = A.length) (hl : n ≤ 1000000) (hc : n ≤ c) :
    Calls Try.prog 22 #[.slice (some ⟨g, 0, none⟩) n c, .func (.func 23) #[] #[]] w fun e w' => e = .returned (.tuple #[]) ∧
      ∃ A' : List Prm, A'.Perm A ∧ (A'.Pairwise fun a b => ¬ kD b < kD a) ∧ Cells w' (.slice (some ⟨g, 0, none⟩) n c) 2 n (pvs A') ∧ Turn [g] w w' := by
  have eg : ∀ args w, (callFunc 23 args).run Try.prog w = .ok (.enter 23 args) w := enters_of Try.func23 (by kernel_rfl) rfl
  have hlt := (h.lt g rfl).2
  have hcmp : CmpLays Try.prog 23 #[] pv 2 cmpP g 0 A.toArray.size w := fun _ _ _ _ x y => cmp_pairs x y _
  have hH := holds_pairs h hn
  have hs : A.toArray.size = n := by simp [hn]
  have hcon := AnyQ.slices_SortFunc Try.sortPair 2 Try.isAgg49 Try.sizeOf49 pv (fun _ => rfl) (fun x v hv => by simp only [pv, List.mem_cons, List.not_mem_nil, or_false] at hv; rcases hv with rfl | rfl <;> rfl) cmpP swo_cmpP 23 #[] g 0 c A.toArray w eg hcmp hH hlt (by omega)
  rw [hs] at hcon
  refine hcon.mono ?_
  rintro e w' ⟨rfl, d', q, os, ⟨hz, _, hp⟩, hsort, rfl⟩
  have hz' : d'.size = n := hz.trans hs
  refine ⟨rfl, d'.toList, ?_, ?_, ?_, turn_sorted d'⟩
  · have e1 : d'.extract 0 n = d' := by rw [← hz']; simp
    have e2 : A.toArray.extract 0 n = A.toArray := by rw [← hs]; simp
    rw [e1, e2] at hp
    exact hp
  · rw [List.pairwise_iff_getElem]
    intro i j hi hj hij
    have := hsort i j (Nat.zero_le _) hij (by rw [← hz']; simpa using hj)
    rw [lt_cmpP, decide_eq_false_iff_not, getElem!_pos d' j (by simpa using hj), getElem!_pos d' i (by simpa using hi)] at this
    simpa using this
  · have hH' := holdsK_sortWorldK_c pv 2 w g 0 A.toArray d' q os hH hlt hz
    refine ⟨some ⟨g, 0, none⟩, c, rfl, by rw [pvs_length]; simp [hz'], hc, (fun e => by cases e), fun a ha j u hj => ?_⟩
    cases ha
    have hjl := (List.getElem?_eq_some_iff.1 hj).1
    rw [pvs_length] at hjl
    have hjl' : j < d'.size * 2 := by simpa using hjl
    have hq : j / 2 < d'.toList.length := by simp; omega
    have ho : d'.toList[j / 2]? = some d'.toList[j / 2] := List.getElem?_eq_getElem hq
    have hr : j % 2 < 2 := Nat.mod_lt _ (by decide)
    have h1 := (hH' j (by rw [size_flatK]; exact hjl')).1
    rw [Addr.add_lit, h1, get_flatK pv 2 d' j hjl']
    have e : j = (j / 2) * 2 + j % 2 := by omega
    have e2 : d'[j / 2]! = d'.toList[j / 2] := by rw [getElem!_pos d' (j / 2) (by omega)]; simp
    rw [e2]
    have hj' := hj
    rw [e, pvs_at ho _ hr] at hj'
    have hl : (pv d'.toList[j / 2]).length = 2 := rfl
    rw [← hj', getElem!_pos (pv d'.toList[j / 2]) (j % 2) (by omega), List.getElem?_eq_getElem (by omega)]
    rfl

end Go.Proofs.Ytkeahapgliljoaa
