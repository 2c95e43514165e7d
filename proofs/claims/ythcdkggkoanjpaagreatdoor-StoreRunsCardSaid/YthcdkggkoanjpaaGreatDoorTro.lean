/- The reference's Table, whatever the pairs: the bytes lie in new memory. Numbers and types by name. -/
import Derived.Test.YthcdkggkoanjpaaGreatDoorChecked
import Derived.WalkKit
import Derived.WalkLawsBesides
import Derived.Lib.Hide
import Derived.BigQuiet
import Derived.Deep.QuietTactic
import Derived.ArgAppend
import Derived.OwnWalk
import Derived.Deep.RegionLaw
import Derived.Deep.AppendLies
import Derived.Lib.AppendStr
import Derived.Laws.IdiomStrings
import Derived.Lib.SlBytesConst
import Derived.Lib.Bytealg
import Derived.Sort.Grow
import Derived.Test.YthcdkggkoanjpaaGreatDoorSrt
import Derived.Test.YthcdkggkoanjpaaGreatDoorCop
import Derived.Test.YthcdkggkoanjpaaGreatDoorPuw
import Derived.Lib.SliceRun
import Derived.Test.YthcdkggkoanjpaaGreatDoorIxw
import Derived.Test.YthcdkggkoanjpaaGreatDoorSti
import Derived.Test.YthcdkggkoanjpaaGreatDoorIxd
import Derived.Test.YthcdkggkoanjpaaGreatDoorRen
namespace Go.Proofs.YthcdkggkoanjpaaGreatDoor
open Go.RowKit Go.Lib Go.Sort
theorem cmp_lt : ∀ a b : List UInt8, compareBytes a b < 0 ↔ a < b
  | [], [] => by simp [compareBytes]
  | [], _ :: _ => by simp [compareBytes]
  | _ :: _, [] => by simp [compareBytes]
  | x :: a, y :: b => by
    unfold compareBytes
    rw [List.cons_lt_cons_iff]
    by_cases h1 : x < y
    · simp [h1]
    · by_cases h2 : y < x
      · have h3 : x ≠ y := fun e => by subst e; exact h1 h2
        simp [h1, h2, h3]
      · have h3 : x = y := by
          refine Decidable.byContradiction fun h => ?_
          rcases UInt8.lt_or_lt_of_ne h with h | h
          · exact h1 h
          · exact h2 h
        subst h3
        simp [UInt8.lt_irrefl, cmp_lt a b]
set_option maxRecDepth 100000 in
theorem bytealg_cmp (a b : ByteArray) (w : World) :
    Calls Tryz.prog 134 #[.string a, .string b] w fun e w' => e = .returned (.int .i64 (compareBytes a.data.toList b.data.toList)) ∧ w' = w := by
  go_enter Tryz.func134, Tryz.ntmps134
  go_wp2_with fail
  rw [run_callFunc_extern Tryz.func181 (by kernel_rfl) (by kernel_rfl) (by kernel_rfl) (e := Extern.BytealgCompare.compare) (by kernel_rfl), Lib.run_compareString]
  simp only [Result.andThen]
  rw [Oper.upon_value]
  go_wp2_with fail
  go_ret
  exact ⟨rfl, rfl⟩
set_option maxRecDepth 100000 in
theorem strings_cmp (a b : ByteArray) (w : World) :
    Calls Tryz.prog 90 #[.string a, .string b] w fun e w' => e = .returned (.int .i64 (compareBytes a.data.toList b.data.toList)) ∧ w' = w := by
  have H := Lib.hid (bytealg_cmp a b w)
  go_enter Tryz.func90, Tryz.ntmps90
  go_wp2_with (go_at_call 134; refine H.out.mono ?_; rintro e w' ⟨rfl, rfl⟩)
  go_ret
  exact ⟨rfl, rfl⟩
end Go.Proofs.YthcdkggkoanjpaaGreatDoor
namespace Go.Proofs.YthcdkggkoanjpaaGreatDoor
open Go.RowKit Go.Lib Go.Sort Go.Shelf
set_option maxRecDepth 100000
instance : Inhabited Prm := ⟨blankP⟩
def kD (o : Prm) : List UInt8 := o.key.data.toList
def cmpP (x y : Prm) : Int := compareBytes (kD x) (kD y)
theorem cmp_pairs (x y : Prm) (w : World) : Calls Tryz.prog 89 #[.agg (pv x).toArray, .agg (pv y).toArray] w fun e w' => e = .returned (.int .i64 (cmpP x y)) ∧ ∃ q os, w' = grow (w.drewN q) os := by
  obtain ⟨xk, xv⟩ := x
  obtain ⟨yk, yv⟩ := y
  unfold cmpP kD pv
  simp only
  have H := Lib.hid (strings_cmp xk yk)
  have hb1 := heap_alloc_new w (.cells #[.string xk, .string xv] 90)
  have hb2 := heap_alloc_new (w.alloc (.cells #[.string xk, .string xv] 90)) (.cells #[.string yk, .string yv] 90)
  have HW : Hid ((w.alloc (.cells #[.string xk, .string xv] 90)).alloc (.cells #[.string yk, .string yv] 90) = grow (w.drewN 0) #[.cells #[.string xk, .string xv] 90, .cells #[.string yk, .string yv] 90]) := Lib.hid (by rw [alloc_eq_grow, alloc_eq_grow, grow_grow]; rfl)
  go_enter Tryz.func89, Tryz.ntmps89
  go_wp2_with (go_at_call 90; refine (H.out _).mono ?_; rintro e w' ⟨rfl, rfl⟩)
  go_ret
  exact ⟨rfl, 0, _, HW.out⟩
theorem lt_cmpP (x y : Prm) : ltOf cmpP x y = decide (kD x < kD y) := by
  unfold ltOf cmpP
  rw [Bool.eq_iff_iff, decide_eq_true_eq, decide_eq_true_eq]
  exact cmp_lt _ _
theorem swo_cmpP : SWO (ltOf cmpP) where
  irrefl x := by rw [lt_cmpP]; simp [List.lt_irrefl]
  trans x y z h1 h2 := by
    rw [lt_cmpP, decide_eq_true_eq] at *
    exact List.lt_trans h1 h2
  ntrans x y z h1 h2 := by
    rw [lt_cmpP, decide_eq_false_iff_not] at *
    exact fun h => List.lt_irrefl _ (Std.lt_of_lt_of_le h (Std.le_trans (List.not_lt.1 h2) (List.not_lt.1 h1)))
theorem holds_pairs {w : World} {base g n c : Nat} {A : List Prm} (h : w.ownsRow base 90 2 (.slice (some ⟨g, 0, none⟩) n c) n (pvs A)) (hn : n = A.length) : HoldsK pv 2 w g 0 A.toArray := by
  intro j hj
  rw [size_flatK] at hj
  have hj2 : j < A.length * 2 := by simpa using hj
  refine ⟨?_, World.ownsRow.frozenAt h _⟩
  have hq : j / 2 < A.length := by omega
  have ho : A[j / 2]? = some A[j / 2] := List.getElem?_eq_getElem hq
  have hr : j % 2 < 2 := Nat.mod_lt _ (by decide)
  rw [get_flatK pv 2 A.toArray j (by simpa using hj), World.ownsRow.cellAt h (0 + j) (by omega)]
  have e : (0 + j) = (j / 2) * 2 + j % 2 := by omega
  have e2 : A.toArray[j / 2]! = A[j / 2] := by rw [getElem!_pos A.toArray (j / 2) (by simpa using hq)]; rfl
  rw [e, pvs_at ho _ hr, e2]
  have hl : (pv A[j / 2]).length = 2 := rfl
  rw [List.getElem?_eq_getElem (by omega), getElem!_pos (pv A[j / 2]) (j % 2) (by omega)]
  rfl
theorem turn_sorted {w : World} {g n : Nat} {os : Array Obj} (d : Array Prm) : Turn [g] w (sortWorldK pv 2 w g 0 n d os) := by
  unfold sortWorldK putRowK
  refine ⟨rfl, rfl, rfl, by simp, fun k hk hne => ?_⟩
  rw [heap_grow_old _ _ (by simpa using hk)]
  have : g ≠ k := fun e => hne (by rw [e]; simp)
  simp [putRow, mapBlock, Sort.ahead, Array.getElem?_modify, this]
theorem sort_pairs (base g n c : Nat) (A : List Prm) (w : World) (h : w.ownsRow base 90 2 (.slice (some ⟨g, 0, none⟩) n c) n (pvs A)) (hn : n = A.length) (hl : n ≤ 1000000) (hc : n ≤ c) :
    Calls Tryz.prog 88 #[.slice (some ⟨g, 0, none⟩) n c, .func (.func 89) #[] #[]] w fun e w' => e = .returned (.tuple #[]) ∧
      ∃ A' : List Prm, A'.Perm A ∧ (A'.Pairwise fun a b => ¬ kD b < kD a) ∧ Cells w' (.slice (some ⟨g, 0, none⟩) n c) 2 n (pvs A') ∧ Turn [g] w w' := by
  have eg : ∀ args w, (callFunc 89 args).run Tryz.prog w = .ok (.enter 89 args) w := enters_of Tryz.func89 (by kernel_rfl) rfl
  have hlt := (h.lt g rfl).2
  have hcmp : CmpLays Tryz.prog 89 #[] pv 2 cmpP g 0 A.toArray.size w := fun _ _ _ _ x y => cmp_pairs x y _
  have hH := holds_pairs h hn
  have hs : A.toArray.size = n := by simp [hn]
  have hcon := AnyQ.slices_SortFunc Tryz.sortPair 2 Tryz.isAgg90 Tryz.sizeOf90 pv (fun _ => rfl) (fun x v hv => by simp only [pv, List.mem_cons, List.not_mem_nil, or_false] at hv; rcases hv with rfl | rfl <;> rfl) cmpP swo_cmpP 89 #[] g 0 c A.toArray w eg hcmp hH hlt (by omega)
  rw [hs] at hcon
  refine hcon.mono ?_
  rintro e w' ⟨rfl, d', q, os, ⟨hz, _, hp⟩, hsort, rfl⟩
  have hz' : d'.size = n := hz.trans hs
  refine ⟨rfl, d'.toList, ?_, ?_, ?_, turn_sorted d'⟩
  · have e1 : d'.extract 0 n = d' := by rw [← hz']; simp
    have e2 : A.toArray.extract 0 n = A.toArray := by rw [← hs]; simp
    rw [e1, e2] at hp
    exact hp
  · rw [List.pairwise_iff_getElem]
    intro i j hi hj hij
    have := hsort i j (Nat.zero_le _) hij (by rw [← hz']; simpa using hj)
    rw [lt_cmpP, decide_eq_false_iff_not, getElem!_pos d' j (by simpa using hj), getElem!_pos d' i (by simpa using hi)] at this
    simpa using this
  · have hH' := holdsK_sortWorldK_c pv 2 w g 0 A.toArray d' q os hH hlt hz
    refine ⟨some ⟨g, 0, none⟩, c, rfl, by rw [pvs_length]; simp [hz'], hc, (fun e => by cases e), fun a ha j u hj => ?_⟩
    cases ha
    have hjl := (List.getElem?_eq_some_iff.1 hj).1
    rw [pvs_length] at hjl
    have hjl' : j < d'.size * 2 := by simpa using hjl
    have hq : j / 2 < d'.toList.length := by simp; omega
    have ho : d'.toList[j / 2]? = some d'.toList[j / 2] := List.getElem?_eq_getElem hq
    have hr : j % 2 < 2 := Nat.mod_lt _ (by decide)
    have h1 := (hH' j (by rw [size_flatK]; exact hjl')).1
    rw [Addr.add_lit, h1, get_flatK pv 2 d' j hjl']
    have e : j = (j / 2) * 2 + j % 2 := by omega
    have e2 : d'[j / 2]! = d'.toList[j / 2] := by rw [getElem!_pos d' (j / 2) (by omega)]; simp
    rw [e2]
    have hj' := hj
    rw [e, pvs_at ho _ hr] at hj'
    have hl : (pv d'.toList[j / 2]).length = 2 := rfl
    rw [← hj', getElem!_pos (pv d'.toList[j / 2]) (j % 2) (by omega), List.getElem?_eq_getElem (by omega)]
    rfl
end Go.Proofs.YthcdkggkoanjpaaGreatDoor
namespace Go.Proofs.YthcdkggkoanjpaaGreatDoor
open Go.RowKit Go.Lib Go.Sort
set_option maxRecDepth 100000
theorem sorted_is {A L : List Prm} (hp : A.Perm L) (hs : A.Pairwise fun a b => ¬ kD b < kD a) (hR : Rise L) : A = L := by
  have hap := rise_apart hR
  refine List.Perm.eq_of_pairwise (le := fun a b => ¬ kD b < kD a) (fun a b ha hb h1 h2 => ?_) hs (List.Pairwise.imp (fun {a b} hab h => ?_) hR) hp
  · have hk : a.key = b.key := text_inj' (by
      have : kD a = kD b := List.le_antisymm (List.not_lt.1 h1) (List.not_lt.1 h2)
      rw [ByteArray.toList_eq, ByteArray.toList_eq]
      exact this)
    have e1 := look_in hap (hp.subset ha)
    have e2 := look_in hap hb
    rw [hk, e2] at e1
    obtain ⟨ak, av⟩ := a
    obtain ⟨bk, bv⟩ := b
    simp only [Option.some.injEq] at hk e1
    rw [hk, e1]
  · have : kD a < kD b := by unfold kOf at hab; rw [ByteArray.toList_eq, ByteArray.toList_eq] at hab; exact hab
    exact List.lt_irrefl _ (List.lt_trans h this)
def Gath (w wr : World) (ao : Option Addr) (s c : Nat) (A : List Prm) : Prop := s = A.length ∧ Grow w wr ∧ wr.ownsRow w.heap.size 90 2 (.slice ao s c) s (pvs A) ∧ ∃ g, ao = some ⟨g, 0, none⟩
set_option maxHeartbeats 4000000 in
theorem ix_all2 {w : World} {x : Nat} {L : List Prm} {F : List Nat} (h : CI w x L F) (hf : FineW L) :
    Calls Tryz.prog 45 #[theIx x] w fun e w' => ∃ ao q c, e = .returned (.slice ao q c) ∧ Prr w' (.slice ao q c) q L ∧ (∀ a, (Value.slice ao q c).ownBlock = some a → w.heap.size ≤ a) ∧ Turn [] w w' := by
  have P := ix_len h hf
  obtain ⟨b, m, sl, Es, hX, hS, rfl⟩ := h
  have hp := hS.perm hX.pos hf.rise
  have hL := hf.len
  have hmt := hX.top
  obtain ⟨i0, hi, hz0, hz1, hz2⟩ := info_parts elemPair.info
  have HX := Lib.hid (And.intro hX (And.intro hS (And.intro hp (And.intro hf hL))))
  clear hX hS hp hL hf
  unfold theIx at P ⊢
  go_enter Tryz.func45, Tryz.ntmps45
  go_wp2_with fail
  refine P.mono ?_
  rintro e w0 ⟨rfl, rfl⟩
  clear P
  go_wp2_with (at_make; go_loud (refine wpList_make_own _ rfl (.const (.int .i64 0)) (.tmp 11) _ rfl w.heap.size 90 i0 _ 2 Tryz.underlying48 hi hz0 hz1 .i64 .i64 (L.length : Int) L.length rfl rfl rfl (by rw [hz2]; have := HX.out.2.2.2.2; omega) (by have := HX.out.2.2.2.2; unfold maxLen; omega) (Nat.le_refl _) ?_; intro w1 hown1 hg1; have c1 := (HX.out.1.turn (Turn.of_none hg1 : Turn [] w w1) (by simp)).cell; have H1 := Lib.hid (And.intro hown1 hg1); clear hown1 hg1))
  go_loopw [3, 18] (fun v i wr => ∃ (k s c : Nat) (ao : Option Addr), k ≤ m ∧ i = .int .i64 k ∧ v = .slice ao s c ∧ Hid (Gath w wr ao s c (Es.take k).flatten))
    (fun _ i _ => m - (RowKit.intOf i).toNat)
  case atStart => exact ⟨0, 0, L.length, some ⟨w.heap.size, 0, none⟩, Nat.zero_le _, rfl, rfl, Lib.hid ⟨rfl, (tg9 (Turn.of_none H1.out.2)), H1.out.1, _, rfl⟩⟩
  case round =>
    obtain ⟨k, s, c, ao, hk, rfl, rfl, hG⟩ := hrel
    by_cases hlt : k < m
    · have h3 : (k : Int) < (m : Int) := by omega
      obtain ⟨v, hv⟩ : ∃ v, sl[k]? = some v := ⟨_, List.getElem?_eq_getElem (by rw [HX.out.1.slen]; exact hlt)⟩
      obtain ⟨E, hE⟩ : ∃ E, Es[k]? = some E := ⟨_, List.getElem?_eq_getElem (by rw [HX.out.2.1.len]; exact hlt)⟩
      obtain ⟨n, hn⟩ := HX.out.1.ent k v E hv hE
      obtain ⟨ae, ce, rfl⟩ := hn.shape
      have hcell := (HX.out.1.turn (tb9 hG.out.2.1) (by simp)).tbl.cell hv
      have hnl : n ≤ 700000 := by have := HX.out.2.1.short HX.out.1.pos HX.out.2.2.2.1.rise hE; have := hn.1; have := HX.out.2.2.2.2; omega
      have HE := Lib.hid (And.intro hE hn)
      clear hv hE hn
      go_wp2_with fail
      clear hcell
      go_loopw [3, 24] (fun v i wr => ∃ (j s c : Nat) (ao : Option Addr), j ≤ n ∧ i = .int .i64 j ∧ v = .slice ao s c ∧ Hid (Gath w wr ao s c ((Es.take k).flatten ++ E.take j)))
        (fun _ i _ => n - (RowKit.intOf i).toNat)
      case atStart => exact ⟨0, s, c, ao, Nat.zero_le _, rfl, rfl, Lib.hid (by simpa using hG.out)⟩
      case round =>
        clear hG
        obtain ⟨j, s, c, ao, hj, rfl, rfl, hG⟩ := hrel
        by_cases hjn : j < n
        · have h4 : (j : Int) < (n : Int) := by omega
          obtain ⟨o, ho⟩ : ∃ o, E[j]? = some o := ⟨_, List.getElem?_eq_getElem (by have := HE.out.2.1; omega)⟩
          obtain ⟨g, c2, e, _, d0, d1, _⟩ := (HE.out.2.turn (tb9 hG.out.2.1) (by simp)).at ho
          obtain ⟨rfl, _, rfl⟩ : ae = some ⟨g, 0, none⟩ ∧ n = n ∧ ce = c2 := by simpa using e
          have HO := Lib.hid ho
          obtain ⟨ok, ov⟩ := o
          simp only at d0 d1
          have FL : Hid (s + 1 ≤ 1000000) := Lib.hid (by
            have h5 := hG.out.1
            have h6 := flat_next HE.out.1
            have h7 := flat_le Es (k + 1)
            have h8 := HX.out.2.2.1.length_eq
            have h9 := HX.out.2.2.2.2
            have h10 : (E.take j).length ≤ E.length := List.length_take_le' _ _
            rw [h6, List.length_append] at h7
            rw [List.length_append] at h5
            omega)
          have HC : Hid (Cells ((wr.alloc (.cells #[.string ok, .string ov] 147)).alloc (.cells #[.string ok, .string ov] 90)) (.slice (some ⟨wr.heap.size + 1, 0, none⟩) 1 1) 2 1 (pv ⟨ok, ov⟩)) := Lib.hid (by
            have := Cells.lit (wr.alloc (.cells #[.string ok, .string ov] 147)) (pv ⟨ok, ov⟩) 90 (0, 0) 2 1 rfl
            rw [World.size_alloc] at this
            exact this)
          clear ho e
          go_wp2_with (at_builtin; go_loud (refine wpList_append_gen elemPair rfl (.tmp 28) (.tmp 34) rfl w.heap.size _ s _ rfl (own_alloc (own_alloc hG.out.2.2.1 _) _) _ 1 (pv ⟨ok, ov⟩) rfl HC.out (by intro u hu; simp only [pv, List.mem_cons, List.not_mem_nil, or_false] at hu; rcases hu with rfl | rfl <;> rfl) (s + 1) rfl FL (by decide) (by have := hG.out.2.1.size; simp; omega) ?_; intro ao6 c6 w6 hown6 hb6 hg6 ho6; have HA := Lib.hid (And.intro hown6 hb6); clear hown6 hb6 hg6 ho6))
          go_wp2_with fail
          refine ⟨⟨j + 1, s + 1, c6, ao6, by omega, by go_num, rfl, Lib.hid ?_⟩, by simp [RowKit.intOf]; omega⟩
          have e1 : (Es.take k).flatten ++ E.take (j + 1) = ((Es.take k).flatten ++ E.take j) ++ [⟨ok, ov⟩] := by rw [take_next HO.out, List.append_assoc]
          have e2 : ∀ l : List Prm, pvs (l ++ [⟨ok, ov⟩]) = pvs l ++ pv ⟨ok, ov⟩ := fun l => by simp [pvs]
          have hsz := hG.out.2.1.size
          refine ⟨by rw [e1, List.length_append, ← hG.out.1]; rfl, ?_, ?_, ?_⟩
          · exact (((hG.out.2.1 : Below _ _ _).alloc hsz _).alloc (by simp; omega) _).trans HA.out.2
          · rw [e1, e2]
            exact HA.out.1
          · obtain ⟨_, ⟨h1, h2⟩ | ⟨g6, cap, cur, e, _⟩⟩ := HA.out.1
            · omega
            · simp only [Value.slice.injEq] at e
              exact ⟨g6, e.1⟩
        · have h4 : ¬ (j : Int) < (n : Int) := by omega
          obtain rfl : j = n := by omega
          have hG2 : Hid (Gath w wr ao s c (Es.take (k + 1)).flatten) := Lib.hid (by
            rw [flat_next HE.out.1]
            have := hG.out
            rwa [List.take_of_length_le (l := E) (by have := HE.out.2.1; omega)] at this)
          clear hG
          go_wp2_with fail
          exact ⟨⟨k + 1, s, c, ao, by omega, by go_num, rfl, hG2⟩, by simp [RowKit.intOf]; omega⟩
    · have h3 : ¬ (k : Int) < (m : Int) := by omega
      obtain rfl : k = m := by omega
      have hG2 := hG.out
      rw [List.take_of_length_le (by have := HX.out.2.1.len; omega)] at hG2
      obtain ⟨hs, hg, hown, g, rfl⟩ := hG2
      have hsl := HX.out.2.2.1.length_eq
      have hgb := (hown.lt g rfl).1
      have hsc : s ≤ c := by
        obtain ⟨_, ⟨h1, h2⟩ | ⟨g6, cap, cur, e, _, _, h5, _⟩⟩ := hown
        · cases h1
        · simp only [Value.slice.injEq] at e
          obtain ⟨_, _, rfl⟩ := e
          exact h5
      have S := sort_pairs w.heap.size g s c Es.flatten wr hown hs (by have := HX.out.2.2.2.2; omega) hsc
      have HG := Lib.hid (And.intro hs (And.intro hg (And.intro hsl hgb)))
      clear hs hg hown hsl hgb hG
      go_wp2_with fail
      refine S.mono ?_
      rintro e w7 ⟨rfl, A', hp7, hs7, hc7, t7⟩
      have H7 := Lib.hid (And.intro hp7 (And.intro hs7 (And.intro hc7 t7)))
      clear hp7 hs7 hc7 t7 S
      go_wp2_with fail
      go_ret
      obtain ⟨hp7, hs7, hc7, t7⟩ := H7.out
      obtain ⟨hs, hg, hsl, hgb⟩ := HG.out
      have hAL : A' = L := sorted_is (hp7.trans HX.out.2.2.1) hs7 HX.out.2.2.2.1.rise
      rw [hAL] at hc7
      have HSM : Hid (∀ o ∈ L, o.key.size ≤ maxLen ∧ o.val.size ≤ maxLen) := Lib.hid fun o ho => by
        have := HX.out.2.2.2.1.small o ho
        unfold maxLen
        omega
      refine ⟨some ⟨g, 0, none⟩, s, c, rfl, ⟨by omega, by have := HX.out.2.2.2.2; unfold maxLen; omega, hc7, HSM.out⟩, fun a ha => ?_, (tb9 hg).trans' t7 fun q hq => .inr ?_⟩
      · have e : g = a := by simpa [Value.ownBlock] using ha
        rw [← e]; exact hgb
      · have e : q = g := by simpa using hq
        rw [e]; exact hgb
theorem ix_all {w : World} {x : Nat} {L : List Prm} {F : List Nat} (h : CI w x L F) (hf : FineW L) :
    Calls Tryz.prog 45 #[theIx x] w fun e w' => ∃ ao q c, e = .returned (.slice ao q c) ∧ Prr w' (.slice ao q c) q L ∧ Turn [] w w' :=
  (ix_all2 h hf).mono fun _ _ ⟨ao, q, c, e, h1, _, h3⟩ => ⟨ao, q, c, e, h1, h3⟩
end Go.Proofs.YthcdkggkoanjpaaGreatDoor
namespace Go.Proofs.YthcdkggkoanjpaaGreatDoor
open Go.RowKit Go.Lib
set_option maxRecDepth 100000
theorem ix_kept : IxK CI where
  lt := fun h k hk => by
    obtain ⟨b, m, sl, Es, hX, _, rfl⟩ := h
    exact hX.lt k hk
  keep := fun h t hd => by
    obtain ⟨b, m, sl, Es, hX, hS, rfl⟩ := h
    exact ⟨b, m, sl, Es, hX.turn t hd, hS, rfl⟩
  new := ix_new
  put := fun h hf k v hk _ => ix_put h hf.wide k v (by omega)
  get := fun h hf k hk => ix_get h hf.wide k (by omega)
  del := fun h hf k hk => ix_del h hf.wide k (by omega)
  len := fun h hf => (ix_len h hf.wide).mono fun _ _ ⟨e, hw⟩ => ⟨e, hw ▸ Turn.refl _ _⟩
  all := fun h hf => ix_all h hf.wide
end Go.Proofs.YthcdkggkoanjpaaGreatDoor
namespace Go.Proofs.YthcdkggkoanjpaaGreatDoor
open Go.RowKit Go.Lib
set_option maxRecDepth 100000
def stob (b q i : Nat) (most : Int) : Obj := .cells #[theDisk b, .pointer (some ⟨q, 0, none⟩), theIx i, .int .i64 most] 88
theorem stob_0 {w : World} {x b q i : Nat} {most : Int} (h : w.heap[x]? = some (stob b q i most)) : w.cell? ⟨x, 0, none⟩ = some (theDisk b) := cells_of h 0 _ rfl
theorem stob_1 {w : World} {x b q i : Nat} {most : Int} (h : w.heap[x]? = some (stob b q i most)) : w.cell? ⟨x, 1, none⟩ = some (.pointer (some ⟨q, 0, none⟩)) := cells_of h 1 _ rfl
theorem stob_2 {w : World} {x b q i : Nat} {most : Int} (h : w.heap[x]? = some (stob b q i most)) : w.cell? ⟨x, 2, none⟩ = some (theIx i) := cells_of h 2 _ rfl
theorem stob_3 {w : World} {x b q i : Nat} {most : Int} (h : w.heap[x]? = some (stob b q i most)) : w.cell? ⟨x, 3, none⟩ = some (.int .i64 most) := cells_of h 3 _ rfl
structure SC (w : World) (base b x q i : Nat) (M : MD) (n : Nat) (s : Bool) (L : List Prm) (most : Int) (Fd Fi : List Nat) : Prop where
  log : CV w base b q M n s Fd
  fit : Fit2 M n s
  ix : CI w i L Fi
  rise : Rise L
  cell : w.heap[x]? = some (stob b q i most)
  xq : x ≠ q
  xd : x ∉ Fd
  xi : x ∉ Fi
  qi : q ∉ Fi
  di : ∀ k ∈ Fd, k ∉ Fi
  bx : base ≤ x
  bq : base ≤ q
  bi : ∀ k ∈ Fi, base ≤ k
def stF (x q : Nat) (Fd Fi : List Nat) : List Nat := x :: q :: (Fd ++ Fi)
theorem mem_stF {k x q : Nat} {Fd Fi : List Nat} : k ∈ stF x q Fd Fi ↔ k = x ∨ k = q ∨ k ∈ Fd ∨ k ∈ Fi := by
  unfold stF
  rw [List.mem_cons, List.mem_cons, List.mem_append]
def CSt : SP := fun w base b x M n s L most F => ∃ q i Fd Fi, SC w base b x q i M n s L most Fd Fi ∧ F = stF x q Fd Fi
def ISt : SI := fun w x L F => ∃ b q i most Fi, CI w i L Fi ∧ Rise L ∧ w.heap[x]? = some (stob b q i most) ∧ x ∉ Fi ∧ F = x :: Fi
section
variable {w w' : World} {base b x q i n : Nat} {M : MD} {s : Bool} {L : List Prm} {most : Int} {Fd Fi F G : List Nat}
theorem SC.ixlt (h : SC w base b x q i M n s L most Fd Fi) : ∀ k ∈ Fi, k < w.heap.size := ix_kept.lt h.ix
theorem CSt_lt (h : CSt w base b x M n s L most F) : ∀ k ∈ F, base ≤ k ∧ k < w.heap.size := by
  obtain ⟨q, i, Fd, Fi, h, rfl⟩ := h
  intro k hk
  rcases mem_stF.1 hk with rfl | rfl | hk | hk
  · exact ⟨h.bx, lt_of h.cell⟩
  · exact ⟨h.bq, h.log.lt⟩
  · exact h.log.1.lt k hk
  · exact ⟨h.bi k hk, h.ixlt k hk⟩
theorem SC.keep (h : SC w base b x q i M n s L most Fd Fi) (t : Turn G w w') (hG : ∀ k ∈ stF x q Fd Fi, k ∉ G) : SC w' base b x q i M n s L most Fd Fi where
  log := h.log.keep t (hG q (mem_stF.2 (.inr (.inl rfl)))) fun k hk => hG k (mem_stF.2 (.inr (.inr (.inl hk))))
  fit := h.fit
  ix := ix_kept.keep h.ix t fun k hk => hG k (mem_stF.2 (.inr (.inr (.inr hk))))
  rise := h.rise
  cell := t.heap h.cell (hG x (mem_stF.2 (.inl rfl)))
  xq := h.xq
  xd := h.xd
  xi := h.xi
  qi := h.qi
  di := h.di
  bx := h.bx
  bq := h.bq
  bi := h.bi
theorem CSt_keep (h : CSt w base b x M n s L most F) (t : Turn G w w') (hG : ∀ k ∈ F, k ∉ G) : CSt w' base b x M n s L most F := by
  obtain ⟨q, i, Fd, Fi, h, rfl⟩ := h
  exact ⟨q, i, Fd, Fi, h.keep t hG, rfl⟩
theorem CSt_new (h : CSt w base b x M n s L most F) (t : Turn [] w w') : CSt w' base b x M n s L most F := CSt_keep h t (by simp)
theorem CSt_parts (h : CSt w base b x M n s L most F) : ∃ Fd Fi, CD w base b M Fd ∧ ISt w x L Fi ∧ (∀ k ∈ Fd, k ∈ F ∧ k ∉ Fi) ∧ ∀ k ∈ Fi, k ∈ F := by
  obtain ⟨q, i, Fd, Fi, h, rfl⟩ := h
  refine ⟨Fd, x :: Fi, h.log.1, ⟨b, q, i, most, Fi, h.ix, h.rise, h.cell, h.xi, rfl⟩, fun k hk => ⟨mem_stF.2 (.inr (.inr (.inl hk))), fun hm => ?_⟩, fun k hk => ?_⟩
  · rcases List.mem_cons.1 hm with rfl | hm
    · exact h.xd hk
    · exact h.di k hk hm
  · rcases List.mem_cons.1 hk with rfl | hk
    · exact mem_stF.2 (.inl rfl)
    · exact mem_stF.2 (.inr (.inr (.inr hk)))
theorem ISt_lt (h : ISt w x L F) : ∀ k ∈ F, k < w.heap.size := by
  obtain ⟨b, q, i, most, Fi, h1, h2, h3, h4, rfl⟩ := h
  intro k hk
  rcases List.mem_cons.1 hk with rfl | hk
  · exact lt_of h3
  · exact ix_kept.lt h1 k hk
theorem ISt_keep (h : ISt w x L F) (t : Turn G w w') (hG : ∀ k ∈ F, k ∉ G) : ISt w' x L F := by
  obtain ⟨b, q, i, most, Fi, h1, h2, h3, h4, rfl⟩ := h
  exact ⟨b, q, i, most, Fi, ix_kept.keep h1 t (fun k hk => hG k (List.mem_cons_of_mem _ hk)), h2, t.heap h3 (hG x (List.mem_cons_self ..)), h4, rfl⟩
theorem CSt_rise (h : CSt w base b x M n s L most F) : Rise L := by
  obtain ⟨q, i, Fd, Fi, h, _⟩ := h
  exact h.rise
variable {M' : MD} {n' : Nat} {s' : Bool} {L' : List Prm}
theorem SC.log_next (h : SC w base b x q i M n s L most Fd Fi) (hn : CVNext w w' base b q M' n' s' Fd) (hf : Fit2 M' n' s') : SNext CSt w w' base b x M' n' s' L most (stF x q Fd Fi) := by
  obtain ⟨F', h1, h2, t⟩ := hn
  have hx := lt_of h.cell
  have hq := h.log.lt
  have keepI : ∀ k ∈ Fi, k ∉ q :: Fd := fun k hk hm => by
    rcases List.mem_cons.1 hm with rfl | hm
    · exact h.qi hk
    · exact h.di k hm hk
  refine ⟨stF x q F' Fi, ⟨q, i, F', Fi, ⟨h1, hf, ix_kept.keep h.ix t keepI, h.rise, t.heap h.cell fun hm => ?_, h.xq, fun hm => ?_, h.xi, h.qi, fun k hk hm => ?_, h.bx, h.bq, h.bi⟩, rfl⟩, fun k hk => ?_, t.mono fun k hk => ?_⟩
  · rcases List.mem_cons.1 hm with e | hm
    · exact h.xq e
    · exact h.xd hm
  · rcases h2 x hm with h' | h'
    · exact h.xd h'
    · omega
  · rcases h2 k hk with h' | h'
    · exact h.di k h' hm
    · have := h.ixlt k hm
      omega
  · rcases mem_stF.1 hk with e | e | hk | hk
    · exact .inl (mem_stF.2 (.inl e))
    · exact .inl (mem_stF.2 (.inr (.inl e)))
    · exact (h2 k hk).imp (fun h => mem_stF.2 (.inr (.inr (.inl h)))) id
    · exact .inl (mem_stF.2 (.inr (.inr (.inr hk))))
  · rcases List.mem_cons.1 hk with e | hk
    · exact mem_stF.2 (.inr (.inl e))
    · exact mem_stF.2 (.inr (.inr (.inl hk)))
theorem SC.disk_next (h : SC w base b x q i M n s L most Fd Fi) (hn : Next w w' base b M' Fd) (hf : Fit2 M' n s) : SNext CSt w w' base b x M' n s L most (stF x q Fd Fi) := h.log_next (h.log.disk hn) hf
theorem SC.ix_next (h : SC w base b x q i M n s L most Fd Fi) (hn : INext CI w w' i L' Fi) (hR : Rise L') : SNext CSt w w' base b x M n s L' most (stF x q Fd Fi) := by
  obtain ⟨F', h1, h2, t⟩ := hn
  have hx := lt_of h.cell
  have hq := h.log.lt
  have hb := h.log.1.1
  refine ⟨stF x q Fd F', ⟨q, i, Fd, F', ⟨h.log.keep t h.qi h.di, h.fit, h1, hR, t.heap h.cell h.xi, h.xq, h.xd, fun hm => ?_, fun hm => ?_, fun k hk hm => ?_, h.bx, h.bq, fun k hk => ?_⟩, rfl⟩, fun k hk => ?_, t.mono fun k hk => mem_stF.2 (.inr (.inr (.inr hk)))⟩
  · rcases h2 x hm with h' | h'
    · exact h.xi h'
    · omega
  · rcases h2 q hm with h' | h'
    · exact h.qi h'
    · omega
  · rcases h2 k hm with h' | h'
    · exact h.di k hk h'
    · have := (h.log.1.lt k hk).2
      omega
  · rcases h2 k hk with h' | h'
    · exact h.bi k h'
    · omega
  · rcases mem_stF.1 hk with e | e | hk | hk
    · exact .inl (mem_stF.2 (.inl e))
    · exact .inl (mem_stF.2 (.inr (.inl e)))
    · exact .inl (mem_stF.2 (.inr (.inr (.inl hk))))
    · exact (h2 k hk).imp (fun h => mem_stF.2 (.inr (.inr (.inr h)))) id
theorem CSt.next (h : CSt w base b x M n s L most F) : SNext CSt w w base b x M n s L most F := ⟨F, h, fun _ hk => .inl hk, Turn.refl _ _⟩
end
theorem SNext.new {w w1 w' : World} {base b x n1 : Nat} {M1 : MD} {s1 : Bool} {L1 : List Prm} {most : Int} {F : List Nat} (h : SNext CSt w w1 base b x M1 n1 s1 L1 most F) (t : Turn [] w1 w') : SNext CSt w w' base b x M1 n1 s1 L1 most F := by
  obtain ⟨F1, h1, h2, t1⟩ := h
  exact ⟨F1, CSt_new h1 t, h2, t1.trans t.nil_any⟩
theorem SNext.cat {w w1 w' : World} {base b x n' : Nat} {M' : MD} {s' : Bool} {L' : List Prm} {most : Int} {F F1 : List Nat} (h2 : ∀ k ∈ F1, k ∈ F ∨ w.heap.size ≤ k) (t : Turn F w w1) (k : SNext CSt w1 w' base b x M' n' s' L' most F1) : SNext CSt w w' base b x M' n' s' L' most F := by
  obtain ⟨F2, k1, k2, t'⟩ := k
  refine ⟨F2, k1, fun q hq => ?_, t.trans' t' h2⟩
  rcases k2 q hq with h | h
  · exact h2 q h
  · exact .inr (Nat.le_trans t.size h)
end Go.Proofs.YthcdkggkoanjpaaGreatDoor
namespace Go.Proofs.YthcdkggkoanjpaaGreatDoor
open Go.RowKit Go.Lib Go.Sort
theorem reftable_ownS (v : Value) (n : Nat) (L : List Prm) (w : World) (hr : Prr w v n L) (hb : Slim L) : Calls Tryz.prog 92 #[v] w (ToldB L w) := by
  by_cases hR : Rise L
  · have hn : n ≤ 500000 := by have := hr.1; have := bulkP_length L; have := hb.1; omega
    refine (ref_tableS v n L w hr hR hb hn).mono ?_
    rintro e w' ⟨ao, m, c, rfl, h1, h2⟩
    exact ⟨ao, m, c, by simp [errT, hR], by simp only [bytesT, hR, if_true]; exact h1, h2⟩
  · refine (ref_table_no v n L w hr hR).mono ?_
    rintro e w' ⟨rfl, h2⟩
    exact ⟨none, 0, 0, by simp [errT, hR], by simp only [bytesT, hR, if_false]; exact ⟨rfl, World.ownsRow_nil _ _ _ _⟩, h2⟩
end Go.Proofs.YthcdkggkoanjpaaGreatDoor
