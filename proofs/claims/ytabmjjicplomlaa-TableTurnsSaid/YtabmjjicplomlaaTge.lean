/- Tables of the code: find, Get. Numbers and types by name. -/
import Derived.Test.YtabmjjicplomlaaPrl
import Derived.Test.YtabmjjicplomlaaCmo
import Derived.Shelf.SlSortCmp.QuietGrown
import Derived.Test.YtabmjjicplomlaaPuw
/- Pairs looked up by binary search: slices.BinarySearchFunc, table.search. Numbers and types by name. -/
namespace Go.Proofs.Ytabmjjicplomlaa
open Go.RowKit Go.Lib Go.Sort

theorem cmp_pair (p : Prm) (k : ByteArray) (c : Int) (hc : compareBytes p.key.data.toList k.data.toList = c) (w : World) : Calls Try.prog 56 #[.agg #[.string p.key, .string p.val], .string k] w fun e w' => e = .returned (.int .i64 c) ∧ ∃ q os, w' = grow (w.drewN q) os := by
  obtain ⟨pk, pv⟩ := p
  subst hc
  simp only
  have H := Lib.hid (strings_cmp pk k)
  have hb1 := heap_alloc_new w (.cells #[.string pk, .string pv] 48)
  have HW : Hid (w.alloc (.cells #[.string pk, .string pv] 48) = grow (w.drewN 0) #[.cells #[.string pk, .string pv] 48]) := Lib.hid (by rw [alloc_eq_grow]; rfl)
  go_enter Try.func56, Try.ntmps56
  go_wp2_with (go_at_call 54; refine (H.out _).mono ?_; rintro e w' ⟨rfl, rfl⟩)
  go_ret
  exact ⟨rfl, 0, _, HW.out⟩

/-- How many keys are less. -/
def lowP (L : List Prm) (k : ByteArray) : Nat := (L.takeWhile fun o => decide (o.key.data.toList < k.data.toList)).length
/-- Is it there? -/
def hasP (L : List Prm) (k : ByteArray) : Bool := match L[lowP L k]? with | some o => decide (o.key = k) | none => false

theorem lowP_le (L : List Prm) (k : ByteArray) : lowP L k ≤ L.length := by unfold lowP; exact (List.takeWhile_sublist _).length_le
theorem lowP_of {L : List Prm} {k : ByteArray} {i : Nat} (hi : i ≤ L.length) (h1 : ∀ t z, t < i → L[t]? = some z → z.key.data.toList < k.data.toList) (h2 : ∀ z, L[i]? = some z → ¬ z.key.data.toList < k.data.toList) : lowP L k = i := by
  unfold lowP
  induction L generalizing i with
  | nil => simp at hi; simp [hi]
  | cons a l ih =>
    cases i with
    | zero =>
      have := h2 a rfl
      rw [List.takeWhile_cons_of_neg (by simpa using this)]
      rfl
    | succ i =>
      have := h1 0 a (by omega) rfl
      rw [List.takeWhile_cons_of_pos (by simpa using this), List.length_cons, ih (i := i) (by simpa using hi) (fun t z ht hz => h1 (t + 1) z (by omega) (by simpa using hz)) (fun z hz => h2 z (by simpa using hz))]

theorem rise_at {L : List Prm} (h : Rise L) {i j : Nat} (hij : i < j) {x y : Prm} (hx : L[i]? = some x) (hy : L[j]? = some y) : kOf x < kOf y := by
  obtain ⟨h1, e1⟩ := List.getElem?_eq_some_iff.1 hx
  obtain ⟨h2, e2⟩ := List.getElem?_eq_some_iff.1 hy
  have := List.pairwise_iff_getElem.1 h i j h1 h2 hij
  rw [e1, e2] at this
  exact this
theorem kOf_data (o : Prm) : kOf o = o.key.data.toList := by unfold kOf; rw [ByteArray.toList_eq]

theorem below_grow (w : World) (q : Nat) (os : Array Obj) : Below w.heap.size w (grow (w.drewN q) os) := ⟨rfl, rfl, rfl, by rw [size_grow]; exact Nat.le_add_right _ _, fun k hk => heap_grow_old _ os hk⟩
theorem grow_more (w : World) (q r : Nat) (os os2 : Array Obj) : grow ((grow (w.drewN q) os).drewN r) os2 = grow (w.drewN (q + r)) (os ++ os2) := by
  show grow (grow ((w.drewN q).drewN r) os) os2 = _
  rw [grow_grow, World.drewN_drewN]

/-- What the search tells. -/
def FoundP (L : List Prm) (k : ByteArray) (w : World) (e : Ending) (w' : World) : Prop := e = .returned (.tuple #[.int .i64 (lowP L k : Nat), .bool (hasP L k)]) ∧ Below w.heap.size w w'

set_option maxRecDepth 100000 in
set_option maxHeartbeats 4000000 in
theorem search_func (v : Value) (n : Nat) (L : List Prm) (k : ByteArray) (w : World) (hr : Prr w v n L) (hR : Rise L) (hl : n ≤ 1000000000000) :
    Calls Try.prog 55 #[v, .string k, .func (.func 56) #[] #[]] w (FoundP L k w) := by
  obtain ⟨ao, c, rfl⟩ := hr.shape
  have HR := Lib.hid (And.intro hr hR)
  have hm := hr.2.1
  unfold maxLen at hm
  clear hr hR
  go_enter Try.func55, Try.ntmps55
  go_wp2_with fail
  go_loopw [9, 10] (fun i j wr => ∃ (i1 j1 : Nat), i = .int .i64 (i1 : Int) ∧ j = .int .i64 (j1 : Int) ∧ i1 ≤ j1 ∧ j1 ≤ n ∧ Hid ((∃ q os, wr = grow (w.drewN q) os) ∧ (∀ t z, t < i1 → L[t]? = some z → z.key.data.toList < k.data.toList) ∧ (∀ t z, j1 ≤ t → L[t]? = some z → ¬ z.key.data.toList < k.data.toList)))
    (fun i j _ => (RowKit.intOf j).toNat - (RowKit.intOf i).toNat)
  case atStart =>
    refine ⟨0, n, rfl, rfl, Nat.zero_le _, Nat.le_refl _, Lib.hid ⟨⟨0, #[], by rw [grow_empty]; rfl⟩, fun t z ht _ => by omega, fun t z ht hz => ?_⟩⟩
    have := (List.getElem?_eq_some_iff.1 hz).1
    have := HR.out.1.1
    omega
  case round =>
    obtain ⟨i1, j1, rfl, rfl, hij, hjn, hs⟩ := hrel
    by_cases hlt : i1 < j1
    · have h3 : (i1 : Int) < (j1 : Int) := by omega
      have hib : i1 + j1 ≤ 2 * n := by omega
      obtain ⟨d, hd⟩ : ∃ d : Nat, (i1 + j1) / 2 = d := ⟨_, rfl⟩
      have hdz : ((i1 : Int) + (j1 : Int)) / 2 = (d : Int) := by omega
      have hdn : d < n := by omega
      have hdn2 : (d : Int) < (n : Int) := by omega
      obtain ⟨⟨q, os, rfl⟩, s2, s3⟩ := hs.out
      have HG := below_grow w q os
      obtain ⟨a, p, rfl, hp, c0, c1, _, _⟩ := (HR.out.1.later HG).at hdn
      obtain ⟨cv, hcv⟩ : ∃ cv, compareBytes p.key.data.toList k.data.toList = cv := ⟨_, rfl⟩
      have CV := Lib.hid (fun w => cmp_pair p k cv hcv w)
      have CL : Hid ((cv < 0) = (p.key.data.toList < k.data.toList)) := Lib.hid (by rw [← hcv]; exact propext (cmp_lt _ _))
      have HX := Lib.hid (And.intro hp (And.intro s2 (And.intro s3 (And.intro hd (And.intro hij hjn)))))
      obtain ⟨pk, pv⟩ := p
      simp only at c0 c1
      generalize hW : grow (w.drewN q) os = W at *
      have HW := Lib.hid hW
      clear hp s2 s3 hd hij hjn hcv hs hW HG
      by_cases c1 : cv < 0
      · go_wp2_with (go_at_call 56; refine (CV.out _).mono ?_; rintro e w' ⟨rfl, q2, os2, rfl⟩)
        obtain ⟨hp, s2, s3, hd, hij, hjn⟩ := HX.out
        have hlz : pk.data.toList < k.data.toList := CL.out ▸ c1
        refine ⟨⟨d + 1, j1, by simp, rfl, by omega, hjn, Lib.hid ⟨⟨q + q2, os ++ os2, by rw [← HW.out, grow_more]⟩, fun t z ht hz => ?_, s3⟩⟩, by simp only [RowKit.intOf]; omega⟩
        rcases Nat.lt_or_ge t d with h | h
        · have := rise_at HR.out.2 h hz hp
          rw [kOf_data, kOf_data] at this
          exact List.lt_trans this hlz
        · obtain rfl : t = d := by omega
          rw [hp] at hz; cases hz; exact hlz
      · go_wp2_with (go_at_call 56; refine (CV.out _).mono ?_; rintro e w' ⟨rfl, q2, os2, rfl⟩)
        obtain ⟨hp, s2, s3, hd, hij, hjn⟩ := HX.out
        have hlz : ¬ pk.data.toList < k.data.toList := by rw [← CL.out]; omega
        refine ⟨⟨i1, d, rfl, by simp, by omega, by omega, Lib.hid ⟨⟨q + q2, os ++ os2, by rw [← HW.out, grow_more]⟩, s2, fun t z ht hz => ?_⟩⟩, by simp only [RowKit.intOf]; omega⟩
        rcases Nat.eq_or_lt_of_le ht with rfl | h
        · rw [hp] at hz; cases hz; exact hlz
        · have := rise_at HR.out.2 h hp hz
          rw [kOf_data, kOf_data] at this
          exact fun h2 => hlz (List.lt_trans this h2)
    · have h3 : ¬ (i1 : Int) < (j1 : Int) := by omega
      obtain rfl : i1 = j1 := by omega
      obtain ⟨⟨q, os, rfl⟩, s2, s3⟩ := hs.out
      have HG := below_grow w q os
      have hlow : lowP L k = i1 := lowP_of (by have := HR.out.1.1; omega) s2 (fun z hz => s3 i1 z (Nat.le_refl _) hz)
      generalize hW : grow (w.drewN q) os = W at *
      by_cases hn2 : i1 < n
      · have h4 : (i1 : Int) < (n : Int) := by omega
        obtain ⟨a, p, rfl, hp, c0, c1, _, _⟩ := (HR.out.1.later HG).at hn2
        obtain ⟨cv, hcv⟩ : ∃ cv, compareBytes p.key.data.toList k.data.toList = cv := ⟨_, rfl⟩
        have CV := Lib.hid (fun w => cmp_pair p k cv hcv w)
        have hhas : hasP L k = decide (cv = 0) := by
          unfold hasP
          rw [hlow, hp]
          simp only
          rw [← hcv]
          exact decide_eq_decide.2 ⟨fun h => (cmp_eq0 _ _).2 (by rw [h]), fun h => text_inj' (by rw [ByteArray.toList_eq, ByteArray.toList_eq]; exact (cmp_eq0 _ _).1 h)⟩
        have HH := Lib.hid (And.intro hlow (And.intro hhas HG))
        obtain ⟨pk, pv⟩ := p
        simp only at c0 c1
        clear hp hcv hlow hhas HG hW hs s2 s3 hij hjn
        go_wp2_with (go_at_call 56; refine (CV.out _).mono ?_; rintro e w' ⟨rfl, q2, os2, rfl⟩)
        go_ret2
        refine ⟨by rw [HH.out.1, HH.out.2.1]; first | rfl | (congr 3), HH.out.2.2.trans ((below_grow W q2 os2).mono (by exact HH.out.2.2.size))⟩
      · have h4 : ¬ (i1 : Int) < (n : Int) := by omega
        have hhas : hasP L k = false := by
          unfold hasP
          rw [hlow, List.getElem?_eq_none (by have := HR.out.1.1; omega)]
        have HH := Lib.hid (And.intro hlow (And.intro hhas HG))
        clear hlow hhas HG hW hs s2 s3 hij hjn
        go_wp2_with fail
        go_ret2
        exact ⟨by rw [HH.out.1, HH.out.2.1]; rfl, HH.out.2.2⟩

theorem search_pairs (v : Value) (n : Nat) (L : List Prm) (k : ByteArray) (w : World) (hr : Prr w v n L) (hR : Rise L) (hl : n ≤ 1000000000000) :
    Calls Try.prog 35 #[v, .string k] w (FoundP L k w) := by
  have H := Lib.hid (search_func v n L k w hr hR hl)
  obtain ⟨ao, c, rfl⟩ := hr.shape
  clear hr hR hl
  go_enter Try.func35, Try.ntmps35
  go_wp2_with (go_at_call 55; refine H.out.mono ?_; rintro e w' ⟨rfl, hb⟩)
  go_ret2
  exact ⟨rfl, hb⟩

end Go.Proofs.Ytabmjjicplomlaa

/- Tables of the code: Right, find, Get. Numbers and types by name. -/
namespace Go.Proofs.Ytabmjjicplomlaa
open Go.RowKit Go.Lib Go.Sort

set_option maxRecDepth 100000 in
set_option maxHeartbeats 4000000 in
theorem tright_draws (v : Value) (n : Nat) (L : List Prm) (w : World) (hr : Prr w v n L) :
    Calls Try.prog 17 #[v] w fun e w' => ∃ q, e = .returned (.bool (decide (Rise L))) ∧ w' = w.drewN q := by
  obtain ⟨ao, c, rfl⟩ := hr.shape
  have HR := Lib.hid hr
  have hm := hr.2.1
  unfold maxLen at hm
  clear hr
  go_enter Try.func17, Try.ntmps17
  go_wp2_with fail
  go_loopw [3] (fun i wr => ∃ m q : Nat, i = .int .i64 m ∧ 1 ≤ m ∧ (m = 1 ∨ m ≤ n) ∧ Hid (∀ j a b, j + 1 < m → L[j]? = some a → L[j + 1]? = some b → kOf a < kOf b) ∧ wr = w.drewN q)
    (fun i _ => n + 1 - (RowKit.intOf i).toNat)
  case atStart => exact ⟨1, 0, rfl, Nat.le_refl _, .inl rfl, Lib.hid (fun j a b h => by omega), rfl⟩
  case round =>
    obtain ⟨m, q, rfl, hm1, hk, hs, hw⟩ := hrel
    by_cases hlt : m < n
    · have h3 : (m : Int) < (n : Int) := by omega
      obtain ⟨k, hkm⟩ : ∃ k, m = k + 1 := ⟨m - 1, by omega⟩
      have h4 : (k : Int) < (n : Int) := by omega
      have h5 : k < n := by omega
      have u1 : IntKind.i64.wrap ((m : Int) - 1) = (k : Int) := by rw [IntKind.wrap_i64]; omega
      have HR' : Prr wr (.slice ao n c) n L := by rw [hw]; exact HR.out
      obtain ⟨a, o, rfl, ho, c0, _, _, _⟩ := HR'.at hlt
      obtain ⟨a', o', e, ho', d0, _, _, _⟩ := HR'.at (k := k) (by omega)
      cases e
      rw [hkm] at ho
      have HO := Lib.hid (And.intro ho (And.intro ho' (And.intro hw hkm)))
      clear ho ho' hw HR' hkm
      by_cases hb : Op.bytesLess o'.key.toList o.key.toList = true
      case neg =>
        have HN : Hid (¬ Rise L) := Lib.hid (fun hR => by
          have h1 := rise_next hR HO.out.2.1 HO.out.1
          unfold kOf at h1
          exact hb (by rw [bytesLess_eq]; simpa using h1))
        rw [Bool.not_eq_true] at hb
        go_wp2_with fail
        go_quiet (fail)
        go_wp2
        go_ret
        exact ⟨q + nq, by rw [decide_eq_false HN.out]; rfl, by rw [HO.out.2.2.1, World.drewN_drewN]⟩
      case pos =>
        have HN : Hid (kOf o' < kOf o) := Lib.hid (by
          unfold kOf
          rw [bytesLess_eq] at hb
          simpa using hb)
        go_wp2_with fail
        go_quiet (fail)
        go_wp2
        refine ⟨⟨m + 1, q + nq, by go_num, by omega, .inr (by omega), Lib.hid (fun j a b hj h1 h2 => ?_), by rw [HO.out.2.2.1, World.drewN_drewN]⟩, by simp [RowKit.intOf]; omega⟩
        have hkm := HO.out.2.2.2
        by_cases hjk : j + 1 < m
        · exact hs.out j a b hjk h1 h2
        · obtain rfl : j = k := by omega
          rw [HO.out.2.1] at h1
          rw [HO.out.1] at h2
          cases h1; cases h2
          exact HN.out
    · have h3 : ¬ (m : Int) < (n : Int) := by omega
      have HW := Lib.hid hw
      have HN : Hid (Rise L) := Lib.hid (rise_steps fun j a b h1 h2 => hs.out j a b (by
        have := (List.getElem?_eq_some_iff.1 h2).1
        have := HR.out.1
        omega) h1 h2)
      clear hw
      go_wp2_with fail
      go_ret
      exact ⟨by rw [decide_eq_true HN.out]; rfl, q, HW.out⟩

theorem below_draws (w : World) (q : Nat) : Below w.heap.size w (w.drewN q) := ⟨rfl, rfl, rfl, Nat.le_refl _, fun _ _ => rfl⟩
theorem tright_any (v : Value) (n : Nat) (L : List Prm) (w : World) (hr : Prr w v n L) :
    Calls Try.prog 17 #[v] w fun e w' => e = .returned (.bool (decide (Rise L))) ∧ Below w.heap.size w w' :=
  (tright_draws v n L w hr).mono fun e w' ⟨q, he, hw⟩ => ⟨he, by rw [hw]; exact below_draws w q⟩

end Go.Proofs.Ytabmjjicplomlaa

namespace Go.Proofs.Ytabmjjicplomlaa
open Go.RowKit Go.Lib Go.Sort

theorem is_pair (p : Prm) (k : ByteArray) (ka : Addr) (b : Bool) (hb : (p.key.toList == k.toList) = b) (w : World) (hk : w.cell? ka = some (.string k)) :
    Calls Try.prog 38 #[.agg #[.string p.key, .string p.val], .pointer (some ka)] w fun e w' => e = .returned (.bool b) ∧ Below w.heap.size w w' := by
  obtain ⟨pk, pv⟩ := p
  simp only at hb ⊢
  have hb1 := heap_alloc_new w (.cells #[.string pk, .string pv] 48)
  have hc : (w.alloc (.cells #[.string pk, .string pv] 48)).cell? ka = some (.string k) := by
    rw [World.cell?_of_block (Below.heap_alloc w _ _ (World.block_lt_of_cell? w _ hk))]; exact hk
  have HB := Lib.hid ((Below.refl w.heap.size w).alloc (Nat.le_refl _) (.cells #[.string pk, .string pv] 48))
  have HE := Lib.hid hb
  clear hb
  go_enter Try.func38, Try.ntmps38
  go_wp2_with fail
  go_ret
  exact ⟨by rw [← HE.out]; rfl, HB.out⟩

/-- Where the first pair of a key stands. -/
def AtP (L : List Prm) (k : ByteArray) (i : Int) : Prop := (∃ (j : Nat) (o : Prm), i = (j : Int) ∧ L[j]? = some o ∧ o.key = k ∧ ∀ x ∈ L.take j, x.key ≠ k) ∨ (i = -1 ∧ ∀ x ∈ L, x.key ≠ k)

set_option maxRecDepth 100000 in
set_option maxHeartbeats 4000000 in
theorem index_pairs (v : Value) (n : Nat) (L : List Prm) (k : ByteArray) (ka : Addr) (w : World) (hr : Prr w v n L) (hk : w.cell? ka = some (.string k)) (hl : n ≤ 1000000000000) :
    Calls Try.prog 37 #[v, .func (.func 38) #[] #[.pointer (some ka)]] w fun e w' => (∃ i, e = .returned (.int .i64 i) ∧ AtP L k i) ∧ Below w.heap.size w w' := by
  obtain ⟨ao, c, rfl⟩ := hr.shape
  have HR := Lib.hid (And.intro hr hk)
  clear hr hk
  go_enter Try.func37, Try.ntmps37
  go_wp2_with fail
  go_loopw [8] (fun i wr => ∃ i1 : Nat, i = .int .i64 (i1 : Int) ∧ i1 ≤ n ∧ Hid (Below w.heap.size w wr ∧ ∀ x ∈ L.take i1, x.key ≠ k))
    (fun i _ => n - (RowKit.intOf i).toNat)
  case atStart => exact ⟨0, rfl, Nat.zero_le _, Lib.hid ⟨Below.refl _ _, by simp⟩⟩
  case round =>
    obtain ⟨i1, rfl, hi, hs⟩ := hrel
    by_cases hlt : i1 < n
    · have h3 : (i1 : Int) < (n : Int) := by omega
      obtain ⟨hb, hx⟩ := hs.out
      obtain ⟨a, p, rfl, hp, c0, c1, _, _⟩ := (HR.out.1.later hb).at hlt
      obtain ⟨b, hbb⟩ : ∃ b, (p.key.toList == k.toList) = b := ⟨_, rfl⟩
      have CV := Lib.hid (is_pair p k ka b hbb wr (by rw [World.cell?_of_block (hb.block _ (World.block_lt_of_cell? w _ HR.out.2))]; exact HR.out.2))
      have HX := Lib.hid (And.intro hp (And.intro hx (And.intro hb hbb)))
      obtain ⟨pk, pv⟩ := p
      simp only at c0 c1 CV
      clear hp hx hb hbb hs
      cases b with
      | true =>
        go_wp2_with (go_at_call 38; refine CV.out.mono ?_; rintro e w' ⟨rfl, hb2⟩)
        go_ret
        obtain ⟨hp, hx, hb, hbb⟩ := HX.out
        exact ⟨⟨_, rfl, .inl ⟨i1, _, rfl, hp, text_inj' (by simpa using hbb), hx⟩⟩, hb.trans (hb2.mono hb.size)⟩
      | false =>
        go_wp2_with (go_at_call 38; refine CV.out.mono ?_; rintro e w' ⟨rfl, hb2⟩)
        obtain ⟨hp, hx, hb, hbb⟩ := HX.out
        refine ⟨⟨i1 + 1, by simp, by omega, Lib.hid ⟨hb.trans (hb2.mono hb.size), fun x hm => ?_⟩⟩, by simp only [RowKit.intOf]; omega⟩
        rw [take_next hp] at hm
        rcases List.mem_append.1 hm with hm | hm
        · exact hx x hm
        · obtain rfl : x = ⟨pk, pv⟩ := by simpa using hm
          intro e
          have e2 : pk = k := e
          subst e2
          simp at hbb
    · have h3 : ¬ (i1 : Int) < (n : Int) := by omega
      go_wp2_with fail
      go_ret
      refine ⟨⟨-1, rfl, .inr ⟨rfl, ?_⟩⟩, hs.out.1⟩
      have := hs.out.2
      rwa [List.take_of_length_le (by have := HR.out.1.1; omega)] at this

/-- What find tells. -/
def FindsP (L : List Prm) (k : ByteArray) (w : World) (e : Ending) (w' : World) : Prop :=
  (∃ i b, e = .returned (.tuple #[.int .i64 i, .bool b]) ∧ (b = true → ∃ (j : Nat) (o : Prm), i = (j : Int) ∧ L[j]? = some o ∧ findP L k = (o.val, true)) ∧ (b = false → findP L k = (⟨#[]⟩, false))) ∧ Below w.heap.size w w'

theorem findP_at {L : List Prm} {k : ByteArray} {j : Nat} {o : Prm} (h : L[j]? = some o) (hk : o.key = k) (hs : ∀ x ∈ L.take j, x.key ≠ k) : findP L k = (o.val, true) := by
  unfold findP
  rw [find_first h hk hs]
theorem findP_no {L : List Prm} {k : ByteArray} (h : ∀ x ∈ L, x.key ≠ k) : findP L k = (⟨#[]⟩, false) := by
  unfold findP
  rw [List.find?_eq_none.2 fun x hx => by simpa using h x hx]

theorem low_lt {L : List Prm} {k : ByteArray} {t : Nat} {z : Prm} (ht : t < lowP L k) (hz : L[t]? = some z) : z.key.data.toList < k.data.toList := by
  unfold lowP at ht
  induction L generalizing t with
  | nil => cases hz
  | cons a l ih =>
    by_cases ha : a.key.data.toList < k.data.toList
    · rw [List.takeWhile_cons_of_pos (by simpa using ha), List.length_cons] at ht
      cases t with
      | zero => cases hz; exact ha
      | succ t => exact ih (Nat.lt_of_succ_lt_succ ht) (by simpa using hz)
    · rw [List.takeWhile_cons_of_neg (by simpa using ha)] at ht
      simp at ht
theorem low_not {L : List Prm} {k : ByteArray} {z : Prm} (hz : L[lowP L k]? = some z) : ¬ z.key.data.toList < k.data.toList := by
  induction L with
  | nil => cases hz
  | cons a l ih =>
    unfold lowP at hz
    by_cases ha : a.key.data.toList < k.data.toList
    · rw [List.takeWhile_cons_of_pos (by simpa using ha), List.length_cons, List.getElem?_cons_succ] at hz
      exact ih hz
    · rw [List.takeWhile_cons_of_neg (by simpa using ha)] at hz
      cases hz
      exact ha
theorem rise_has {L : List Prm} {k : ByteArray} (hR : Rise L) : (hasP L k = true → ∃ o, L[lowP L k]? = some o ∧ o.key = k ∧ ∀ x ∈ L.take (lowP L k), x.key ≠ k) ∧ (hasP L k = false → ∀ x ∈ L, x.key ≠ k) := by
  have hlow : ∀ x ∈ L.take (lowP L k), x.key ≠ k := by
    intro x hx e
    obtain ⟨t, ht, e2⟩ := List.getElem_of_mem hx
    rw [List.length_take] at ht
    rw [List.getElem_take] at e2
    have := low_lt (L := L) (k := k) (t := t) (z := x) (by omega) (by rw [List.getElem?_eq_getElem (by omega), e2])
    rw [e] at this
    exact List.lt_irrefl _ this
  unfold hasP
  cases hz : L[lowP L k]? with
  | none =>
    refine ⟨fun h => by simp at h, fun _ x hx => hlow x ?_⟩
    rwa [List.take_of_length_le (List.getElem?_eq_none_iff.1 hz)]
  | some o =>
    refine ⟨fun h => ⟨o, rfl, by simpa using h, hlow⟩, fun h x hx e => ?_⟩
    have ho : o.key ≠ k := by simpa using h
    obtain ⟨t, ht, e2⟩ := List.getElem_of_mem hx
    have hx2 : L[t]? = some x := by rw [List.getElem?_eq_getElem ht, e2]
    rcases Nat.lt_trichotomy t (lowP L k) with h1 | h1 | h1
    · have := low_lt h1 hx2
      rw [e] at this
      exact List.lt_irrefl _ this
    · rw [h1, hz] at hx2
      cases hx2
      exact ho e
    · have h2 := rise_at hR h1 hz hx2
      rw [kOf_data, kOf_data, e] at h2
      exact low_not hz h2

set_option maxRecDepth 100000 in
set_option maxHeartbeats 4000000 in
theorem tfind_any (v : Value) (n : Nat) (L : List Prm) (k : ByteArray) (w : World) (hr : Prr w v n L) (hl : n ≤ 1000000000000) :
    Calls Try.prog 23 #[v, .string k] w (FindsP L k w) := by
  obtain ⟨ao, c, rfl⟩ := hr.shape
  have HR := Lib.hid (And.intro hr hl)
  clear hr hl
  have hbx := heap_alloc_new w (.cells #[.string k] 9)
  have HB0 := Lib.hid ((Below.refl w.heap.size w).alloc (Nat.le_refl _) (.cells #[.string k] 9))
  have hkc : (w.alloc (.cells #[.string k] 9)).cell? ⟨w.heap.size, 0, none⟩ = some (.string k) := cells_of hbx 0 _ rfl
  go_enter Try.func23, Try.ntmps23
  go_wp2_with fail
  generalize w.alloc (.cells #[.string k] 9) = w1 at *
  have HK := Lib.hid hkc
  have T := tright_any (.slice ao n c) n L w1 (HR.out.1.later HB0.out)
  have K2 := Lib.hid (fun w2 (hb2 : Below w1.heap.size w1 w2) => show w2.cell? ⟨w.heap.size, 0, none⟩ = some (.string k) by rw [World.cell?_of_block (hb2.block _ (World.block_lt_of_cell? w1 _ hkc))]; exact hkc)
  clear hbx hkc
  by_cases hR : Rise L
  · rw [decide_eq_true hR] at T
    have T := Lib.hid T
    have HR2 := Lib.hid hR
    clear hR
    go_wp2_with (go_at_call 17; refine T.out.mono ?_; rintro e w2 ⟨rfl, hb2⟩; have hk2 := K2.out w2 hb2)
    have HB2 := HB0.out.trans (hb2.mono HB0.out.size)
    have S := Lib.hid (search_pairs (.slice ao n c) n L k w2 (HR.out.1.later HB2) HR2.out HR.out.2)
    have HB3 := Lib.hid HB2
    clear HB2 hb2
    go_wp2_with (go_at_call 35; refine S.out.mono ?_; rintro e w3 ⟨rfl, hb3⟩)
    go_ret2
    obtain ⟨r1, r2⟩ := rise_has (k := k) HR2.out
    refine ⟨⟨_, _, rfl, fun hb => ?_, fun hb => findP_no (r2 hb)⟩, HB3.out.trans (hb3.mono HB3.out.size)⟩
    obtain ⟨o, ho, hk, hx⟩ := r1 hb
    exact ⟨_, o, rfl, ho, findP_at ho hk hx⟩
  · rw [decide_eq_false hR] at T
    have T := Lib.hid T
    clear hR
    go_wp2_with (go_at_call 17; refine T.out.mono ?_; rintro e w2 ⟨rfl, hb2⟩; have hk2 := K2.out w2 hb2)
    have HB2 := HB0.out.trans (hb2.mono HB0.out.size)
    have S := Lib.hid (index_pairs (.slice ao n c) n L k ⟨w.heap.size, 0, none⟩ w2 (HR.out.1.later HB2) hk2 HR.out.2)
    have HB3 := Lib.hid HB2
    clear HB2 hb2
    go_wp2_with (go_at_call 37; refine S.out.mono ?_; rintro e w3 ⟨⟨i, rfl, hi⟩, hb3⟩; have HI := Lib.hid hi; clear hi)
    go_ret2
    refine ⟨⟨_, _, rfl, fun hb => ?_, fun hb => ?_⟩, HB3.out.trans (hb3.mono HB3.out.size)⟩
    · rcases HI.out with ⟨j, o, rfl, ho, hk, hx⟩ | ⟨rfl, _⟩
      · exact ⟨j, o, rfl, ho, findP_at ho hk hx⟩
      · simp at hb
    · rcases HI.out with ⟨j, o, rfl, ho, hk, hx⟩ | ⟨_, hx⟩
      · simp at hb
      · exact findP_no hx

set_option maxRecDepth 100000 in
set_option maxHeartbeats 4000000 in
theorem tget_any (v : Value) (n : Nat) (L : List Prm) (key : ByteArray) (w : World) (hr : Prr w v n L) (hl : n ≤ 1000000000000) :
    Calls Try.prog 11 #[v, .string key] w fun e w' => e = .returned (.tuple #[.string (findP L key).1, .bool (findP L key).2]) ∧ Below w.heap.size w w' := by
  have F := tfind_any v n L key w hr hl
  obtain ⟨ao, c, rfl⟩ := hr.shape
  have HR := Lib.hid hr
  clear hr
  cases hf : (findP L key).2 with
  | false =>
    have F2 : Hid (Calls Try.prog 23 #[.slice ao n c, .string key] w fun e w' => ∃ i, e = .returned (.tuple #[.int .i64 i, .bool false]) ∧ findP L key = (⟨#[]⟩, false) ∧ Below w.heap.size w w') := Lib.hid (F.mono (by
      rintro e w2 ⟨⟨i, b, rfl, hy, hn⟩, hb2⟩
      cases b with
      | false => exact ⟨i, rfl, hn rfl, hb2⟩
      | true => obtain ⟨j, o, _, _, he⟩ := hy rfl; rw [he] at hf; cases hf))
    clear F hf
    go_enter Try.func11, Try.ntmps11
    go_wp2_with (go_at_call 23; refine F2.out.mono ?_; rintro e w2 ⟨i, rfl, he, hb2⟩; have HE := Lib.hid (And.intro he hb2); clear he hb2)
    go_ret2
    exact ⟨by rw [HE.out.1]; rfl, HE.out.2⟩
  | true =>
    have F2 : Hid (Calls Try.prog 23 #[.slice ao n c, .string key] w fun e w' => ∃ (j : Nat) (o : Prm), e = .returned (.tuple #[.int .i64 (j : Int), .bool true]) ∧ L[j]? = some o ∧ findP L key = (o.val, true) ∧ Below w.heap.size w w') := Lib.hid (F.mono (by
      rintro e w2 ⟨⟨i, b, rfl, hy, hn⟩, hb2⟩
      cases b with
      | false => rw [hn rfl] at hf; cases hf
      | true => obtain ⟨j, o, rfl, ho, he⟩ := hy rfl; exact ⟨j, o, rfl, ho, he, hb2⟩))
    clear F hf
    go_enter Try.func11, Try.ntmps11
    go_wp2_with (go_at_call 23; refine F2.out.mono ?_; rintro e w2 ⟨j, o, rfl, ho, he, hb2⟩; have HE := Lib.hid (And.intro he hb2); have hjn : j < n := (by have := (List.getElem?_eq_some_iff.1 ho).1; have := HR.out.1; omega); obtain ⟨a, o', rfl, ho', c0, c1, _, _⟩ := (HR.out.later hb2).at hjn; rw [ho] at ho'; cases ho'; have hji : (j : Int) < (n : Int) := (by omega); clear ho he hb2)
    go_ret2
    exact ⟨by rw [HE.out.1]; rfl, HE.out.2⟩

end Go.Proofs.Ytabmjjicplomlaa
