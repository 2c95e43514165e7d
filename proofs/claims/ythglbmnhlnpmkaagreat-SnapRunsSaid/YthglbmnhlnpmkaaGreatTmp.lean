/- Tables of the code: one op merged into a list by rising keys: plain facts. Numbers and types by name. -/
import Derived.Test.YthglbmnhlnpmkaaGreatPrf
import Derived.Test.YthglbmnhlnpmkaaGreatPlk
import Derived.Test.YthglbmnhlnpmkaaGreatOp
import Derived.Test.YthglbmnhlnpmkaaGreatSy2
import Derived.Shelf.SlSortCmp.QuietGrown
import Derived.Test.YthglbmnhlnpmkaaGreatPuw
/- Tables of the code: the last op of each key. Numbers and types by name. -/
namespace Go.Proofs.YthglbmnhlnpmkaaGreat
open Go.RowKit Go.Lib Go.Sort

/-- The last of those of one key, where these stand side by side. -/
def lasts : List Opm → List Opm
  | [] => []
  | [x] => [x]
  | x :: y :: l => if y.key = x.key then lasts (y :: l) else x :: lasts (y :: l)

theorem lasts_mem {x : Opm} : ∀ {l : List Opm}, x ∈ lasts l → x ∈ l
  | [], h => h
  | [y], h => h
  | y :: z :: l, h => by
    unfold lasts at h
    split at h
    · exact List.mem_cons_of_mem _ (lasts_mem h)
    · rcases List.mem_cons.1 h with rfl | h
      · simp
      · exact List.mem_cons_of_mem _ (lasts_mem h)

theorem kO_key {x y : Opm} : kO x = kO y ↔ x.key = y.key := by
  unfold kO
  constructor
  · intro h; exact text_inj' (by rw [ByteArray.toList_eq, ByteArray.toList_eq]; exact h)
  · intro h; rw [h]

/-- By rising keys, no two the same. -/
def KRise (l : List Opm) : Prop := l.Pairwise fun x y => kO x < kO y

theorem lasts_rise : ∀ {l : List Opm}, Asc l → KRise (lasts l)
  | [], _ => List.Pairwise.nil
  | [x], _ => List.pairwise_singleton ..
  | x :: y :: l, h => by
    have h1 := (List.pairwise_cons.1 h).2
    unfold lasts
    split
    · exact lasts_rise h1
    · next hne =>
      refine List.pairwise_cons.2 ⟨fun z hz => ?_, lasts_rise h1⟩
      have hz2 := lasts_mem hz
      have hxy : kO x < kO y := by
        have h2 := (List.pairwise_cons.1 h).1 y (by simp)
        refine Decidable.byContradiction fun h3 => hne (kO_key.1 (key_tri h2 h3))
      rcases List.mem_cons.1 hz2 with rfl | hz3
      · exact hxy
      · exact key_lt_of' hxy ((List.pairwise_cons.1 h1).1 z hz3)

theorem lastO_cons (x : Opm) (l : List Opm) (k : ByteArray) (d : Option ByteArray) : lastO (x :: l) k d = lastO l k (opAt k d x) := rfl
theorem opAt_twice {x y : Opm} (h : y.key = x.key) (k : ByteArray) (d : Option ByteArray) : opAt k (opAt k d x) y = opAt k d y := by
  unfold opAt
  by_cases hk : y.key = k
  · rw [if_pos hk, if_pos hk]
  · rw [if_neg hk, if_neg hk, if_neg (by rw [← h]; exact hk)]
theorem lasts_last (k : ByteArray) : ∀ (l : List Opm) (d : Option ByteArray), lastO (lasts l) k d = lastO l k d
  | [], _ => rfl
  | [x], _ => rfl
  | x :: y :: l, d => by
    unfold lasts
    split
    · next h =>
      rw [lasts_last k (y :: l) d, lastO_cons, lastO_cons, lastO_cons, opAt_twice h]
    · rw [lastO_cons, lastO_cons, lasts_last k (y :: l) _]

theorem lastO_filter (k : ByteArray) : ∀ (l : List Opm) (d : Option ByteArray), lastO l k d = lastO (l.filter fun o => kO o == k.data.toList) k d
  | [], _ => rfl
  | x :: l, d => by
    rw [lastO_cons, lastO_filter k l]
    by_cases h : kO x = k.data.toList
    · rw [List.filter_cons_of_pos (by simpa using h), lastO_cons]
    · rw [List.filter_cons_of_neg (by simpa using h)]
      have : opAt k d x = d := by
        unfold opAt
        rw [if_neg fun e => h (by rw [← e]; rfl)]
      rw [this]
theorem same_last {A B : List Opm} (h : Same A B) (k : ByteArray) (d : Option ByteArray) : lastO A k d = lastO B k d := by
  rw [lastO_filter, h, ← lastO_filter]

theorem ovs_set {L : List Opm} {k : Nat} (y : Opm) (hk : k < L.length) : ovs (L.set k y) = (((ovs L).set (k * 3) (.bool y.del)).set (k * 3 + 1) (.string y.key)).set (k * 3 + 2) (.string y.val) := by
  induction L generalizing k with
  | nil => simp at hk
  | cons a l ih =>
    have e : ∀ (p : Opm) (l : List Opm), ovs (p :: l) = .bool p.del :: .string p.key :: .string p.val :: ovs l := fun p l => by simp [ovs, ov]
    cases k with
    | zero => simp [e]
    | succ k =>
      rw [List.set_cons_succ, e, e, ih (by simpa using hk), show (k + 1) * 3 = k * 3 + 1 + 1 + 1 by omega]
      simp
theorem own_set_other {w : World} {base e size g b n c : Nat} {xs : List Value} (h : w.ownsRow base e size (.slice (some ⟨g, 0, none⟩) n c) n xs) (hne : b ≠ g) (j : Nat) (v : Value) :
    (w.setCell ⟨b, j, none⟩ v).ownsRow base e size (.slice (some ⟨g, 0, none⟩) n c) n xs := by
  obtain ⟨h1, h2 | ⟨g', cap, cur, e', hb, hg, hr⟩⟩ := h
  · exact absurd h2.1 (by simp)
  · simp only [Value.slice.injEq, Option.some.injEq, Addr.mk.injEq, and_true] at e'
    obtain ⟨rfl, _, rfl⟩ := e'
    refine ⟨h1, .inr ⟨g, c, cur, rfl, hb, ?_, hr⟩⟩
    rw [Below.heap_setCell _ _ _ _ (fun e => hne e.symm)]
    exact hg

/-- append of one op within the row's own room: the row's place j is turned. -/
theorem run_append_in (ty : TypeId) (base g n cap j : Nat) (X : List Opm) (w : World) (hown : w.ownsRow base 90 3 (.slice (some ⟨g, 0, none⟩) n cap) n (ovs X)) (hX : X.length = n) (hj : j < n) (o : Opm) (a : Addr) (c : Nat)
    (hc : ∀ i u, (ov o)[i]? = some u → w.cell? (a.add i) = some u) :
    (Builtin.append_ #[87, 87] ty #[.slice (some ⟨g, 0, none⟩) j cap, .slice (some a) 1 c]).run Tryz.prog w = .ok (.slice (some ⟨g, 0, none⟩) (j + 1) cap) (((w.setCell ⟨g, j * 3, none⟩ (.bool o.del)).setCell ⟨g, j * 3 + 1, none⟩ (.string o.key)).setCell ⟨g, j * 3 + 2, none⟩ (.string o.val)) ∧
    (((w.setCell ⟨g, j * 3, none⟩ (.bool o.del)).setCell ⟨g, j * 3 + 1, none⟩ (.string o.key)).setCell ⟨g, j * 3 + 2, none⟩ (.string o.val)).ownsRow base 90 3 (.slice (some ⟨g, 0, none⟩) n cap) n (ovs (X.set j o)) := by
  obtain ⟨i0, hi, hz0, hz1, hz2⟩ := info_parts elemOp.info
  refine ⟨?_, by rw [ovs_set o (by omega)]; exact own_set (own_set (own_set hown _ _) _ _) _ _⟩
  obtain ⟨h1, h2 | ⟨g', cap', cur, e', hb, hg, hnc, hcm, hcs, ht⟩⟩ := hown
  · exact absurd h2.1 (by simp)
  · simp only [Value.slice.injEq, Option.some.injEq, Addr.mk.injEq, and_true] at e'
    obtain ⟨rfl, _, rfl⟩ := e'
    have := run_append_room_cells (P := Tryz.prog) w 87 ty 90 i0 Tryz.underlying87 hi g 0 j cap a 1 c (ov o) (by rw [hz1]; rfl) hc (by intro u hu; exact ovs_one [o] u (by simpa [ovs] using hu)) (by omega)
      (fun q hq => by
        rw [hz1, Nat.zero_add]
        have hq3 : q < 3 := hq
        simp only [World.cell?, hg]
        have : j * 3 + q < cur.size := by rw [hcs]; omega
        simp [this])
      (fun q hq => by simp [World.frozen?, hg])
    rw [hz1, Nat.zero_add] at this
    exact this

theorem own_take {w : World} {base e size g n c j : Nat} {xs : List Value} (h : w.ownsRow base e size (.slice (some ⟨g, 0, none⟩) n c) n xs) (hj : j ≤ n) : w.ownsRow base e size (.slice (some ⟨g, 0, none⟩) j c) j (xs.take (j * size)) := by
  obtain ⟨h1, h2 | ⟨g', cap, cur, e', hb, hg, hnc, hcm, hcs, ht⟩⟩ := h
  · exact absurd h2.1 (by simp)
  · simp only [Value.slice.injEq, Option.some.injEq, Addr.mk.injEq, and_true] at e'
    obtain ⟨rfl, _, rfl⟩ := e'
    have hm := Nat.mul_le_mul_right size hj
    refine ⟨by rw [List.length_take]; omega, .inr ⟨g, c, cur, rfl, hb, hg, by omega, hcm, hcs, ?_⟩⟩
    rw [← ht, List.take_take, Nat.min_eq_left hm]
theorem ovs_take (X : List Opm) (j : Nat) : ovs (X.take j) = (ovs X).take (j * 3) := by
  induction X generalizing j with
  | nil => simp [ovs]
  | cons a l ih =>
    have e : ∀ (p : Opm) (l : List Opm), ovs (p :: l) = .bool p.del :: .string p.key :: .string p.val :: ovs l := fun p l => by simp [ovs, ov]
    cases j with
    | zero => simp [ovs]
    | succ j => rw [List.take_succ_cons, e, e, ih, show (j + 1) * 3 = j * 3 + 1 + 1 + 1 by omega]; simp
theorem row_cellE {w : World} {base e size g n c : Nat} {xs : List Value} (h : w.ownsRow base e size (.slice (some ⟨g, 0, none⟩) n c) n xs) {j : Nat} {v : Value} (hj : xs[j]? = some v) : w.cell? ⟨g, j, none⟩ = some v ∧ w.frozen? ⟨g, j, none⟩ = false ∧ g < w.heap.size := by
  obtain ⟨h1, h2 | ⟨g', cap, cur, e', hb, hg, hnc, hcm, hcs, ht⟩⟩ := h
  · exact absurd h2.1 (by simp)
  · simp only [Value.slice.injEq, Option.some.injEq, Addr.mk.injEq, and_true] at e'
    obtain ⟨rfl, _, rfl⟩ := e'
    refine ⟨?_, by simp [World.frozen?, hg], (Array.getElem?_eq_some_iff.1 hg).1⟩
    simp only [World.cell?, hg]
    rw [← ht, List.getElem?_take] at hj
    split at hj
    · simpa using hj
    · cases hj

/-- What last leaves. -/
def LastO (O : List Opm) (w : World) (e : Ending) (w' : World) : Prop := ∃ ao q c, e = .returned (.slice ao q c) ∧ ∃ K, q = K.length ∧ w'.ownsRow w.heap.size 90 3 (.slice ao q c) q (ovs K) ∧ KRise K ∧ (∀ k d, lastO K k d = lastO O k d) ∧ (∀ x ∈ K, x ∈ O) ∧ K.length ≤ O.length ∧ Below w.heap.size w w'

end Go.Proofs.YthglbmnhlnpmkaaGreat

/- Tables of the code: the ops that set a list's pairs. Numbers and types by name. -/
namespace Go.Proofs.YthglbmnhlnpmkaaGreat
open Go.RowKit Go.Lib Go.Sort

def setOf (p : Prm) : Opm := ⟨false, p.key, p.val⟩
def setsOf (L : List Prm) : List Opm := L.map setOf

/-- make([]api.Op, 0, n). -/
theorem wpList_make_ops {ops : Array Oper} {rest : List Oper} {o : Oper} {a : Act} {w : World} {Q : Exit → Act → World → Prop} (hgd : o.guard = none) (s x : Operand) (ho : o.op = Op.makeSlice 87 s x)
    (base n : Nat) (C : Int) (hl : a.eval s = .int .i64 0) (hc : a.eval x = .int .i64 C) (hC : C = (n : Int)) (h63 : Hid (n ≤ 1000000)) (hbase : base ≤ w.heap.size)
    (h : ∀ w', w'.ownsRow base 90 3 (.slice (some ⟨w.heap.size, 0, none⟩) 0 n) 0 [] → Below base w w' → wpList Tryz.prog ops Q rest (a.put o.dst (.slice (some ⟨w.heap.size, 0, none⟩) 0 n)) w') : wpList Tryz.prog ops Q (o :: rest) a w := by
  obtain ⟨i0, hi, hz0, hz1, hz2⟩ := info_parts elemOp.info
  have hm := h63.out
  exact wpList_make_own w hgd s x _ ho base 90 i0 _ 3 Tryz.underlying87 hi hz0 hz1 .i64 .i64 C n hl hc hC (by rw [hz2]; omega) (by unfold maxLen; omega) hbase fun w' hown hg => h w' hown (below_none hg hbase)

/-- What sets leaves. -/
def SetsO (L : List Prm) (w : World) (e : Ending) (w' : World) : Prop := ∃ ao q c, e = .returned (.slice ao q c) ∧ q = L.length ∧ w'.ownsRow w.heap.size 90 3 (.slice ao q c) q (ovs (setsOf L)) ∧ Below w.heap.size w w'

end Go.Proofs.YthglbmnhlnpmkaaGreat

/- Pairs looked up by binary search: slices.BinarySearchFunc, table.search. Numbers and types by name. -/
namespace Go.Proofs.YthglbmnhlnpmkaaGreat
open Go.RowKit Go.Lib Go.Sort

/-- How many keys are less. -/
def lowP (L : List Prm) (k : ByteArray) : Nat := (L.takeWhile fun o => decide (o.key.data.toList < k.data.toList)).length
/-- Is it there? -/
def hasP (L : List Prm) (k : ByteArray) : Bool := match L[lowP L k]? with | some o => decide (o.key = k) | none => false

theorem lowP_le (L : List Prm) (k : ByteArray) : lowP L k ≤ L.length := by unfold lowP; exact (List.takeWhile_sublist _).length_le
theorem lowP_of {L : List Prm} {k : ByteArray} {i : Nat} (hi : i ≤ L.length) (h1 : ∀ t z, t < i → L[t]? = some z → z.key.data.toList < k.data.toList) (h2 : ∀ z, L[i]? = some z → ¬ z.key.data.toList < k.data.toList) : lowP L k = i := by
  unfold lowP
  induction L generalizing i with
  | nil => simp at hi; simp [hi]
  | cons a l ih =>
    cases i with
    | zero =>
      have := h2 a rfl
      rw [List.takeWhile_cons_of_neg (by simpa using this)]
      rfl
    | succ i =>
      have := h1 0 a (by omega) rfl
      rw [List.takeWhile_cons_of_pos (by simpa using this), List.length_cons, ih (i := i) (by simpa using hi) (fun t z ht hz => h1 (t + 1) z (by omega) (by simpa using hz)) (fun z hz => h2 z (by simpa using hz))]

theorem rise_at {L : List Prm} (h : Rise L) {i j : Nat} (hij : i < j) {x y : Prm} (hx : L[i]? = some x) (hy : L[j]? = some y) : kOf x < kOf y := by
  obtain ⟨h1, e1⟩ := List.getElem?_eq_some_iff.1 hx
  obtain ⟨h2, e2⟩ := List.getElem?_eq_some_iff.1 hy
  have := List.pairwise_iff_getElem.1 h i j h1 h2 hij
  rw [e1, e2] at this
  exact this
theorem kOf_data (o : Prm) : kOf o = o.key.data.toList := by unfold kOf; rw [ByteArray.toList_eq]

theorem below_grow (w : World) (q : Nat) (os : Array Obj) : Below w.heap.size w (grow (w.drewN q) os) := ⟨rfl, rfl, rfl, by rw [size_grow]; exact Nat.le_add_right _ _, fun k hk => heap_grow_old _ os hk⟩
theorem grow_more (w : World) (q r : Nat) (os os2 : Array Obj) : grow ((grow (w.drewN q) os).drewN r) os2 = grow (w.drewN (q + r)) (os ++ os2) := by
  show grow (grow ((w.drewN q).drewN r) os) os2 = _
  rw [grow_grow, World.drewN_drewN]

/-- What the search tells. -/
def FoundP (L : List Prm) (k : ByteArray) (w : World) (e : Ending) (w' : World) : Prop := e = .returned (.tuple #[.int .i64 (lowP L k : Nat), .bool (hasP L k)]) ∧ Below w.heap.size w w'

end Go.Proofs.YthglbmnhlnpmkaaGreat

/- Tables of the code: Right, find, Get. Numbers and types by name. -/
namespace Go.Proofs.YthglbmnhlnpmkaaGreat
open Go.RowKit Go.Lib Go.Sort

set_option maxRecDepth 100000 in
set_option maxHeartbeats 4000000 in
theorem tright_draws (v : Value) (n : Nat) (L : List Prm) (w : World) (hr : Prr w v n L) :
    Calls Tryz.prog 61 #[v] w fun e w' => ∃ q, e = .returned (.bool (decide (Rise L))) ∧ w' = w.drewN q := by
  obtain ⟨ao, c, rfl⟩ := hr.shape
  have HR := Lib.hid hr
  have hm := hr.2.1
  unfold maxLen at hm
  clear hr
  go_enter Tryz.func61, Tryz.ntmps61
  go_wp2_with fail
  go_loopw [3] (fun i wr => ∃ m q : Nat, i = .int .i64 m ∧ 1 ≤ m ∧ (m = 1 ∨ m ≤ n) ∧ Hid (∀ j a b, j + 1 < m → L[j]? = some a → L[j + 1]? = some b → kOf a < kOf b) ∧ wr = w.drewN q)
    (fun i _ => n + 1 - (RowKit.intOf i).toNat)
  case atStart => exact ⟨1, 0, rfl, Nat.le_refl _, .inl rfl, Lib.hid (fun j a b h => by omega), rfl⟩
  case round =>
    obtain ⟨m, q, rfl, hm1, hk, hs, hw⟩ := hrel
    by_cases hlt : m < n
    · have h3 : (m : Int) < (n : Int) := by omega
      obtain ⟨k, hkm⟩ : ∃ k, m = k + 1 := ⟨m - 1, by omega⟩
      have h4 : (k : Int) < (n : Int) := by omega
      have h5 : k < n := by omega
      have u1 : IntKind.i64.wrap ((m : Int) - 1) = (k : Int) := by rw [IntKind.wrap_i64]; omega
      have HR' : Prr wr (.slice ao n c) n L := by rw [hw]; exact HR.out
      obtain ⟨a, o, rfl, ho, c0, _, _, _⟩ := HR'.at hlt
      obtain ⟨a', o', e, ho', d0, _, _, _⟩ := HR'.at (k := k) (by omega)
      cases e
      rw [hkm] at ho
      have HO := Lib.hid (And.intro ho (And.intro ho' (And.intro hw hkm)))
      clear ho ho' hw HR' hkm
      by_cases hb : Op.bytesLess o'.key.toList o.key.toList = true
      case neg =>
        have HN : Hid (¬ Rise L) := Lib.hid (fun hR => by
          have h1 := rise_next hR HO.out.2.1 HO.out.1
          unfold kOf at h1
          exact hb (by rw [bytesLess_eq]; simpa using h1))
        rw [Bool.not_eq_true] at hb
        go_wp2_with fail
        go_quiet (fail)
        go_wp2
        go_ret
        exact ⟨q + nq, by rw [decide_eq_false HN.out]; rfl, by rw [HO.out.2.2.1, World.drewN_drewN]⟩
      case pos =>
        have HN : Hid (kOf o' < kOf o) := Lib.hid (by
          unfold kOf
          rw [bytesLess_eq] at hb
          simpa using hb)
        go_wp2_with fail
        go_quiet (fail)
        go_wp2
        refine ⟨⟨m + 1, q + nq, by go_num, by omega, .inr (by omega), Lib.hid (fun j a b hj h1 h2 => ?_), by rw [HO.out.2.2.1, World.drewN_drewN]⟩, by simp [RowKit.intOf]; omega⟩
        have hkm := HO.out.2.2.2
        by_cases hjk : j + 1 < m
        · exact hs.out j a b hjk h1 h2
        · obtain rfl : j = k := by omega
          rw [HO.out.2.1] at h1
          rw [HO.out.1] at h2
          cases h1; cases h2
          exact HN.out
    · have h3 : ¬ (m : Int) < (n : Int) := by omega
      have HW := Lib.hid hw
      have HN : Hid (Rise L) := Lib.hid (rise_steps fun j a b h1 h2 => hs.out j a b (by
        have := (List.getElem?_eq_some_iff.1 h2).1
        have := HR.out.1
        omega) h1 h2)
      clear hw
      go_wp2_with fail
      go_ret
      exact ⟨by rw [decide_eq_true HN.out]; rfl, q, HW.out⟩

theorem below_draws (w : World) (q : Nat) : Below w.heap.size w (w.drewN q) := ⟨rfl, rfl, rfl, Nat.le_refl _, fun _ _ => rfl⟩
theorem tright_any (v : Value) (n : Nat) (L : List Prm) (w : World) (hr : Prr w v n L) :
    Calls Tryz.prog 61 #[v] w fun e w' => e = .returned (.bool (decide (Rise L))) ∧ Below w.heap.size w w' :=
  (tright_draws v n L w hr).mono fun e w' ⟨q, he, hw⟩ => ⟨he, by rw [hw]; exact below_draws w q⟩

end Go.Proofs.YthglbmnhlnpmkaaGreat

/- Tables of the code: find, Get. Numbers and types by name. -/
namespace Go.Proofs.YthglbmnhlnpmkaaGreat
open Go.RowKit Go.Lib Go.Sort

/-- Where the first pair of a key stands. -/
def AtP (L : List Prm) (k : ByteArray) (i : Int) : Prop := (∃ (j : Nat) (o : Prm), i = (j : Int) ∧ L[j]? = some o ∧ o.key = k ∧ ∀ x ∈ L.take j, x.key ≠ k) ∨ (i = -1 ∧ ∀ x ∈ L, x.key ≠ k)

/-- What find tells. -/
def FindsP (L : List Prm) (k : ByteArray) (w : World) (e : Ending) (w' : World) : Prop :=
  (∃ i b, e = .returned (.tuple #[.int .i64 i, .bool b]) ∧ (b = true → ∃ (j : Nat) (o : Prm), i = (j : Int) ∧ L[j]? = some o ∧ findP L k = (o.val, true)) ∧ (b = false → findP L k = (⟨#[]⟩, false))) ∧ Below w.heap.size w w'

theorem findP_at {L : List Prm} {k : ByteArray} {j : Nat} {o : Prm} (h : L[j]? = some o) (hk : o.key = k) (hs : ∀ x ∈ L.take j, x.key ≠ k) : findP L k = (o.val, true) := by
  unfold findP
  rw [find_first h hk hs]
theorem findP_no {L : List Prm} {k : ByteArray} (h : ∀ x ∈ L, x.key ≠ k) : findP L k = (⟨#[]⟩, false) := by
  unfold findP
  rw [List.find?_eq_none.2 fun x hx => by simpa using h x hx]

theorem low_lt {L : List Prm} {k : ByteArray} {t : Nat} {z : Prm} (ht : t < lowP L k) (hz : L[t]? = some z) : z.key.data.toList < k.data.toList := by
  unfold lowP at ht
  induction L generalizing t with
  | nil => cases hz
  | cons a l ih =>
    by_cases ha : a.key.data.toList < k.data.toList
    · rw [List.takeWhile_cons_of_pos (by simpa using ha), List.length_cons] at ht
      cases t with
      | zero => cases hz; exact ha
      | succ t => exact ih (Nat.lt_of_succ_lt_succ ht) (by simpa using hz)
    · rw [List.takeWhile_cons_of_neg (by simpa using ha)] at ht
      simp at ht
theorem low_not {L : List Prm} {k : ByteArray} {z : Prm} (hz : L[lowP L k]? = some z) : ¬ z.key.data.toList < k.data.toList := by
  induction L with
  | nil => cases hz
  | cons a l ih =>
    unfold lowP at hz
    by_cases ha : a.key.data.toList < k.data.toList
    · rw [List.takeWhile_cons_of_pos (by simpa using ha), List.length_cons, List.getElem?_cons_succ] at hz
      exact ih hz
    · rw [List.takeWhile_cons_of_neg (by simpa using ha)] at hz
      cases hz
      exact ha
theorem rise_has {L : List Prm} {k : ByteArray} (hR : Rise L) : (hasP L k = true → ∃ o, L[lowP L k]? = some o ∧ o.key = k ∧ ∀ x ∈ L.take (lowP L k), x.key ≠ k) ∧ (hasP L k = false → ∀ x ∈ L, x.key ≠ k) := by
  have hlow : ∀ x ∈ L.take (lowP L k), x.key ≠ k := by
    intro x hx e
    obtain ⟨t, ht, e2⟩ := List.getElem_of_mem hx
    rw [List.length_take] at ht
    rw [List.getElem_take] at e2
    have := low_lt (L := L) (k := k) (t := t) (z := x) (by omega) (by rw [List.getElem?_eq_getElem (by omega), e2])
    rw [e] at this
    exact List.lt_irrefl _ this
  unfold hasP
  cases hz : L[lowP L k]? with
  | none =>
    refine ⟨fun h => by simp at h, fun _ x hx => hlow x ?_⟩
    rwa [List.take_of_length_le (List.getElem?_eq_none_iff.1 hz)]
  | some o =>
    refine ⟨fun h => ⟨o, rfl, by simpa using h, hlow⟩, fun h x hx e => ?_⟩
    have ho : o.key ≠ k := by simpa using h
    obtain ⟨t, ht, e2⟩ := List.getElem_of_mem hx
    have hx2 : L[t]? = some x := by rw [List.getElem?_eq_getElem ht, e2]
    rcases Nat.lt_trichotomy t (lowP L k) with h1 | h1 | h1
    · have := low_lt h1 hx2
      rw [e] at this
      exact List.lt_irrefl _ this
    · rw [h1, hz] at hx2
      cases hx2
      exact ho e
    · have h2 := rise_at hR h1 hz hx2
      rw [kOf_data, kOf_data, e] at h2
      exact low_not hz h2

end Go.Proofs.YthglbmnhlnpmkaaGreat

namespace Go.Proofs.YthglbmnhlnpmkaaGreat
open Go.RowKit Go.Lib Go.Sort

theorem kOf_kO (p : Prm) (o : Opm) (h : p.key = o.key) : kOf p = kO o := by rw [kOf_data, h]; rfl

/-- What one op leaves of what stands behind. -/
def upTo (R : List Prm) (o : Opm) : List Prm := R.take (lowP R o.key) ++ if o.del = true then [] else [⟨o.key, o.val⟩]
def past (R : List Prm) (o : Opm) : List Prm := R.drop (lowP R o.key + if hasP R o.key = true then 1 else 0)

theorem low_all {R : List Prm} {k : ByteArray} : ∀ x ∈ R.take (lowP R k), kOf x < k.data.toList := by
  intro x hx
  obtain ⟨t, ht, e⟩ := List.getElem_of_mem hx
  rw [List.length_take] at ht
  rw [List.getElem_take] at e
  rw [kOf_data]
  have h2 : t < R.length := by omega
  have h3 : R[t]? = some x := by rw [List.getElem?_eq_getElem h2, e]
  exact low_lt (t := t) (by omega) h3

theorem past_all {R : List Prm} {o : Opm} (hR : Rise R) : ∀ x ∈ past R o, kO o < kOf x := by
  intro x hx
  unfold past at hx
  obtain ⟨t, ht, e⟩ := List.getElem_of_mem hx
  rw [List.length_drop] at ht
  rw [List.getElem_drop] at e
  obtain ⟨i, hi⟩ : ∃ i, lowP R o.key + (if hasP R o.key = true then 1 else 0) + t = i := ⟨_, rfl⟩
  have hx2 : R[i]? = some x := by
    have hlt : i < R.length := by
      generalize (if hasP R o.key = true then 1 else 0) = c at hi ht
      omega
    simp only [hi] at e
    rw [List.getElem?_eq_getElem hlt]
    exact congrArg some e
  obtain ⟨r1, r2⟩ := rise_has (k := o.key) hR
  by_cases hh : hasP R o.key = true
  · obtain ⟨z, hz, hk, _⟩ := r1 hh
    rw [if_pos hh] at hi
    have := rise_at hR (show lowP R o.key < i by omega) hz hx2
    rw [kOf_kO z o hk] at this
    exact this
  · have hne := r2 (by simpa using hh) x (List.mem_of_getElem? hx2)
    rw [if_neg hh] at hi
    have hnl : ¬ kOf x < kO o := by
      rcases Nat.eq_or_lt_of_le (show lowP R o.key ≤ i by omega) with h | h
      · rw [← h] at hx2
        rw [kOf_data]
        exact low_not hx2
      · obtain ⟨y, hy⟩ : ∃ y, R[lowP R o.key]? = some y := ⟨_, List.getElem?_eq_getElem (by have := (List.getElem?_eq_some_iff.1 hx2).1; omega)⟩
        have h1 := rise_at hR h hy hx2
        have h2 := low_not hy
        intro h3
        rw [kOf_data] at h1
        exact h2 (List.lt_trans h1 h3)
    refine Decidable.byContradiction fun h3 => hne (text_inj' ?_)
    have := key_tri hnl h3
    rw [kOf_data] at this
    rw [ByteArray.toList_eq, ByteArray.toList_eq]
    exact this

theorem look_append (X Y : List Prm) (k : ByteArray) : look (X ++ Y) k = match look X k with | some v => some v | none => look Y k := by
  unfold look
  rw [List.find?_append]
  cases X.find? fun o => decide (o.key = k) <;> rfl
theorem look_lt {X : List Prm} {k : ByteArray} (h : ∀ x ∈ X, kOf x < k.data.toList) : look X k = none := look_none fun z hz e => by
  have := h z hz
  rw [kOf_data, e] at this
  exact List.lt_irrefl _ this

theorem merge_step {A R : List Prm} {o : Opm} (h : Rise (A ++ R)) (hA : ∀ x ∈ A, kOf x < kO o) : stepP (A ++ R) o = A ++ upTo R o ++ past R o := by
  have hR : Rise R := (List.pairwise_append.1 h).2.1
  have hcut : R = R.take (lowP R o.key) ++ R.drop (lowP R o.key) := (List.take_append_drop _ _).symm
  refine ext_rise (rise_step h o) ?_ fun k => ?_
  · have hAR := (List.pairwise_append.1 h).2.2
    have hp := past_all (o := o) hR
    have hl := low_all (R := R) (k := o.key)
    have hu : ∀ x ∈ upTo R o, ¬ kO o < kOf x ∧ (∀ y, kO o < kOf y → kOf x < kOf y) := by
      intro x hx
      unfold upTo at hx
      rcases List.mem_append.1 hx with hx | hx
      · have := hl x hx
        exact ⟨fun h2 => List.lt_irrefl _ (List.lt_trans h2 this), fun y hy => List.lt_trans this hy⟩
      · split at hx
        · cases hx
        · obtain rfl : x = ⟨o.key, o.val⟩ := by simpa using hx
          rw [kOf_kO ⟨o.key, o.val⟩ o rfl]
          exact ⟨List.lt_irrefl _, fun y hy => hy⟩
    have hAu : ∀ x ∈ A, ∀ y ∈ upTo R o, kOf x < kOf y := by
      intro x hx y hy
      unfold upTo at hy
      rcases List.mem_append.1 hy with hy | hy
      · exact hAR x hx y (List.mem_of_mem_take hy)
      · split at hy
        · cases hy
        · obtain rfl : y = ⟨o.key, o.val⟩ := by simpa using hy
          rw [kOf_kO ⟨o.key, o.val⟩ o rfl]
          exact hA x hx
    have hup : Rise (upTo R o) := by
      unfold upTo
      refine List.pairwise_append.2 ⟨List.Pairwise.sublist (List.take_sublist _ _) hR, ?_, fun x hx y hy => ?_⟩
      · split
        · exact List.Pairwise.nil
        · exact List.pairwise_singleton ..
      · split at hy
        · cases hy
        · obtain rfl : y = ⟨o.key, o.val⟩ := by simpa using hy
          rw [kOf_kO ⟨o.key, o.val⟩ o rfl]
          exact hl x hx
    refine List.pairwise_append.2 ⟨List.pairwise_append.2 ⟨(List.pairwise_append.1 h).1, hup, hAu⟩, List.Pairwise.sublist (List.drop_sublist _ _) hR, fun x hx y hy => ?_⟩
    rcases List.mem_append.1 hx with hx | hx
    · exact List.lt_trans (hA x hx) (hp y hy)
    · exact (hu x hx).2 y (hp y hy)
  · rw [look_step, look_append A R, List.append_assoc, look_append A, upTo, List.append_assoc]
    unfold opAt
    by_cases hk : o.key = k
    · subst hk
      rw [if_pos rfl, look_lt hA, look_append, look_lt low_all, look_append]
      have hp : look (past R o) o.key = none := look_none fun z hz e => by
        have := past_all hR z hz
        rw [kOf_kO z o e] at this
        exact List.lt_irrefl _ this
      by_cases hd : o.del = true
      · rw [if_pos hd, if_pos hd]
        exact hp.symm
      · rw [if_neg hd, if_neg hd, look_cons, if_pos rfl]
    · rw [if_neg hk]
      cases look A k with
      | some v => rfl
      | none =>
        have hn : look (if o.del = true then [] else [(⟨o.key, o.val⟩ : Prm)]) k = none := by
          split
          · rfl
          · rw [look_cons, if_neg hk]; rfl
        have hd : look (R.drop (lowP R o.key)) k = look (past R o) k := by
          unfold past
          by_cases hh : hasP R o.key = true
          · obtain ⟨z, hz, hzk, _⟩ := (rise_has (k := o.key) hR).1 hh
            rw [if_pos hh, ← List.getElem_cons_drop (h := (List.getElem?_eq_some_iff.1 hz).1), (List.getElem?_eq_some_iff.1 hz).2, look_cons, if_neg (by rw [hzk]; exact hk)]
          · rw [if_neg hh]; rfl
        rw [look_append (R.take _), look_append (if o.del = true then [] else _), hn]
        conv => lhs; rw [hcut, look_append]
        rw [hd]

end Go.Proofs.YthglbmnhlnpmkaaGreat
