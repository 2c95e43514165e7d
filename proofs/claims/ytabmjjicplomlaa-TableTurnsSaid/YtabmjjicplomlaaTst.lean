/- Tables of the code: the ops that set a list's pairs. Numbers and types by name. -/
import Derived.Test.YtabmjjicplomlaaSsf
import Derived.Test.YtabmjjicplomlaaCno
import Derived.Test.YtabmjjicplomlaaPlk
/- Tables of the code: the last op of each key. Numbers and types by name. -/
namespace Go.Proofs.Ytabmjjicplomlaa
open Go.RowKit Go.Lib Go.Sort

/-- The last of those of one key, where these stand side by side. -/
def lasts : List Opm → List Opm
  | [] => []
  | [x] => [x]
  | x :: y :: l => if y.key = x.key then lasts (y :: l) else x :: lasts (y :: l)

theorem lasts_mem {x : Opm} : ∀ {l : List Opm}, x ∈ lasts l → x ∈ l
  | [], h => h
  | [y], h => h
  | y :: z :: l, h => by
    unfold lasts at h
    split at h
    · exact List.mem_cons_of_mem _ (lasts_mem h)
    · rcases List.mem_cons.1 h with rfl | h
      · simp
      · exact List.mem_cons_of_mem _ (lasts_mem h)

theorem kO_key {x y : Opm} : kO x = kO y ↔ x.key = y.key := by
  unfold kO
  constructor
  · intro h; exact text_inj' (by rw [ByteArray.toList_eq, ByteArray.toList_eq]; exact h)
  · intro h; rw [h]

/-- By rising keys, no two the same. -/
def KRise (l : List Opm) : Prop := l.Pairwise fun x y => kO x < kO y

theorem lasts_rise : ∀ {l : List Opm}, Asc l → KRise (lasts l)
  | [], _ => List.Pairwise.nil
  | [x], _ => List.pairwise_singleton ..
  | x :: y :: l, h => by
    have h1 := (List.pairwise_cons.1 h).2
    unfold lasts
    split
    · exact lasts_rise h1
    · next hne =>
      refine List.pairwise_cons.2 ⟨fun z hz => ?_, lasts_rise h1⟩
      have hz2 := lasts_mem hz
      have hxy : kO x < kO y := by
        have h2 := (List.pairwise_cons.1 h).1 y (by simp)
        refine Decidable.byContradiction fun h3 => hne (kO_key.1 (key_tri h2 h3))
      rcases List.mem_cons.1 hz2 with rfl | hz3
      · exact hxy
      · exact key_lt_of' hxy ((List.pairwise_cons.1 h1).1 z hz3)

theorem lastO_cons (x : Opm) (l : List Opm) (k : ByteArray) (d : Option ByteArray) : lastO (x :: l) k d = lastO l k (opAt k d x) := rfl
theorem opAt_twice {x y : Opm} (h : y.key = x.key) (k : ByteArray) (d : Option ByteArray) : opAt k (opAt k d x) y = opAt k d y := by
  unfold opAt
  by_cases hk : y.key = k
  · rw [if_pos hk, if_pos hk]
  · rw [if_neg hk, if_neg hk, if_neg (by rw [← h]; exact hk)]
theorem lasts_last (k : ByteArray) : ∀ (l : List Opm) (d : Option ByteArray), lastO (lasts l) k d = lastO l k d
  | [], _ => rfl
  | [x], _ => rfl
  | x :: y :: l, d => by
    unfold lasts
    split
    · next h =>
      rw [lasts_last k (y :: l) d, lastO_cons, lastO_cons, lastO_cons, opAt_twice h]
    · rw [lastO_cons, lastO_cons, lasts_last k (y :: l) _]

theorem lastO_filter (k : ByteArray) : ∀ (l : List Opm) (d : Option ByteArray), lastO l k d = lastO (l.filter fun o => kO o == k.data.toList) k d
  | [], _ => rfl
  | x :: l, d => by
    rw [lastO_cons, lastO_filter k l]
    by_cases h : kO x = k.data.toList
    · rw [List.filter_cons_of_pos (by simpa using h), lastO_cons]
    · rw [List.filter_cons_of_neg (by simpa using h)]
      have : opAt k d x = d := by
        unfold opAt
        rw [if_neg fun e => h (by rw [← e]; rfl)]
      rw [this]
theorem same_last {A B : List Opm} (h : Same A B) (k : ByteArray) (d : Option ByteArray) : lastO A k d = lastO B k d := by
  rw [lastO_filter, h, ← lastO_filter]

theorem ovs_set {L : List Opm} {k : Nat} (y : Opm) (hk : k < L.length) : ovs (L.set k y) = (((ovs L).set (k * 3) (.bool y.del)).set (k * 3 + 1) (.string y.key)).set (k * 3 + 2) (.string y.val) := by
  induction L generalizing k with
  | nil => simp at hk
  | cons a l ih =>
    have e : ∀ (p : Opm) (l : List Opm), ovs (p :: l) = .bool p.del :: .string p.key :: .string p.val :: ovs l := fun p l => by simp [ovs, ov]
    cases k with
    | zero => simp [e]
    | succ k =>
      rw [List.set_cons_succ, e, e, ih (by simpa using hk), show (k + 1) * 3 = k * 3 + 1 + 1 + 1 by omega]
      simp
theorem own_set_other {w : World} {base e size g b n c : Nat} {xs : List Value} (h : w.ownsRow base e size (.slice (some ⟨g, 0, none⟩) n c) n xs) (hne : b ≠ g) (j : Nat) (v : Value) :
    (w.setCell ⟨b, j, none⟩ v).ownsRow base e size (.slice (some ⟨g, 0, none⟩) n c) n xs := by
  obtain ⟨h1, h2 | ⟨g', cap, cur, e', hb, hg, hr⟩⟩ := h
  · exact absurd h2.1 (by simp)
  · simp only [Value.slice.injEq, Option.some.injEq, Addr.mk.injEq, and_true] at e'
    obtain ⟨rfl, _, rfl⟩ := e'
    refine ⟨h1, .inr ⟨g, c, cur, rfl, hb, ?_, hr⟩⟩
    rw [Below.heap_setCell _ _ _ _ (fun e => hne e.symm)]
    exact hg

/-- append of one op within the row's own room: the row's place j is turned. -/
theorem run_append_in (ty : TypeId) (base g n cap j : Nat) (X : List Opm) (w : World) (hown : w.ownsRow base 45 3 (.slice (some ⟨g, 0, none⟩) n cap) n (ovs X)) (hX : X.length = n) (hj : j < n) (o : Opm) (a : Addr) (c : Nat)
    (hc : ∀ i u, (ov o)[i]? = some u → w.cell? (a.add i) = some u) :
    (Builtin.append_ #[23, 23] ty #[.slice (some ⟨g, 0, none⟩) j cap, .slice (some a) 1 c]).run Try.prog w = .ok (.slice (some ⟨g, 0, none⟩) (j + 1) cap) (((w.setCell ⟨g, j * 3, none⟩ (.bool o.del)).setCell ⟨g, j * 3 + 1, none⟩ (.string o.key)).setCell ⟨g, j * 3 + 2, none⟩ (.string o.val)) ∧
    (((w.setCell ⟨g, j * 3, none⟩ (.bool o.del)).setCell ⟨g, j * 3 + 1, none⟩ (.string o.key)).setCell ⟨g, j * 3 + 2, none⟩ (.string o.val)).ownsRow base 45 3 (.slice (some ⟨g, 0, none⟩) n cap) n (ovs (X.set j o)) := by
  obtain ⟨i0, hi, hz0, hz1, hz2⟩ := info_parts elemOp.info
  refine ⟨?_, by rw [ovs_set o (by omega)]; exact own_set (own_set (own_set hown _ _) _ _) _ _⟩
  obtain ⟨h1, h2 | ⟨g', cap', cur, e', hb, hg, hnc, hcm, hcs, ht⟩⟩ := hown
  · exact absurd h2.1 (by simp)
  · simp only [Value.slice.injEq, Option.some.injEq, Addr.mk.injEq, and_true] at e'
    obtain ⟨rfl, _, rfl⟩ := e'
    have := run_append_room_cells (P := Try.prog) w 23 ty 45 i0 Try.underlying23 hi g 0 j cap a 1 c (ov o) (by rw [hz1]; rfl) hc (by intro u hu; exact ovs_one [o] u (by simpa [ovs] using hu)) (by omega)
      (fun q hq => by
        rw [hz1, Nat.zero_add]
        have hq3 : q < 3 := hq
        simp only [World.cell?, hg]
        have : j * 3 + q < cur.size := by rw [hcs]; omega
        simp [this])
      (fun q hq => by simp [World.frozen?, hg])
    rw [hz1, Nat.zero_add] at this
    exact this

theorem own_take {w : World} {base e size g n c j : Nat} {xs : List Value} (h : w.ownsRow base e size (.slice (some ⟨g, 0, none⟩) n c) n xs) (hj : j ≤ n) : w.ownsRow base e size (.slice (some ⟨g, 0, none⟩) j c) j (xs.take (j * size)) := by
  obtain ⟨h1, h2 | ⟨g', cap, cur, e', hb, hg, hnc, hcm, hcs, ht⟩⟩ := h
  · exact absurd h2.1 (by simp)
  · simp only [Value.slice.injEq, Option.some.injEq, Addr.mk.injEq, and_true] at e'
    obtain ⟨rfl, _, rfl⟩ := e'
    have hm := Nat.mul_le_mul_right size hj
    refine ⟨by rw [List.length_take]; omega, .inr ⟨g, c, cur, rfl, hb, hg, by omega, hcm, hcs, ?_⟩⟩
    rw [← ht, List.take_take, Nat.min_eq_left hm]
theorem ovs_take (X : List Opm) (j : Nat) : ovs (X.take j) = (ovs X).take (j * 3) := by
  induction X generalizing j with
  | nil => simp [ovs]
  | cons a l ih =>
    have e : ∀ (p : Opm) (l : List Opm), ovs (p :: l) = .bool p.del :: .string p.key :: .string p.val :: ovs l := fun p l => by simp [ovs, ov]
    cases j with
    | zero => simp [ovs]
    | succ j => rw [List.take_succ_cons, e, e, ih, show (j + 1) * 3 = j * 3 + 1 + 1 + 1 by omega]; simp
theorem row_cellE {w : World} {base e size g n c : Nat} {xs : List Value} (h : w.ownsRow base e size (.slice (some ⟨g, 0, none⟩) n c) n xs) {j : Nat} {v : Value} (hj : xs[j]? = some v) : w.cell? ⟨g, j, none⟩ = some v ∧ w.frozen? ⟨g, j, none⟩ = false ∧ g < w.heap.size := by
  obtain ⟨h1, h2 | ⟨g', cap, cur, e', hb, hg, hnc, hcm, hcs, ht⟩⟩ := h
  · exact absurd h2.1 (by simp)
  · simp only [Value.slice.injEq, Option.some.injEq, Addr.mk.injEq, and_true] at e'
    obtain ⟨rfl, _, rfl⟩ := e'
    refine ⟨?_, by simp [World.frozen?, hg], (Array.getElem?_eq_some_iff.1 hg).1⟩
    simp only [World.cell?, hg]
    rw [← ht, List.getElem?_take] at hj
    split at hj
    · simpa using hj
    · cases hj

/-- What last leaves. -/
def LastO (O : List Opm) (w : World) (e : Ending) (w' : World) : Prop := ∃ ao q c, e = .returned (.slice ao q c) ∧ ∃ K, q = K.length ∧ w'.ownsRow w.heap.size 45 3 (.slice ao q c) q (ovs K) ∧ KRise K ∧ (∀ k d, lastO K k d = lastO O k d) ∧ (∀ x ∈ K, x ∈ O) ∧ K.length ≤ O.length ∧ Below w.heap.size w w'

set_option maxRecDepth 100000 in
set_option maxHeartbeats 8000000 in
theorem last_ops (v : Value) (m : Nat) (O : List Opm) (w : World) (hr : Opr w v m O) (hl : Hid (m ≤ 1000000)) :
    Calls Try.prog 34 #[v] w (LastO O w) := by
  have CL := Lib.hid (clone_ops v m O w hr hl)
  have hl2 := hl.out
  obtain ⟨ao, c, rfl⟩ := hr.shape
  have HR := Lib.hid hr
  clear hr
  go_enter Try.func34, Try.ntmps34
  go_wp2_with (go_at_call 51; refine CL.out.mono ?_; rintro e w1 ⟨ao1, c1, rfl, hown, hb1⟩)
  rcases hown.2 with ⟨hv, h0⟩ | ⟨g, cap, cur, hv, hg, hrest⟩
  · simp only [Value.slice.injEq] at hv
    obtain ⟨rfl, rfl, rfl⟩ := hv
    have hO : O = [] := List.eq_nil_of_length_eq_zero HR.out.1.symm
    have SN := Lib.hid (sort_none w1)
    have HB := Lib.hid (And.intro hb1 hO)
    unfold cmpF at SN
    clear hown hb1 hO CL
    go_wp2_with (go_at_call 52; refine SN.out.mono ?_; rintro e w2 ⟨rfl, rfl⟩)
    go_loopw [15, 4] (fun i kv wr => i = .int .i64 0 ∧ kv = .slice none 0 0 ∧ wr = w2) (fun _ _ _ => 0)
    case atStart => exact ⟨rfl, rfl, rfl⟩
    case round =>
      obtain ⟨rfl, rfl, rfl⟩ := hrel
      go_wp2_with fail
      go_ret
      obtain ⟨hb1, rfl⟩ := HB.out
      exact ⟨none, 0, 0, rfl, [], rfl, World.ownsRow_nil _ _ _ _, List.Pairwise.nil, fun _ _ => rfl, fun x hx => hx, Nat.le_refl _, hb1⟩
  · simp only [Value.slice.injEq] at hv
    obtain ⟨rfl, _, rfl⟩ := hv
    have hmc : m ≤ c1 := hrest.2.1
    have hmL : O.length = m := HR.out.1.symm
    have ST := Lib.hid (sort_ops w.heap.size 45 g m c1 O w1 hown hmL (by omega))
    have HB := Lib.hid (And.intro hb1 (And.intro hg hown))
    unfold cmpF at ST
    clear hown hb1 hrest CL
    go_wp2_with (go_at_call 52; refine ST.out.mono ?_; rintro e w2 ⟨rfl, M, aM, sM, nM, hown2, hg2⟩; have HM := Lib.hid (And.intro aM (And.intro sM (And.intro nM (And.intro hown2 hg2)))); clear aM sM nM hown2 hg2 ST)
    go_loopw [15, 4] (fun i kv wr => ∃ i1 j : Nat, i = .int .i64 (i1 : Int) ∧ kv = .slice (some ⟨g, 0, none⟩) j c1 ∧ i1 ≤ m ∧ j ≤ i1 ∧ Hid (∃ X, X.length = m ∧ X.drop i1 = M.drop i1 ∧ (X.take j) ++ lasts (M.drop i1) = lasts M ∧ wr.ownsRow w.heap.size 45 3 (.slice (some ⟨g, 0, none⟩) m c1) m (ovs X) ∧ Below w.heap.size w wr))
      (fun i _ _ => m - (RowKit.intOf i).toNat)
    case atStart =>
      obtain ⟨aM, sM, nM, hown2, hg2⟩ := HM.out
      obtain ⟨hb1, hg, hown⟩ := HB.out
      refine ⟨0, 0, rfl, rfl, Nat.zero_le _, Nat.le_refl _, Lib.hid ⟨M, by omega, rfl, by simp, hown2, hb1.trans ⟨hg2.os, hg2.tape, hg2.output, hg2.size, fun k hk => hg2.block k (by have := hb1.size; omega) (fun e => by injection e with e; omega)⟩⟩⟩
    case round =>
      obtain ⟨i1, j, rfl, rfl, hi, hj, hs⟩ := hrel
      by_cases hlt : i1 < m
      · have h3 : (i1 : Int) < (m : Int) := by omega
        obtain ⟨X, hXl, hXd, hXk, hown, hb⟩ := hs.out
        obtain ⟨o, ho⟩ : ∃ o, M[i1]? = some o := ⟨_, List.getElem?_eq_getElem (by have := HM.out.2.2.1; omega)⟩
        have hoX : X[i1]? = some o := by
          have := congrArg (fun l => l[0]?) hXd
          simp only [List.getElem?_drop, Nat.add_zero] at this
          rw [this]; exact ho
        have k0 := ovs_at hoX 0 (by omega)
        have k1 := ovs_at hoX 1 (by omega)
        have k2 := ovs_at hoX 2 (by omega)
        rw [Nat.add_zero] at k0
        obtain ⟨c0, _, hgw⟩ := row_cellE hown (k0.trans rfl)
        obtain ⟨c1', _, _⟩ := row_cellE hown (k1.trans rfl)
        obtain ⟨c2', _, _⟩ := row_cellE hown (k2.trans rfl)
        clear k0 k1 k2
        have BX := heap_alloc_new wr (.cells #[.bool o.del, .string o.key, .string o.val] 45)
        have b0 := cells_of BX 0 (.bool o.del) rfl
        have b1 := cells_of BX 1 (.string o.key) rfl
        have b2 := cells_of BX 2 (.string o.val) rfl
        have HB1 : Hid (wr.heap.size < (wr.alloc (.cells #[.bool o.del, .string o.key, .string o.val] 45)).heap.size) := Lib.hid (by simp)
        have HO1 := Lib.hid (own_alloc hown (.cells #[.bool o.del, .string o.key, .string o.val] 45))
        have HBW := Lib.hid (hb.trans ((Below.refl w.heap.size wr).alloc hb.size (.cells #[.bool o.del, .string o.key, .string o.val] 45)))
        obtain ⟨i2, hi2⟩ : ∃ i2, i1 + 1 = i2 := ⟨_, rfl⟩
        have HX := Lib.hid (And.intro hXl (And.intro hXd (And.intro hXk (And.intro ho (And.intro hi (And.intro hj (And.intro hi2 hlt)))))))
        clear BX hown hb hXl hXd hXk ho hoX hs hgw
        go_wp2_with fail
        generalize wr.alloc (.cells #[.bool o.del, .string o.key, .string o.val] 45) = W1 at *
        have AP := Lib.hid (fun q => run_append_in 23 w.heap.size g m c1 j X ((W1.drewN q).alloc (.cells #[.bool o.del, .string o.key, .string o.val] 45)) (own_alloc (own_drewN HO1.out q) _) HX.out.1 (by have := HX.out; omega) o ⟨W1.heap.size, 0, none⟩ 1 (fun i u hu => by
          have hbx := heap_alloc_new (W1.drewN q) (.cells #[.bool o.del, .string o.key, .string o.val] 45)
          rw [Addr.add_lit]
          have := cells_of hbx (0 + i) u (by rw [Nat.zero_add]; simpa [ov] using hu)
          exact this))
        by_cases hend : i2 = m
        · have w1 : IntKind.i64.wrap ((i1 : Int) + 1) = (m : Int) := by rw [IntKind.wrap_i64]; omega
          clear hi2 hi hj hlt
          go_quiet (fail)
          go_wp2_with (at_builtin; refine Lib.wpList_append_run _ rfl _ _ _ _ rfl _ _ rfl rfl _ _ (AP.out _).1 ?_)
          obtain ⟨hXl, hXd, hXk, ho, hi, hj, hi2, hlt⟩ := HX.out
          have ed : M.drop i1 = o :: M.drop i2 := by rw [← hi2, ← List.getElem_cons_drop (h := (List.getElem?_eq_some_iff.1 ho).1), (List.getElem?_eq_some_iff.1 ho).2]
          refine ⟨⟨i2, j + 1, by first | rfl | (congr 1; omega), rfl, by omega, by omega, Lib.hid ⟨X.set j o, by rw [List.length_set]; exact hXl, ?_, ?_, (AP.out nq).2, ?_⟩⟩, by simp only [RowKit.intOf]; omega⟩
          · rw [List.drop_set_of_lt (by omega), ← hi2, ← List.drop_drop, hXd, List.drop_drop]
          · rw [ed] at hXk
            rw [← hXk, take_next (s := o) (by rw [List.getElem?_set_self (by omega)]), List.take_set_of_le (by omega), List.append_assoc]
            congr 1
            rw [List.drop_eq_nil_of_le (by have := HM.out.2.2.1; omega)]; rfl
          · have hgb := HB.out.2.1
            exact below_set (below_set (below_set ((below_drewN HBW.out nq).alloc (by have := HBW.out.size; exact this) _) hgb _ _) hgb _ _) hgb _ _
        · obtain ⟨p, hp⟩ : ∃ p, M[i2]? = some p := ⟨_, List.getElem?_eq_getElem (by have := HM.out.2.2.1; omega)⟩
          have hpX : X[i2]? = some p := by
            have := congrArg (fun l => l[1]?) HX.out.2.1
            simp only [List.getElem?_drop] at this
            rw [hi2] at this
            rw [this]; exact hp
          have k1 := ovs_at hpX 1 (by omega)
          obtain ⟨p1, _, _⟩ := row_cellE HO1.out (k1.trans rfl)
          have w1 : IntKind.i64.wrap ((i1 : Int) + 1) = (i2 : Int) := by rw [IntKind.wrap_i64]; omega
          have n1 : ¬ (i2 : Int) = (m : Int) := by omega
          have n2 : ((i2 : Int) == (m : Int)) = false := by simpa using n1
          have l1 : (i2 : Int) < (m : Int) := by omega
          have l2 : i2 < m := by omega
          have HP := Lib.hid (And.intro hp hend)
          clear hi2 hi hj hlt hp hpX k1 hend
          by_cases hkk : p.key = o.key
          · have n3 : (p.key.toList == o.key.toList) = true := by rw [hkk]; simp
            go_quiet (fail)
            go_wp2_with fail
            obtain ⟨hXl, hXd, hXk, ho, hi, hj, hi2, hlt⟩ := HX.out
            have ed : M.drop i1 = o :: M.drop i2 := by rw [← hi2, ← List.getElem_cons_drop (h := (List.getElem?_eq_some_iff.1 ho).1), (List.getElem?_eq_some_iff.1 ho).2]
            have ed2 : M.drop i2 = p :: M.drop (i2 + 1) := by rw [← List.getElem_cons_drop (h := (List.getElem?_eq_some_iff.1 HP.out.1).1), (List.getElem?_eq_some_iff.1 HP.out.1).2]
            refine ⟨⟨i2, j, by first | rfl | (congr 1; omega), rfl, by omega, by omega, Lib.hid ⟨X, hXl, ?_, ?_, own_drewN HO1.out nq, below_drewN HBW.out nq⟩⟩, by simp only [RowKit.intOf]; omega⟩
            · rw [← hi2, ← List.drop_drop, hXd, List.drop_drop]
            · rw [← hXk, ed, ed2]
              congr 1
              conv => rhs; unfold lasts
              rw [if_pos hkk]
          · have n3 : ¬ p.key.toList = o.key.toList := fun e => hkk (text_inj' e)
            have n4 : (p.key.toList == o.key.toList) = false := by simpa using n3
            go_quiet (fail)
            go_wp2_with (at_builtin; refine Lib.wpList_append_run _ rfl _ _ _ _ rfl _ _ rfl rfl _ _ (AP.out _).1 ?_)
            obtain ⟨hXl, hXd, hXk, ho, hi, hj, hi2, hlt⟩ := HX.out
            have ed : M.drop i1 = o :: M.drop i2 := by rw [← hi2, ← List.getElem_cons_drop (h := (List.getElem?_eq_some_iff.1 ho).1), (List.getElem?_eq_some_iff.1 ho).2]
            refine ⟨⟨i2, j + 1, by first | rfl | (congr 1; omega), rfl, by omega, by omega, Lib.hid ⟨X.set j o, by rw [List.length_set]; exact hXl, ?_, ?_, (AP.out nq).2, ?_⟩⟩, by simp only [RowKit.intOf]; omega⟩
            · rw [List.drop_set_of_lt (by omega), ← hi2, ← List.drop_drop, hXd, List.drop_drop]
            · rw [ed] at hXk
              rw [← hXk, take_next (s := o) (by rw [List.getElem?_set_self (by omega)]), List.take_set_of_le (by omega), List.append_assoc]
              congr 1
              have ed2 : M.drop i2 = p :: M.drop (i2 + 1) := by rw [← List.getElem_cons_drop (h := (List.getElem?_eq_some_iff.1 HP.out.1).1), (List.getElem?_eq_some_iff.1 HP.out.1).2]
              rw [ed2]
              conv => rhs; unfold lasts
              rw [if_neg hkk]; rfl
            · have hgb := HB.out.2.1
              exact below_set (below_set (below_set ((below_drewN HBW.out nq).alloc (by have := HBW.out.size; exact this) _) hgb _ _) hgb _ _) hgb _ _
      · have h3 : ¬ (i1 : Int) < (m : Int) := by omega
        go_wp2_with fail
        go_ret
        obtain ⟨X, hXl, hXd, hXk, hown, hb⟩ := hs.out
        obtain ⟨aM, sM, nM, hown2, hg2⟩ := HM.out
        have e1 : X.take j = lasts M := by
          rw [List.drop_eq_nil_of_le (by omega)] at hXk
          simpa [lasts] using hXk
        refine ⟨_, j, c1, rfl, X.take j, by rw [List.length_take]; omega, ?_, by rw [e1]; exact lasts_rise aM, fun k d => by rw [e1, lasts_last, same_last sM], fun x hx => sM.symm.mem (lasts_mem (by rw [← e1]; exact hx)), by rw [List.length_take]; omega, hb⟩
        rw [ovs_take]
        exact own_take hown (by omega)

end Go.Proofs.Ytabmjjicplomlaa

namespace Go.Proofs.Ytabmjjicplomlaa
open Go.RowKit Go.Lib Go.Sort

def setOf (p : Prm) : Opm := ⟨false, p.key, p.val⟩
def setsOf (L : List Prm) : List Opm := L.map setOf

/-- make([]api.Op, 0, n). -/
theorem wpList_make_ops {ops : Array Oper} {rest : List Oper} {o : Oper} {a : Act} {w : World} {Q : Exit → Act → World → Prop} (hgd : o.guard = none) (s x : Operand) (ho : o.op = Op.makeSlice 23 s x)
    (base n : Nat) (C : Int) (hl : a.eval s = .int .i64 0) (hc : a.eval x = .int .i64 C) (hC : C = (n : Int)) (h63 : Hid (n ≤ 1000000)) (hbase : base ≤ w.heap.size)
    (h : ∀ w', w'.ownsRow base 45 3 (.slice (some ⟨w.heap.size, 0, none⟩) 0 n) 0 [] → Below base w w' → wpList Try.prog ops Q rest (a.put o.dst (.slice (some ⟨w.heap.size, 0, none⟩) 0 n)) w') : wpList Try.prog ops Q (o :: rest) a w := by
  obtain ⟨i0, hi, hz0, hz1, hz2⟩ := info_parts elemOp.info
  have hm := h63.out
  exact wpList_make_own w hgd s x _ ho base 45 i0 _ 3 Try.underlying23 hi hz0 hz1 .i64 .i64 C n hl hc hC (by rw [hz2]; omega) (by unfold maxLen; omega) hbase fun w' hown hg => h w' hown (below_none hg hbase)

/-- What sets leaves. -/
def SetsO (L : List Prm) (w : World) (e : Ending) (w' : World) : Prop := ∃ ao q c, e = .returned (.slice ao q c) ∧ q = L.length ∧ w'.ownsRow w.heap.size 45 3 (.slice ao q c) q (ovs (setsOf L)) ∧ Below w.heap.size w w'

set_option maxRecDepth 100000 in
set_option maxHeartbeats 4000000 in
theorem sets_any (v : Value) (n : Nat) (L : List Prm) (w : World) (hr : Prr w v n L) (hl : Hid (n ≤ 1000000)) :
    Calls Try.prog 33 #[v] w (SetsO L w) := by
  obtain ⟨ao, c, rfl⟩ := hr.shape
  have HR := Lib.hid hr
  have hl2 := hl.out
  clear hr
  go_enter Try.func33, Try.ntmps33
  go_wp2_with (refine wpList_make_ops rfl _ _ rfl w.heap.size n (n : Int) rfl rfl rfl hl (Nat.le_refl _) ?_; intro w1 hown1 hb1)
  have HI := Lib.hid (And.intro hown1 hb1)
  clear hown1 hb1
  go_loopw [11, 3] (fun i rv wr => ∃ (i1 cw : Nat) (aw : Option Addr), i = .int .i64 (i1 : Int) ∧ i1 ≤ n ∧ rv = .slice aw i1 cw ∧ Hid (wr.ownsRow w.heap.size 45 3 (.slice aw i1 cw) i1 (ovs (setsOf (L.take i1))) ∧ Below w.heap.size w wr))
    (fun i _ _ => n - (RowKit.intOf i).toNat)
  case atStart => exact ⟨0, _, _, rfl, Nat.zero_le _, rfl, Lib.hid ⟨HI.out.1, HI.out.2⟩⟩
  case round =>
    clear HI
    obtain ⟨i1, cw, aw, rfl, hi, rfl, hs⟩ := hrel
    by_cases hlt : i1 < n
    · have h3 : (i1 : Int) < (n : Int) := by omega
      obtain ⟨a, p, rfl, hp, c0, c1, _, _⟩ := (HR.out.later hs.out.2).at hlt
      have BX := heap_alloc_new wr (.cells #[.string p.key, .string p.val] 48)
      have b0 := cells_of BX 0 (.string p.key) rfl
      have b1 := cells_of BX 1 (.string p.val) rfl
      have HO1 := Lib.hid (own_alloc (own_alloc hs.out.1 (.cells #[.string p.key, .string p.val] 48)) (.cells #[.bool false, .string p.key, .string p.val] 45))
      have HBW := Lib.hid ((hs.out.2.trans ((Below.refl w.heap.size wr).alloc hs.out.2.size (.cells #[.string p.key, .string p.val] 48))).trans ((Below.refl w.heap.size _).alloc (by have := hs.out.2.size; simp; omega) (.cells #[.bool false, .string p.key, .string p.val] 45)))
      have HC := Lib.hid (Cells.lit (wr.alloc (.cells #[.string p.key, .string p.val] 48)) (ov (setOf p)) 45 (0, 0) 3 1 rfl)
      rw [show (wr.alloc (.cells #[.string p.key, .string p.val] 48)).heap.size = wr.heap.size + 1 by simp] at HC
      have HM : Hid (i1 + 1 ≤ 1000000) := Lib.hid (by omega)
      have HP := Lib.hid hp
      clear BX hs hp
      go_wp2_with (at_builtin; refine wpList_append_gen elemOp rfl _ _ rfl w.heap.size _ i1 _ rfl HO1.out _ 1 (ov (setOf p)) rfl HC.out (by intro u hu; exact ovs_one [setOf p] u (by simpa [ovs] using hu)) (i1 + 1) rfl HM (by decide) HBW.out.size ?_; intro ao5 c5 w5 hown5 hb5 _ _)
      refine ⟨⟨i1 + 1, c5, ao5, by simp, by omega, rfl, Lib.hid ⟨?_, HBW.out.trans hb5⟩⟩, by simp only [RowKit.intOf]; omega⟩
      rw [take_next HP.out]
      have e : ovs (setsOf (L.take i1 ++ [p])) = ovs (setsOf (L.take i1)) ++ ov (setOf p) := by simp [setsOf, ovs]
      rw [e]
      exact hown5
    · have h3 : ¬ (i1 : Int) < (n : Int) := by omega
      obtain rfl : i1 = n := by omega
      go_wp2_with fail
      go_ret
      obtain ⟨hown, hb⟩ := hs.out
      rw [List.take_of_length_le (by have := HR.out.1; omega)] at hown
      exact ⟨aw, i1, cw, rfl, HR.out.1, hown, hb⟩

end Go.Proofs.Ytabmjjicplomlaa
