/- The reference's least, turned, joins. Numbers and types by name. -/
import Derived.Test.YtejaikpnfhhmnaaDoorLtc
namespace Go.Proofs.YtejaikpnfhhmnaaDoor
open Go.RowKit Go.Lib
set_option maxRecDepth 100000

/-- What least tells: -1 where there is none. -/
def lstI (n : Nat) (f : Nat → Nat → Bool) (c : Nat → Bool) : Int := match leastP n f c with | some i => (i : Int) | none => -1
theorem lstI_some {n : Nat} {f : Nat → Nat → Bool} {c : Nat → Bool} {i : Nat} (h : leastP n f c = some i) : lstI n f c = i := by unfold lstI; rw [h]
theorem lstI_none {n : Nat} {f : Nat → Nat → Bool} {c : Nat → Bool} (h : leastP n f c = none) : lstI n f c = -1 := by unfold lstI; rw [h]
/-- It is at most all of the set, as far as k. -/
def stepB (f : Nat → Bool) (c : Nat → Bool) (k : Nat) : Bool := (List.range k).all fun j => !c j || f j
theorem stepB_next (f c : Nat → Bool) (k : Nat) : stepB f c (k + 1) = (stepB f c k && (!c k || f k)) := by
  unfold stepB
  rw [List.range_succ, List.all_append]
  simp
theorem stepB_true {f c : Nat → Bool} {k : Nat} (h : stepB f c k = true) : ∀ j, j < k → c j = true → f j = true := by
  intro j hj hc
  unfold stepB at h
  rw [List.all_eq_true] at h
  have := h j (by simpa using hj)
  simpa [hc] using this
theorem stepB_false {f c : Nat → Bool} {k : Nat} (h : stepB f c k = false) : ∃ j, j < k ∧ c j = true ∧ f j = false := by
  unfold stepB at h
  rw [List.all_eq_false] at h
  obtain ⟨j, hj, h2⟩ := h
  refine ⟨j, by simpa using hj, ?_⟩
  simpa using h2

set_option maxHeartbeats 4000000 in
theorem ref_least (v u : Value) (n : Nat) (f : Nat → Nat → Bool) (c : Nat → Bool) (w : World) (h : TabV w v n n (bB f)) (hu : Cells w u 1 n (rowB n c)) (hn : n ≤ 100000) :
    Calls Tryd.prog 67 #[v, u] w fun e w' => e = .returned (.int .i64 (lstI n f c)) ∧ ∃ q, w' = w.drewN q := by
  obtain ⟨ao, cp, rfl⟩ := h.shape
  obtain ⟨bo, dp, rfl⟩ := hu.shape
  have H := Lib.hid (And.intro h hu)
  clear h hu
  go_enter Tryd.func67, Tryd.ntmps67
  go_wp2_with fail
  go_loopw [5] (fun i wr => ∃ k q : Nat, k ≤ n ∧ i = .int .i64 k ∧ Hid (∀ j, j < k → c j = false ∨ ∃ x, x < n ∧ c x = true ∧ f j x = false) ∧ wr = w.drewN q)
    (fun i _ => n - (RowKit.intOf i).toNat)
  case atStart => exact ⟨0, 0, Nat.zero_le _, rfl, Lib.hid (fun j hj => by omega), rfl⟩
  case round =>
    obtain ⟨k, q, hk, rfl, hs, rfl⟩ := hrel
    by_cases h1 : k < n
    · have h3 : (k : Int) < (n : Int) := by omega
      obtain ⟨b, rfl, hc⟩ := cells_at H.out.2 h1
      go_wp2_with fail
      go_loopw [6, 7] (fun o i wr => ∃ (j r : Nat) (ok : Bool), j ≤ n ∧ o = .bool ok ∧ i = .int .i64 j ∧ Hid (ok = (c k && stepB (f k) c j)) ∧ wr = w.drewN r)
        (fun _ i _ => n - (RowKit.intOf i).toNat)
      case atStart => exact ⟨0, q, c k, Nat.zero_le _, rfl, rfl, Lib.hid (by simp [stepB]), rfl⟩
      case round =>
        clear hc
        obtain ⟨j, r, ok, hj, rfl, rfl, ho, rfl⟩ := hrel
        by_cases h4 : j < n
        · have h5 : (j : Int) < (n : Int) := by omega
          obtain ⟨_, e, hcj⟩ := cells_at H.out.2 h4
          cases e
          obtain ⟨a, d, x, rfl, c1, c2⟩ := H.out.1.at h1 h4
          unfold bB at c2
          cases ok with
          | false =>
            go_wp2_with fail
            exact ⟨⟨j + 1, r, false, by omega, rfl, by go_num, Lib.hid (by rw [stepB_next, ← Bool.and_assoc, ← ho.out]; rfl), rfl⟩, by simp [RowKit.intOf]; omega⟩
          | true =>
            cases hcb : c j with
            | false =>
              rw [hcb] at hcj
              have HX := Lib.hid hcb
              clear hcb
              go_wp2_with fail
              exact ⟨⟨j + 1, r, true, by omega, rfl, by go_num, Lib.hid (by rw [stepB_next, ← Bool.and_assoc, ← ho.out, HX.out]; rfl), rfl⟩, by simp [RowKit.intOf]; omega⟩
            | true =>
              rw [hcb] at hcj
              have HX := Lib.hid hcb
              clear hcb
              go_wp2_with fail
              exact ⟨⟨j + 1, r, f k j, by omega, rfl, by go_num, Lib.hid (by rw [stepB_next, ← Bool.and_assoc, ← ho.out, HX.out]; simp), rfl⟩, by simp [RowKit.intOf]; omega⟩
        · have h5 : ¬ (j : Int) < (n : Int) := by omega
          obtain rfl : j = n := by omega
          cases ok with
          | true =>
            have HE := Lib.hid (show lstI j f c = k by
              have h6 := ho.out.symm
              rw [Bool.and_eq_true] at h6
              exact lstI_some (leastP_first h1 h6.1 (stepB_true h6.2) hs.out))
            go_wp2_with fail
            go_ret
            exact ⟨by rw [HE.out]; rfl, r, rfl⟩
          | false =>
            go_wp2_with fail
            refine ⟨⟨k + 1, r, by omega, by go_num, Lib.hid (fun x hx => ?_), rfl⟩, by simp [RowKit.intOf]; omega⟩
            by_cases hxk : x < k
            · exact hs.out x hxk
            · obtain rfl : x = k := by omega
              have h6 := ho.out.symm
              rw [Bool.and_eq_false_iff] at h6
              rcases h6 with h6 | h6
              · exact .inl h6
              · exact .inr (stepB_false h6)
    · have h3 : ¬ (k : Int) < (n : Int) := by omega
      obtain rfl : k = n := by omega
      go_wp2_with fail
      go_ret
      rw [lstI_none (leastP_nothing hs.out)]
      exact ⟨rfl, q, rfl⟩

/-- What tells a table: in new memory. -/
def TabTold (w : World) (n m : Nat) (g : Nat → Nat → Value) (e : Ending) (w' : World) : Prop := ∃ ao c, e = .returned (.slice ao n c) ∧ TabL w.heap.size w' (.slice ao n c) n m g ∧ Grow w w'
/-- A row as far as j. -/
def prB (g : Nat → Bool) (j x : Nat) : Bool := if x < j then g x else false
theorem prB_set {n j : Nat} {g : Nat → Bool} (_hj : j < n) : (rowB n (prB g j)).set j (.bool (g j)) = rowB n (prB g (j + 1)) := by
  apply List.ext_getElem?
  intro k
  by_cases hk : k < n
  · rw [List.getElem?_set, rowB_at hk, rowB_at hk]
    by_cases e : j = k
    · subst e
      rw [if_pos rfl, if_pos (by rw [rowB_length]; exact hk)]
      simp [prB]
    · rw [if_neg e]
      unfold prB
      by_cases h : k < j
      · rw [if_pos h, if_pos (by omega)]
      · rw [if_neg h, if_neg (by omega)]
  · rw [List.getElem?_eq_none (by simp [rowB]; omega), List.getElem?_eq_none (by simp [rowB]; omega)]
theorem prB_none (n : Nat) (g : Nat → Bool) : rowB n (fun _ => false) = rowB n (prB g 0) := range_congr fun k _ => by simp [prB]
theorem prB_all (n : Nat) (g : Nat → Bool) : rowB n (prB g n) = rowB n g := range_congr fun k hk => by simp [prB, hk]

set_option maxHeartbeats 4000000 in
theorem ref_turned (v : Value) (n : Nat) (f : Nat → Nat → Bool) (w : World) (h : TabV w v n n (bB f)) (hn : n ≤ 1000) :
    Calls Tryd.prog 51 #[v] w (TabTold w n n (bB (flipB f))) := by
  obtain ⟨ao, cp, rfl⟩ := h.shape
  have H := Lib.hid h
  have FN : Hid (n ≤ 1000000) := Lib.hid (by omega)
  clear h
  go_enter Tryd.func51, Tryd.ntmps51
  go_wp2_with fail
  go_loopw [4, 3] (fun i o wr => ∃ (k : Nat) (bo : Option Addr) (d : Nat) (vs : List Value), k ≤ n ∧ i = .int .i64 k ∧ o = .slice bo k d ∧ Hid (TabO wr w.heap.size 47 4 (.slice bo k d) k vs ((List.range k).map fun i => rowB n (flipB f i)) ∧ Grow w wr))
    (fun i _ _ => n - (RowKit.intOf i).toNat)
  case atStart => exact ⟨0, none, 0, [], Nat.zero_le _, rfl, rfl, Lib.hid ⟨TabO.nil _ _ _ _, Grow.refl _⟩⟩
  case round =>
    obtain ⟨k, bo, d, vs, hk, rfl, rfl, hs⟩ := hrel
    by_cases h1 : k < n
    · have h3 : (k : Int) < (n : Int) := by omega
      have FK : Hid (k + 1 ≤ 1000000) := Lib.hid (by omega)
      go_wp2_with (refine wpList_make_gen elemBool rfl rfl (.tmp 14) (.tmp 14) rfl w.heap.size n n n rfl rfl rfl rfl FN (by decide) hs.out.2.size ?_; intro w1 hown1 hb1 hg1 hs1)
      have HI : Hid (w1.ownsRow w.heap.size 4 1 (.slice (some ⟨wr.heap.size, 0, none⟩) n n) n (rowB n (prB (flipB f k) 0)) ∧ Grow wr w1) := Lib.hid ⟨by rw [← prB_none, ← rowB_false]; exact hown1, below_none hg1 (Nat.le_refl _)⟩
      clear hown1 hb1 hg1 hs1
      obtain ⟨r, hr⟩ : ∃ r, wr.heap.size = r := ⟨_, rfl⟩
      rw [hr] at HI ⊢
      have HR := Lib.hid hr
      clear hr
      go_loopw [6] (fun i w2 => ∃ j : Nat, j ≤ n ∧ i = .int .i64 j ∧ Hid (w2.ownsRow w.heap.size 4 1 (.slice (some ⟨r, 0, none⟩) n n) n (rowB n (prB (flipB f k) j)) ∧ Grow wr w2))
        (fun i _ => n - (RowKit.intOf i).toNat)
      case atStart => exact ⟨0, Nat.zero_le _, rfl, HI⟩
      case round =>
        rename_i w2
        clear HI
        obtain ⟨j, hj, rfl, hq⟩ := hrel
        by_cases h4 : j < n
        · have h5 : (j : Int) < (n : Int) := by omega
          obtain ⟨a, b, x, rfl, c1, c2⟩ := (H.out.later (hs.out.2.trans hq.out.2)).at h4 h1
          obtain ⟨m1, f1⟩ := own_cell hq.out.1 (rowB_at h4)
          unfold bB at c2
          go_wp2_with fail
          refine ⟨⟨j + 1, by omega, by go_num, Lib.hid ⟨?_, ?_⟩⟩, by simp [RowKit.intOf]; omega⟩
          · have := own_setV hq.out.1 j (.bool (f j k))
            rw [show Value.bool (f j k) = .bool (flipB f k j) from rfl, prB_set h4] at this
            exact this
          · exact below_set hq.out.2 (Nat.le_of_eq HR.out) _ _
        · have h5 : ¬ (j : Int) < (n : Int) := by omega
          obtain rfl : j = n := by omega
          have HT := Lib.hid (And.intro (hs.out.1.later hq.out.2) hq.out.1)
          have HG := Lib.hid (hs.out.2.trans hq.out.2)
          go_wp2_with (at_builtin; refine wpList_append_gen elemBools rfl (.tmp 32) (.tmp 34) rfl w.heap.size _ k vs rfl (HT.out.1.outer.alloc _) _ 1 [.slice (some ⟨r, 0, none⟩) j j] rfl (Cells.lit _ [.slice (some ⟨r, 0, none⟩) j j] 47 (0, 0) 1 1 rfl) (by intro u hu; simp at hu; subst hu; rfl) (k + 1) rfl FK (by decide) (by have := HG.out.size; simp; omega) ?_; intro ao6 c6 w6 hown6 hb6 hg6 ho6; have HA := Lib.hid (And.intro hown6 (And.intro hg6 hb6)); clear hown6 hb6 hg6 ho6)
          refine ⟨⟨k + 1, ao6, c6, vs ++ [.slice (some ⟨r, 0, none⟩) j j], by omega, by go_num, rfl, Lib.hid ⟨?_, ?_⟩⟩, by simp [RowKit.intOf]; omega⟩
          · rw [rows_snoc]
            refine TabO.push (by decide) (HT.out.1.later ((Below.refl _ _).alloc (Nat.le_refl _) _)) (xr := rowB j (flipB f k)) ?_ ?_ HA.out.1 HA.out.2.1
            · rw [rowB_length, ← prB_all]
              exact HT.out.2.alloc _
            · intro i vi b hi hb hb2
              have := (hs.out.1.lt hi hb).2
              have e : r = b := by simpa [Value.ownBlock] using hb2
              have := HR.out
              omega
          · exact (HG.out.alloc HG.out.size _).trans HA.out.2.2
    · have h3 : ¬ (k : Int) < (n : Int) := by omega
      obtain rfl : k = n := by omega
      go_wp2_with fail
      go_ret
      exact ⟨bo, d, rfl, hs.out.1.tabL, hs.out.2⟩

def rowI (n : Nat) (g : Nat → Nat) : List Value := (List.range n).map fun k => .int .i64 (g k : Int)
theorem rowI_length (n : Nat) (g : Nat → Nat) : (rowI n g).length = n := by simp [rowI]
theorem rowI_snoc (n : Nat) (g : Nat → Nat) : rowI (n + 1) g = rowI n g ++ [.int .i64 (g n : Int)] := rows_snoc n _
/-- What joins tells. -/
def JoinsTold (w : World) (n : Nat) (f : Nat → Nat → Bool) (e : Ending) (w' : World) : Prop :=
  Grow w w' ∧ ((joinsP n f = false ∧ e = .returned (.tuple #[.slice none 0 0, .bool false])) ∨ (joinsP n f = true ∧ ∃ ao c, e = .returned (.tuple #[.slice ao n c, .bool true]) ∧ TabL w.heap.size w' (.slice ao n c) n n (bI (joinI n f))))
theorem joins_false {n : Nat} {f : Nat → Nat → Bool} {a b : Nat} (ha : a < n) (hb : b < n) (h : joinP n f a b = none) : joinsP n f = false := by
  cases h2 : joinsP n f with
  | false => rfl
  | true =>
    obtain ⟨j, hj⟩ := joinsP_iff.1 h2 a b ha hb
    rw [h] at hj
    cases hj
theorem joinI_some {n : Nat} {f : Nat → Nat → Bool} {a b j : Nat} (h : joinP n f a b = some j) : joinI n f a b = j := by unfold joinI; rw [h]; rfl

set_option maxHeartbeats 8000000 in
theorem ref_joins (v : Value) (n : Nat) (f : Nat → Nat → Bool) (w : World) (h : TabV w v n n (bB f)) (hn : n ≤ 1000) :
    Calls Tryd.prog 50 #[v] w (JoinsTold w n f) := by
  obtain ⟨ao, cp, rfl⟩ := h.shape
  have H := Lib.hid h
  have FN : Hid (n ≤ 1000000) := Lib.hid (by omega)
  clear h
  go_enter Tryd.func50, Tryd.ntmps50
  go_wp2_with fail
  go_loopw [5, 4] (fun i o wr => ∃ (k : Nat) (bo : Option Addr) (d : Nat) (vs : List Value), k ≤ n ∧ i = .int .i64 k ∧ o = .slice bo k d ∧ Hid (TabO wr w.heap.size 46 3 (.slice bo k d) k vs ((List.range k).map fun i => rowI n (joinI n f i)) ∧ Grow w wr ∧ ∀ x y, x < k → y < n → ∃ j, joinP n f x y = some j))
    (fun i _ _ => n - (RowKit.intOf i).toNat)
  case atStart => exact ⟨0, none, 0, [], Nat.zero_le _, rfl, rfl, Lib.hid ⟨TabO.nil _ _ _ _, Grow.refl _, fun x y hx => by omega⟩⟩
  case round =>
    obtain ⟨k, bo, d, vs, hk, rfl, rfl, hs⟩ := hrel
    by_cases h1 : k < n
    · have h3 : (k : Int) < (n : Int) := by omega
      have FK : Hid (k + 1 ≤ 1000000) := Lib.hid (by omega)
      obtain ⟨wk, hwk⟩ : ∃ wk, wk = wr := ⟨_, rfl⟩
      rw [← hwk] at hs ⊢
      clear hwk
      go_wp2_with fail
      go_loopw [7, 6] (fun i o w2 => ∃ (b : Nat) (ro : Option Addr) (e : Nat), b ≤ n ∧ i = .int .i64 b ∧ o = .slice ro b e ∧ Hid (w2.ownsRow wk.heap.size 3 1 (.slice ro b e) b (rowI b (joinI n f k)) ∧ Grow wk w2 ∧ ∀ y, y < b → ∃ j, joinP n f k y = some j))
        (fun i _ _ => n - (RowKit.intOf i).toNat)
      case atStart => exact ⟨0, none, 0, Nat.zero_le _, rfl, rfl, Lib.hid ⟨World.ownsRow_nil _ _ _ _, Grow.refl _, fun y hy => by omega⟩⟩
      case round =>
        obtain ⟨b, ro, e, hb, rfl, rfl, hq⟩ := hrel
        obtain ⟨w2, hw2⟩ : ∃ w2, w2 = wr := ⟨_, rfl⟩
        rw [← hw2] at hq ⊢
        clear hw2
        by_cases h4 : b < n
        · have h5 : (b : Int) < (n : Int) := by omega
          have FB : Hid (b + 1 ≤ 1000000) := Lib.hid (by omega)
          go_wp2_with (refine wpList_make_gen elemBool rfl rfl (.tmp 24) (.tmp 24) rfl w2.heap.size n n n rfl rfl rfl rfl FN (by decide) (Nat.le_refl _) ?_; intro w3 hown3 hb3 hg3 hs3)
          have HI : Hid (w3.ownsRow w2.heap.size 4 1 (.slice (some ⟨w2.heap.size, 0, none⟩) n n) n (rowB n (prB (fun x => f k x && f b x) 0)) ∧ Grow w2 w3) := Lib.hid ⟨by rw [← prB_none, ← rowB_false]; exact hown3, hb3⟩
          clear hown3 hb3 hg3 hs3
          obtain ⟨r, hr⟩ : ∃ r, w2.heap.size = r := ⟨_, rfl⟩
          rw [hr] at HI ⊢
          have HR := Lib.hid hr
          clear hr
          go_loopw [9] (fun i w4 => ∃ j : Nat, j ≤ n ∧ i = .int .i64 j ∧ Hid (w4.ownsRow r 4 1 (.slice (some ⟨r, 0, none⟩) n n) n (rowB n (prB (fun x => f k x && f b x) j)) ∧ Grow w2 w4))
            (fun i _ => n - (RowKit.intOf i).toNat)
          case atStart => exact ⟨0, Nat.zero_le _, rfl, HI⟩
          case round =>
            clear HI
            obtain ⟨j, hj, rfl, hz⟩ := hrel
            obtain ⟨w4, hw4⟩ : ∃ w4, w4 = wr := ⟨_, rfl⟩
            rw [← hw4] at hz ⊢
            clear hw4
            by_cases h6 : j < n
            · have h7 : (j : Int) < (n : Int) := by omega
              have HT := H.out.later (hs.out.2.1.trans (hq.out.2.1.trans hz.out.2))
              obtain ⟨a, b1, x1, e1, c1, c2⟩ := HT.at h1 h6
              obtain ⟨a', b2, x2, e2, c3, c4⟩ := HT.at h4 h6
              subst e1
              cases e2
              obtain ⟨m1, f1⟩ := own_cell hz.out.1 (rowB_at h6)
              unfold bB at c2 c4
              have HS := Lib.hid (own_setV hz.out.1 j (.bool (f k j && f b j)))
              have HL := Lib.hid (below_set hz.out.2 (Nat.le_of_eq HR.out) j (.bool (f k j && f b j)))
              rw [prB_set (g := fun x => f k x && f b x) h6] at HS
              clear HT
              cases hf : f k j with
              | false =>
                rw [hf] at c2 HS HL
                clear hf
                go_wp2_with fail
                exact ⟨⟨j + 1, by omega, by go_num, Lib.hid ⟨HS.out, HL.out⟩⟩, by simp [RowKit.intOf]; omega⟩
              | true =>
                rw [hf] at c2 HS HL
                clear hf
                rw [Bool.true_and] at HS HL
                go_wp2_with fail
                exact ⟨⟨j + 1, by omega, by go_num, Lib.hid ⟨HS.out, HL.out⟩⟩, by simp [RowKit.intOf]; omega⟩
            · have h7 : ¬ (j : Int) < (n : Int) := by omega
              obtain rfl : j = n := by omega
              have HC := Lib.hid (ref_least _ _ j f (fun x => f k x && f b x) w4 (H.out.later (hs.out.2.1.trans (hq.out.2.1.trans hz.out.2))) (by
                have := Cells.own hz.out.1 (by decide)
                rw [prB_all] at this
                exact this) (by omega))
              have HG := Lib.hid (hq.out.2.1.trans hz.out.2)
              have HO := Lib.hid (own_later hq.out.1 hz.out.2)
              obtain ⟨J, hJ⟩ : ∃ J, lstI j f (fun x => f k x && f b x) = J := ⟨_, rfl⟩
              rw [hJ] at HC
              have HJ : Hid ((J < 0 ∧ joinP j f k b = none) ∨ (∃ i : Nat, J = i ∧ joinP j f k b = some i)) := Lib.hid (by
                cases hjp : joinP j f k b with
                | none => exact .inl ⟨by rw [← hJ, lstI_none hjp]; decide, rfl⟩
                | some i => exact .inr ⟨i, by rw [← hJ, lstI_some hjp], rfl⟩)
              clear hJ
              rcases HJ.out with ⟨hlt, hno⟩ | ⟨i, rfl, hyes⟩
              · have HN := Lib.hid hno
                clear hno
                go_wp2_with (go_at_call 67; refine HC.out.mono ?_; rintro e w' ⟨rfl, q, rfl⟩)
                go_ret2
                refine ⟨below_drewN (hs.out.2.1.trans HG.out) _, .inl ⟨joins_false h1 h4 HN.out, rfl⟩⟩
              · have HN := Lib.hid hyes
                have hge : ¬ (i : Int) < 0 := by omega
                clear hyes
                go_wp2_with (first | (go_at_call 67; refine HC.out.mono ?_; rintro e w' ⟨rfl, q, rfl⟩) | (at_builtin; refine wpList_append_gen elemInt1 rfl (.tmp 56) (.tmp 58) rfl wk.heap.size _ b _ rfl (World.ownsRow.alloc (w := w4.drewN _) HO.out _) _ 1 [.int .i64 (i : Int)] rfl (Cells.lit _ [.int .i64 (i : Int)] 3 (0, 0) 1 1 rfl) (by intro u hu; simp at hu; subst hu; rfl) (b + 1) rfl FB (by decide) (by have := HG.out.size; simp; omega) ?_; intro ao6 c6 w6 hown6 hb6 hg6 ho6; have HA := Lib.hid (And.intro hown6 hb6); clear hown6 hb6 hg6 ho6))
                refine ⟨⟨b + 1, ao6, c6, by omega, by go_num, rfl, Lib.hid ⟨?_, ?_, ?_⟩⟩, by simp [RowKit.intOf]; omega⟩
                · rw [rowI_snoc, joinI_some HN.out]
                  exact HA.out.1
                · exact ((below_drewN HG.out _).alloc HG.out.size _).trans HA.out.2
                · intro y hy
                  by_cases hyb : y < b
                  · exact hq.out.2.2 y hyb
                  · obtain rfl : y = b := by omega
                    exact ⟨i, HN.out⟩
        · have h5 : ¬ (b : Int) < (n : Int) := by omega
          obtain rfl : b = n := by omega
          have HT := Lib.hid (And.intro (hs.out.1.later hq.out.2.1) hq.out.1)
          have HG := Lib.hid (hs.out.2.1.trans hq.out.2.1)
          go_wp2_with (at_builtin; refine wpList_append_gen elemInt2 rfl (.tmp 60) (.tmp 62) rfl w.heap.size _ k vs rfl (HT.out.1.outer.alloc _) _ 1 [.slice ro b e] rfl (Cells.lit _ [.slice ro b e] 46 (0, 0) 1 1 rfl) (by intro u hu; simp at hu; subst hu; rfl) (k + 1) rfl FK (by decide) (by have := HG.out.size; simp; omega) ?_; intro ao6 c6 w6 hown6 hb6 hg6 ho6; have HA := Lib.hid (And.intro hown6 (And.intro hg6 hb6)); clear hown6 hb6 hg6 ho6)
          refine ⟨⟨k + 1, ao6, c6, vs ++ [.slice ro b e], by omega, by go_num, rfl, Lib.hid ⟨?_, ?_, ?_⟩⟩, by simp [RowKit.intOf]; omega⟩
          · rw [rows_snoc]
            refine TabO.push (by decide) (HT.out.1.later ((Below.refl _ _).alloc (Nat.le_refl _) _)) (xr := rowI b (joinI b f k)) ?_ ?_ HA.out.1 HA.out.2.1
            · rw [rowI_length]
              exact owns_base (HT.out.2.alloc _) hs.out.2.1.size
            · intro i vi c hi hc hc2
              have h7 := (hs.out.1.lt hi hc).2
              have h8 := (hq.out.1.lt c hc2).1
              omega
          · exact (HG.out.alloc HG.out.size _).trans HA.out.2.2
          · intro x y hx hy
            by_cases hxk : x < k
            · exact hs.out.2.2 x y hxk hy
            · obtain rfl : x = k := by omega
              exact hq.out.2.2 y hy
    · have h3 : ¬ (k : Int) < (n : Int) := by omega
      obtain rfl : k = n := by omega
      go_wp2_with fail
      go_ret2
      exact ⟨hs.out.2.1, .inr ⟨joinsP_iff.2 fun a b ha hb => hs.out.2.2 a b ha hb, bo, d, rfl, hs.out.1.tabL⟩⟩

end Go.Proofs.YtejaikpnfhhmnaaDoor
