/- The reference's put of a pair: the walk. Numbers and types by name. -/
import Derived.Test.YthcdkggkoanjpaaGreatDoorPut
namespace Go.Proofs.YthcdkggkoanjpaaGreatDoor
open Go.RowKit Go.Lib Go.Sort
theorem cells_of6 {w : World} {b : Nat} {cs : Array Value} {t : TypeId} (h : w.heap[b]? = some (.cells cs t (0, 0))) (j : Nat) (v : Value) (hj : cs[j]? = some v) : w.cell? ⟨b, j, none⟩ = some v := by
  simp only [World.cell?, h]
  simpa using hj
theorem row_cell2 {w : World} {base e : Nat} {ao : Option Addr} {n c : Nat} {xs : List Value} (h : w.ownsRow base e 2 (.slice ao n c) n xs) (hx : xs.length = n * 2) {j : Nat} {v : Value} (hj : xs[j]? = some v) :
    ∃ g, ao = some ⟨g, 0, none⟩ ∧ w.cell? ⟨g, j, none⟩ = some v ∧ w.frozen? ⟨g, j, none⟩ = false ∧ base ≤ g ∧ g < w.heap.size := by
  have hlt := (List.getElem?_eq_some_iff.1 hj).1
  rcases h.2 with ⟨hv, h0⟩ | ⟨g, cap, cur, hv, hb, hg, hc, _, hs, ht⟩
  · subst h0; simp at hx; rw [hx] at hlt; simp at hlt
  · simp only [Value.slice.injEq] at hv
    obtain ⟨rfl, _, rfl⟩ := hv
    refine ⟨g, rfl, ?_, by simp [World.frozen?, hg], hb, (Array.getElem?_eq_some_iff.1 hg).1⟩
    simp only [World.cell?, hg]
    rw [← ht, List.getElem?_take] at hj
    split at hj
    · simpa using hj
    · cases hj
theorem elemPair : Elem 48 90 (.agg #[.string ⟨#[]⟩, .string ⟨#[]⟩]) 2 32 := ⟨Tryz.underlying48, by kernel_rfl, by decide, by decide⟩
def blankP : Prm := ⟨⟨#[]⟩, ⟨#[]⟩⟩
theorem own_alloc {w : World} {base e size : Nat} {v : Value} {n : Nat} {xs : List Value} (h : w.ownsRow base e size v n xs) (o : Obj) : (w.alloc o).ownsRow base e size v n xs := h.alloc o
theorem own_drewN {w : World} {base e size : Nat} {v : Value} {n : Nat} {xs : List Value} (h : w.ownsRow base e size v n xs) (q : Nat) : (w.drewN q).ownsRow base e size v n xs := h
theorem put_grown {w1 W w6 : World} {bx base e n c c6 : Nat} {ao ao6 : Option Addr} {xs ys : List Value} (hown : w1.ownsRow base e 2 (.slice ao n c) n xs) (hsz : w1.heap.size ≤ W.heap.size) (hWb : ∀ k, k < w1.heap.size → W.heap[k]? = w1.heap[k]?) (hbx : bx < w1.heap.size)
    (hlt : ∀ g, (Value.slice ao n c).ownBlock = some g → g < bx) (hown6 : w6.ownsRow base e 2 (.slice ao6 (n + 1) c6) (n + 1) ys) (hg6 : W.grownBy w6 (Value.slice ao n c).ownBlock)
    (ho6 : (Value.slice ao6 (n + 1) c6).ownBlock = (Value.slice ao n c).ownBlock ∨ (Value.slice ao6 (n + 1) c6).ownBlock = some W.heap.size) : ∃ g6, ao6 = some ⟨g6, 0, none⟩ ∧ base ≤ g6 ∧ g6 ≠ bx ∧ w6.heap[bx]? = w1.heap[bx]? := by
  obtain ⟨g6, rfl⟩ : ∃ g6, ao6 = some ⟨g6, 0, none⟩ := by
    rcases hown6.2 with ⟨hv, h0⟩ | ⟨g, cap, cur, hv, _⟩
    · omega
    · simp only [Value.slice.injEq] at hv
      exact ⟨g, hv.1⟩
  refine ⟨g6, rfl, (hown6.lt g6 rfl).1, ?_, ?_⟩
  · rcases ho6 with h | h
    · have := hlt g6 (h.symm.trans rfl); omega
    · have : g6 = W.heap.size := by simpa [Value.ownBlock] using h
      omega
  · rw [hg6.block bx (by omega) (fun e => by have := hlt bx e.symm; omega)]
    exact hWb bx hbx
set_option maxRecDepth 100000 in
set_option maxHeartbeats 4000000 in
theorem ref_putP (base : Nat) (ao : Option Addr) (n c : Nat) (L : List Prm) (x : Prm) (w : World) (hown : w.ownsRow base 90 2 (.slice ao n c) n (pvs L)) (hn : n = L.length) (hb : base ≤ w.heap.size) (hl : n < 900000) :
    Calls Tryz.prog 57 #[.slice ao n c, .agg #[.string x.key, .string x.val]] w fun e w' => ∃ ao' m c', e = .returned (.slice ao' m c') ∧ m = (putP x L).length ∧ w'.ownsRow base 90 2 (.slice ao' m c') m (pvs (putP x L)) ∧ Below base w w' := by
  obtain ⟨xk, xv⟩ := x
  simp only []
  have hbox := heap_alloc_new w (.cells #[.string xk, .string xv] 90)
  have b0 := cells_of6 hbox 0 (.string xk) rfl
  have b1 := cells_of6 hbox 1 (.string xv) rfl
  have hB1 : Below base w (w.alloc (.cells #[.string xk, .string xv] 90)) := (Below.refl _ _).alloc hb _
  have e1 : (w.alloc (.cells #[.string xk, .string xv] 90)).heap.size = w.heap.size + 1 := by simp
  have hown1 := hown.alloc (.cells #[.string xk, .string xv] 90)
  have hlt := fun g (hg : (Value.slice ao n c).ownBlock = some g) => (hown.lt g hg).2
  go_enter Tryz.func57, Tryz.ntmps57
  go_wp2_with fail
  generalize w.alloc (.cells #[.string xk, .string xv] 90) = w1 at *
  have HO := Lib.hid (And.intro hown1 (And.intro hB1 (And.intro e1 (And.intro hlt (And.intro hbox (And.intro hb hn))))))
  have HXL : Hid ((pvs L).length = n * 2) := Lib.hid (by rw [pvs_length, hn])
  clear hown hown1 hB1 e1 hlt hbox hb hn
  go_loopw [5] (fun i wr => ∃ k q : Nat, k ≤ n ∧ i = .int .i64 k ∧ Hid (∀ j, j < k → ∀ z, L[j]? = some z → kOf z < kOf ⟨xk, xv⟩) ∧ wr = w1.drewN q)
    (fun i _ => n - (RowKit.intOf i).toNat)
  case atStart => exact ⟨0, 0, Nat.zero_le _, rfl, Lib.hid (fun j hj => by omega), rfl⟩
  case round =>
    obtain ⟨k, q, hk, rfl, hlow, rfl⟩ := hrel
    by_cases hless : ∃ y, L[k]? = some y ∧ kOf y < kOf ⟨xk, xv⟩
    · obtain ⟨y, hy, hlss⟩ := hless
      have h1 : k < n := by have := (List.getElem?_eq_some_iff.1 hy).1; have := HO.out.2.2.2.2.2.2; omega
      have h3 : decide ((k : Int) < (n : Int)) = true := by simp; omega
      have q1 := pvs_at hy 0 (by omega)
      rw [Nat.add_zero] at q1
      obtain ⟨g, rfl, k1, _⟩ := row_cell2 HO.out.1 HXL.out (q1.trans rfl)
      have hbl : Op.bytesLess y.key.toList xk.toList = true := by rw [bytesLess_eq]; simpa [kOf] using hlss
      have HX := Lib.hid (And.intro hy hlss)
      clear hy hlss q1
      go_wp2_with fail
      go_quiet (fail)
      go_wp2_with fail
      refine ⟨⟨k + 1, _, by omega, by simp, Lib.hid (fun j hj z hz => ?_), rfl⟩, by simp [RowKit.intOf]; omega⟩
      by_cases hjk : j < k
      · exact hlow.out j hjk z hz
      · obtain rfl : j = k := by omega
        rw [HX.out.1] at hz
        cases hz
        exact HX.out.2
    · by_cases heq : ∃ y, L[k]? = some y ∧ kOf y = kOf ⟨xk, xv⟩
      · obtain ⟨y, hy, he⟩ := heq
        have h1 : k < n := by have := (List.getElem?_eq_some_iff.1 hy).1; have := HO.out.2.2.2.2.2.2; omega
        have h3 : decide ((k : Int) < (n : Int)) = true := by simp; omega
        have h4 : (k : Int) < (n : Int) := by omega
        have q1 := pvs_at hy 0 (by omega)
        rw [Nat.add_zero] at q1
        have q2 := pvs_at hy 1 (by omega)
        obtain ⟨g, rfl, k1, f1, hbg, hgl⟩ := row_cell2 HO.out.1 HXL.out (q1.trans rfl)
        obtain ⟨_, e, k2, f2, _, _⟩ := row_cell2 HO.out.1 HXL.out (q2.trans rfl)
        cases e
        obtain ⟨yk, yv⟩ := y
        have he2 : yk.toList = xk.toList := he
        obtain rfl := text_inj' he2
        have hbl : Op.bytesLess yk.toList yk.toList = false := by rw [bytesLess_eq]; simp [List.lt_irrefl]
        have HX := Lib.hid (And.intro hy (And.intro hbg (put_here hlow.out hy he)))
        have hgb : g ≠ w.heap.size := by have := HO.out.2.2.2.1 g rfl; omega
        clear hy he he2 q1 q2 hless hbg
        go_wp2_with fail
        go_quiet (fail)
        go_wp2_with fail
        go_quiet (fail)
        go_wp2_with fail
        go_ret
        have hkl : k < L.length := (List.getElem?_eq_some_iff.1 HX.out.1).1
        refine ⟨some ⟨g, 0, none⟩, n, c, rfl, ?_, ?_, below_set (below_set (below_drewN HO.out.2.1 _) HX.out.2.1 _ _) HX.out.2.1 _ _⟩
        · rw [HX.out.2.2, List.length_set]; exact HO.out.2.2.2.2.2.2
        · rw [HX.out.2.2, pvs_set _ hkl]
          exact own_set (own_set (own_drewN HO.out.1 _) _ _) _ _
      · have HINS : Hid (putP ⟨xk, xv⟩ L = L.take k ++ ⟨xk, xv⟩ :: L.drop k) := Lib.hid (put_at (by have := HO.out.2.2.2.2.2.2; omega) hlow.out fun y hy => ⟨fun h => hless ⟨y, hy, h⟩, fun h => heq ⟨y, hy, h⟩⟩)
        have FL : Hid (n + 1 ≤ 1000000) := Lib.hid (by omega)
        by_cases h1 : k < n
        case' pos =>
          have h3 : decide ((k : Int) < (n : Int)) = true := by simp; omega
          obtain ⟨y, hy⟩ : ∃ y, L[k]? = some y := ⟨_, List.getElem?_eq_getElem (by have := HO.out.2.2.2.2.2.2; omega)⟩
          have q1 := pvs_at hy 0 (by omega)
          rw [Nat.add_zero] at q1
          obtain ⟨g, rfl, k1, _⟩ := row_cell2 HO.out.1 HXL.out (q1.trans rfl)
          have hbl : Op.bytesLess y.key.toList xk.toList = false := by rw [bytesLess_eq]; simpa [kOf] using fun h => hless ⟨y, hy, h⟩
          have hbe2 : ¬ y.key.toList = xk.toList := fun h => heq ⟨y, hy, h⟩
          have hbe : (y.key.toList == xk.toList) = false := by simpa using hbe2
          clear hy q1 hless heq
          go_wp2_with fail
          go_quiet (fail)
          go_wp2_with fail
          go_quiet (fail)
          clear k1 hbl hbe hbe2 h3 h1
        case' neg =>
          have h3 : decide ((k : Int) < (n : Int)) = false := by simp; omega
          clear hless heq
          go_wp2_with fail
          go_quiet (fail)
          go_wp2_with fail
          go_quiet (fail)
          clear h3 h1
        all_goals
          go_wp2_with (at_builtin; refine wpList_append_gen elemPair rfl (.tmp 42) (.tmp 44) rfl base _ n (pvs L) rfl (own_alloc (own_drewN HO.out.1 _) _) _ 1 (pv blankP) rfl (Cells.lit _ (pv blankP) 90 (0, 0) 2 1 rfl) (by intro u hu; simp only [pv, List.mem_cons, List.not_mem_nil, or_false] at hu; rcases hu with rfl | rfl <;> rfl) (n + 1) rfl FL (by decide) (by have := HO.out.2.1.size; have := HO.out.2.2.1; have := HO.out.2.2.2.2.2.1; simp; omega) ?_; intro ao6 c6 w6 hown6 hb6 hg6 ho6; have HPG := Lib.hid (And.intro (put_grown (bx := w.heap.size) HO.out.1 (by simp) (fun k hk => by simpa using Below.heap_alloc (w1.drewN _) _ k hk) (by have := HO.out.2.2.1; omega) HO.out.2.2.2.1 hown6 hg6 (by rcases ho6 with h | h; exact .inl h; exact .inr (by simpa using h))) (And.intro hown6 (((HO.out.2.1.trans (below_drewN (Below.refl _ _) _)).alloc (by have := HO.out.2.1.size; have := HO.out.2.2.1; have := HO.out.2.2.2.2.2.1; simp; omega) _).trans hb6))); clear hown6 hb6 hg6 ho6)
          obtain ⟨⟨g6, rfl, hbg, hgb, hbx6⟩, hown6, hb6⟩ := HPG.out
          rw [HO.out.2.2.2.2.1] at hbx6
          have HI : Hid (w6.ownsRow base 90 2 (.slice (some ⟨g6, 0, none⟩) (n + 1) c6) (n + 1) (pvs (movedP blankP L n)) ∧ w6.heap[w.heap.size]? = some (.cells #[.string xk, .string xv] 90 (0, 0)) ∧ Below base w w6) := Lib.hid ⟨by
            have e : movedP blankP L n = L ++ [blankP] := by have := HO.out.2.2.2.2.2.2; subst this; exact movedP_start L
            rw [e]
            have e2 : pvs (L ++ [blankP]) = pvs L ++ pv blankP := by simp [pvs]
            rw [e2]
            exact hown6, hbx6, hb6⟩
          have HG := Lib.hid (And.intro hbg hgb)
          clear HPG hbg hgb hbx6 hown6 hb6 b0 b1
          have u0 : IntKind.i64.wrap (((n + 1 : Nat) : Int) - 1) = (n : Int) := by rw [IntKind.wrap_i64]; omega
          have u0' : IntKind.i64.wrap ((n : Int) + 1 - 1) = (n : Int) := by rw [IntKind.wrap_i64]; omega
          have u0'' : IntKind.i64.wrap (n : Int) = (n : Int) := by rw [IntKind.wrap_i64]; omega
          go_wp2_with fail
          go_loopw [6] (fun i wr => ∃ p : Nat, k ≤ p ∧ p ≤ n ∧ i = .int .i64 p ∧ Hid (wr.ownsRow base 90 2 (.slice (some ⟨g6, 0, none⟩) (n + 1) c6) (n + 1) (pvs (movedP blankP L p)) ∧ wr.heap[w.heap.size]? = some (.cells #[.string xk, .string xv] 90 (0, 0)) ∧ Below base w wr))
            (fun i _ => (RowKit.intOf i).toNat)
          case atStart => exact ⟨n, hk, Nat.le_refl _, by simp, HI⟩
          case round =>
            obtain ⟨p, hkp, hpn, rfl, hrel⟩ := hrel
            clear HI u0 u0' u0''
            have hnL := HO.out.2.2.2.2.2.2
            have hml : (movedP blankP L p).length = n + 1 := by rw [movedP_length L (by omega), hnL]
            have hzl : (pvs (movedP blankP L p)).length = (n + 1) * 2 := by rw [pvs_length, hml]
            by_cases hlt : k < p
            · obtain ⟨p, rfl⟩ : ∃ p', p = p' + 1 := ⟨p - 1, by omega⟩
              have h3 : (k : Int) < ((p + 1 : Nat) : Int) := by omega
              have h3' : (k : Int) < (p : Int) + 1 := by omega
              obtain ⟨y, hy⟩ : ∃ y, L[p]? = some y := ⟨_, List.getElem?_eq_getElem (by omega)⟩
              obtain ⟨z, hz⟩ : ∃ z, (movedP blankP L (p + 1))[p + 1]? = some z := ⟨_, List.getElem?_eq_getElem (by omega)⟩
              have hyb : (movedP blankP L (p + 1))[p]? = some y := by rw [movedP_below (by omega) (by omega)]; exact hy
              have q1 := pvs_at hyb 0 (by omega)
              have q2 := pvs_at hyb 1 (by omega)
              have z1 := pvs_at hz 0 (by omega)
              have z2 := pvs_at hz 1 (by omega)
              rw [Nat.add_zero (p * 2)] at q1
              rw [Nat.add_zero ((p + 1) * 2)] at z1
              obtain ⟨_, e, k1, _⟩ := row_cell2 hrel.out.1 hzl (q1.trans rfl)
              cases e
              obtain ⟨_, e, k2, _⟩ := row_cell2 hrel.out.1 hzl (q2.trans rfl)
              cases e
              obtain ⟨_, e, m1, f1, _⟩ := row_cell2 hrel.out.1 hzl (z1.trans rfl)
              cases e
              obtain ⟨_, e, m2, f2, _⟩ := row_cell2 hrel.out.1 hzl (z2.trans rfl)
              cases e
              have u1 : IntKind.i64.wrap ((p : Int) + 1 - 1) = (p : Int) := by rw [IntKind.wrap_i64]; omega
              have u2 : IntKind.i64.wrap (p : Int) = (p : Int) := by rw [IntKind.wrap_i64]; omega
              have u3 : (0 : Int) ≤ (p : Int) + 1 := by omega
              have u4 : ((p : Int) + 1).toNat = p + 1 := by omega
              have u5 : (p : Int) + 1 < (n : Int) + 1 := by omega
              have u6 : (p : Int) < (n : Int) + 1 := by omega
              have u7 : p < n + 1 := by omega
              have u8 : p + 1 < n + 1 := by omega
              have HX := Lib.hid (And.intro hy hml)
              clear hy hyb q1 q2 z1 z2 hz hzl hml hnL
              go_wp2_with fail
              have hnL := HO.out.2.2.2.2.2.2
              refine ⟨⟨p, by omega, by omega, by first | rfl | simp, Lib.hid ⟨?_, ?_, below_set (below_set hrel.out.2.2 HG.out.1 _ _) HG.out.1 _ _⟩⟩, by simp [RowKit.intOf]⟩
              · have e := movedP_step (b := blankP) (show p + 1 ≤ L.length by omega) HX.out.1
                rw [← e, pvs_set _ (by rw [HX.out.2]; omega)]
                exact own_set (own_set hrel.out.1 _ _) _ _
              · rw [Below.heap_setCell _ _ _ _ (fun e => HG.out.2 e.symm), Below.heap_setCell _ _ _ _ (fun e => HG.out.2 e.symm)]
                exact hrel.out.2.1
            · obtain rfl : p = k := by omega
              have h3 : ¬ (p : Int) < (p : Int) := by omega
              have u6 : (p : Int) < (n : Int) + 1 := by omega
              have u7 : p < n + 1 := by omega
              have b0 := cells_of6 hrel.out.2.1 0 (.string xk) rfl
              have b1 := cells_of6 hrel.out.2.1 1 (.string xv) rfl
              obtain ⟨z, hz⟩ : ∃ z, (movedP blankP L p)[p]? = some z := ⟨_, List.getElem?_eq_getElem (by omega)⟩
              have z1 := pvs_at hz 0 (by omega)
              have z2 := pvs_at hz 1 (by omega)
              rw [Nat.add_zero (p * 2)] at z1
              obtain ⟨_, e, m1, f1, _⟩ := row_cell2 hrel.out.1 hzl (z1.trans rfl)
              cases e
              obtain ⟨_, e, m2, f2, _⟩ := row_cell2 hrel.out.1 hzl (z2.trans rfl)
              cases e
              have HX := Lib.hid (And.intro hml hnL)
              clear z1 z2 hz hzl hml hnL
              go_wp2_with fail
              go_ret
              have e := movedP_end (b := blankP) ⟨xk, xv⟩ (show p ≤ L.length by rw [← HX.out.2]; omega)
              refine ⟨some ⟨g6, 0, none⟩, n + 1, c6, rfl, ?_, ?_, below_set (below_set hrel.out.2.2 HG.out.1 _ _) HG.out.1 _ _⟩
              · rw [HINS.out, ← e, List.length_set, HX.out.1]
              · rw [HINS.out, ← e, pvs_set _ (by rw [HX.out.1]; omega)]
                exact own_set (own_set hrel.out.1 _ _) _ _
end Go.Proofs.YthcdkggkoanjpaaGreatDoor
