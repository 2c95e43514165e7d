/- The code's bounds. Numbers and types by name. -/
import Derived.Test.YtlgfijjkbomejaaDoorLla
import Derived.Test.YtlgfijjkbomejaaDoorLcx
/- The code's turned. Numbers and types by name. -/
namespace Go.Proofs.YtlgfijjkbomejaaDoor
open Go.RowKit Go.Lib
set_option maxRecDepth 100000

set_option maxHeartbeats 8000000 in
theorem code_turned (v : Value) (n : Nat) (f : Nat → Nat → Bool) (w : World) (h : TabV w v n n (bB f)) (hn : n ≤ 1000) :
    Calls Tryd.prog 16 #[v] w (TabTold w n n (bB (flipB f))) := by
  obtain ⟨ao, cp, rfl⟩ := h.shape
  have H := Lib.hid h
  have FN : Hid (n ≤ 1000000) := Lib.hid (by omega)
  clear h
  go_enter Tryd.func16, Tryd.ntmps16
  go_wp2_with (refine wpList_make_gen elemBools rfl rfl (.tmp 7) (.tmp 7) rfl w.heap.size n n n rfl rfl rfl rfl FN (by decide) (Nat.le_refl _) ?_; intro w1 hown1 hb1 hg1 hs1)
  obtain ⟨O, hO⟩ : ∃ O, w.heap.size = O := ⟨_, rfl⟩
  have HI : Hid (TabO w1 O 38 4 (.slice (some ⟨O, 0, none⟩) n n) n (List.replicate n (.slice none 0 0)) (partR n 0 0 (bB (flipB f))) ∧ Grow w w1) := Lib.hid (by
    rw [← partR_start, ← hO]
    exact ⟨TabO.blank hown1, below_none hg1 (Nat.le_refl _)⟩)
  rw [hO]
  have HR := Lib.hid hO
  clear hown1 hb1 hg1 hs1 hO
  go_loopw [11] (fun i wr => ∃ (b : Nat) (vs : List Value), b ≤ n ∧ i = .int .i64 b ∧ Hid (TabO wr O 38 4 (.slice (some ⟨O, 0, none⟩) n n) n vs (partR n b 0 (bB (flipB f))) ∧ Grow w wr))
    (fun i _ => n - (RowKit.intOf i).toNat)
  case atStart => exact ⟨0, _, Nat.zero_le _, rfl, HI⟩
  case round =>
    clear HI
    obtain ⟨b, vs, hb, rfl, hs⟩ := hrel
    by_cases h1 : b < n
    · have h3 : (b : Int) < (n : Int) := by omega
      go_wp2_with fail
      go_loopw [16] (fun i wr => ∃ (a : Nat) (vs : List Value), a ≤ n ∧ i = .int .i64 a ∧ Hid (TabO wr O 38 4 (.slice (some ⟨O, 0, none⟩) n n) n vs (partR n b a (bB (flipB f))) ∧ Grow w wr))
        (fun i _ => n - (RowKit.intOf i).toNat)
      case atStart => exact ⟨0, vs, Nat.zero_le _, rfl, hs⟩
      case round =>
        clear hs
        obtain ⟨a, vs, ha, rfl, hs⟩ := hrel
        by_cases h4 : a < n
        · have h5 : (a : Int) < (n : Int) := by omega
          have FA : Hid (a + 1 ≤ 1000000) := Lib.hid (by omega)
          have HT0 : Hid (TabO wr.drew O 38 4 (.slice (some ⟨O, 0, none⟩) n n) n vs (partR n b a (bB (flipB f))) ∧ Grow w wr.drew) := Lib.hid ⟨hs.out.1.later (below_drewN (Grow.refl wr) 1), below_drewN hs.out.2 1⟩
          clear hs
          go_upto_region 8 with fail
          obtain ⟨hT, hG⟩ := HT0.out
          obtain ⟨vb, hvb⟩ : ∃ vb, vs[b]? = some vb := ⟨_, List.getElem?_eq_getElem (by rw [hT.vlen]; exact h1)⟩
          have hrow := hT.row b vb _ hvb (partR_here h1)
          rw [show ((List.range a).map (bB (flipB f) b)).length = a by simp] at hrow
          obtain ⟨c1, fz1⟩ := own_cell hT.outer hvb
          obtain ⟨bo, bd, rfl⟩ := owns_shape hrow
          obtain ⟨a1, b1, d1, rfl, e1, e2⟩ := (H.out.later hG).at h4 h1
          unfold bB at e2
          have hgA : Grow wr.drew (wr.drew.alloc (.cells #[.bool (f a b)] 4)) := (Below.refl _ _).alloc (Nat.le_refl _) _
          have e3 := (H.out.later (hG.trans hgA))
          obtain ⟨_, b1', d1', e, e1A, e2A⟩ := e3.at h4 h1
          cases e
          have hTA := hT.later hgA
          obtain ⟨c1A, fz1A⟩ := own_cell hTA.outer hvb
          rw [(World.cell?_of_block (hgA.block _ (World.block_lt_of_cell? _ _ e1))).trans e1] at e1A
          cases e1A
          have HC : Hid (Cells (wr.drew.alloc (.cells #[.bool (f a b)] 4)) (.slice (some ⟨wr.drew.heap.size, 0, none⟩) 1 1) 1 1 [.bool (f a b)]) := Lib.hid (Cells.lit _ [.bool (f a b)] 4 (0, 0) 1 1 rfl)
          have HT := Lib.hid (And.intro hTA (And.intro hvb (And.intro (partR_here (a := a) (g := bB (flipB f)) h1) (And.intro hG hgA))))
          have HRow := Lib.hid (own_later hrow hgA)
          have HBse : Hid (O ≤ (wr.drew.alloc (.cells #[.bool (f a b)] 4)).heap.size) := Lib.hid (by have h9 : w.heap.size ≤ wr.heap.size := hG.size; have := HR.out; simp; omega)
          have u1 : b < n := h1
          have c1B : (wr.alloc (.cells #[.bool (f a b)] 4)).cell? ⟨O, b, none⟩ = some (.slice bo a bd) := c1A
          have fz1B : (wr.alloc (.cells #[.bool (f a b)] 4)).frozen? ⟨O, b, none⟩ = false := fz1A
          clear hT hG hvb hrow hgA e3 hTA e2A
          go_region_law (refine step_append_gen elemBool rfl (.tmp 24) (.tmp 32) rfl O _ a _ (by simp [Act.eval]) HRow.out _ 1 [.bool (f a b)] (by simp [Act.eval]) HC.out (by intro u hu; simp at hu; subst hu; rfl) (a + 1) rfl FA (by decide) HBse.out ?_; intro ao8 c8 w8 hown8 hb8 hg8 ho8; obtain ⟨c18, f18⟩ := TabO.seen (by decide) HT.out.1 HT.out.2.1 HT.out.2.2.1 hg8; have HN := Lib.hid (And.intro (TabO.put (by decide) HT.out.1 HT.out.2.1 HT.out.2.2.1 (x8 := (List.range a).map (bB (flipB f) b) ++ [.bool (f a b)]) (by simpa using hown8) hg8 ho8) hb8); clear hown8 hb8 hg8 ho8)
          all_goals
            go_wp2_with fail
            refine ⟨⟨a + 1, vs.set b (.slice ao8 (a + 1) c8), by omega, by go_num, Lib.hid ⟨?_, ?_⟩⟩, by simp [RowKit.intOf]; omega⟩
            · have := HN.out.1
              rw [show Value.bool (f a b) = bB (flipB f) b a from rfl, partR_set h1] at this
              exact this
            · have e1 : Below O w wr.drew := HR.out ▸ HT.out.2.2.2.1
              have e2 : O ≤ wr.drew.heap.size := HR.out ▸ e1.size
              show Below w.heap.size w _
              rw [HR.out]
              exact below_set ((e1.alloc e2 _).trans HN.out.2) (Nat.le_refl O) _ _
        · have h5 : ¬ (a : Int) < (n : Int) := by omega
          obtain rfl : a = n := by omega
          go_wp2_with fail
          refine ⟨⟨b + 1, vs, by omega, by go_num, Lib.hid ⟨?_, hs.out.2⟩⟩, by simp [RowKit.intOf]; omega⟩
          rw [← partR_next]
          exact hs.out.1
    · have h3 : ¬ (b : Int) < (n : Int) := by omega
      obtain rfl : b = n := by omega
      go_wp2_with fail
      go_ret
      have h9 := hs.out.1
      rw [partR_end] at h9
      exact ⟨some ⟨O, 0, none⟩, b, rfl, h9.tabL.mono (Nat.le_of_eq HR.out), hs.out.2⟩

end Go.Proofs.YtlgfijjkbomejaaDoor

namespace Go.Proofs.YtlgfijjkbomejaaDoor
open Go.RowKit Go.Lib
set_option maxRecDepth 100000

/-- A new box of one cell. -/
theorem box_new (w : World) (y : Value) (t : TypeId) : Grow w (w.alloc (.cells #[y] t)) ∧ (w.alloc (.cells #[y] t)).heap[w.heap.size]? = some (.cells #[y] t (0, 0)) :=
  ⟨(Below.refl _ w).alloc (Nat.le_refl _) _, heap_alloc_new _ _⟩
theorem grow_cell {w w' : World} (h : Grow w w') {a : Addr} {u : Value} (hc : w.cell? a = some u) : w'.cell? a = some u := (World.cell?_of_block (h.block _ (World.block_lt_of_cell? w _ hc))).trans hc
theorem partR_len (n b a : Nat) (g : Nat → Nat → Value) : (partR n b a g).length = n := by simp [partR]

set_option maxHeartbeats 16000000 in
theorem code_bounds (v : Value) (n : Nat) (f : Nat → Nat → Bool) (w : World) (h : TabV w v n n (bB f)) (hn : n ≤ 1000) :
    Calls Tryd.prog 17 #[v] w (JoinsTold w n f) := by
  obtain ⟨ao, cp, rfl⟩ := h.shape
  obtain ⟨P1, hP1⟩ : ∃ P1, w.heap.size = P1 := ⟨_, rfl⟩
  obtain ⟨O, hO⟩ : ∃ O, P1 + 1 = O := ⟨_, rfl⟩
  obtain ⟨w0, hw0⟩ : ∃ w0, w.alloc (.cells #[.slice ao n cp] 28) = w0 := ⟨_, rfl⟩
  have hg0 : Grow w w0 := by rw [← hw0]; exact (Below.refl _ _).alloc (Nat.le_refl _) _
  have hs0 : w0.heap.size = O := by rw [← hw0, ← hO, ← hP1]; simp
  have hp0 : w0.heap[P1]? = some (.cells #[.slice ao n cp] 28 (0, 0)) := by rw [← hw0, ← hP1]; exact heap_alloc_new _ _
  have p0 : w0.cell? ⟨P1, 0, none⟩ = some (.slice ao n cp) := cellsN hp0 0 _ rfl
  have H := Lib.hid (And.intro (h.later hg0) (And.intro hg0 (And.intro hs0 p0)))
  have HPO : Hid (P1 + 1 = O ∧ w.heap.size = P1) := Lib.hid ⟨hO, hP1⟩
  have FN : Hid (n ≤ 1000000) := Lib.hid (by omega)
  clear h hg0 hp0
  go_enter Tryd.func17, Tryd.ntmps17
  go_wp2_with (refine wpList_make_gen elemInt2 rfl rfl (.tmp 9) (.tmp 9) rfl O n n n rfl rfl rfl rfl FN (by decide) (Nat.le_of_eq H.out.2.2.1.symm) ?_; intro w1 hown1 hb1 hg1 hs1; have p1 := grow_cell (below_none hg1 (Nat.le_refl _)) H.out.2.2.2)
  clear hw0
  have HI : Hid (TabO w1 O 37 3 (.slice (some ⟨O, 0, none⟩) n n) n (List.replicate n (.slice none 0 0)) (partR n 0 0 (bI (joinI n f))) ∧ Grow w0 w1) := Lib.hid (by
    rw [← partR_start]
    rw [hs0] at hown1
    exact ⟨TabO.blank hown1, below_none hg1 (Nat.le_refl _)⟩)
  try rw [hs0]
  clear hown1 hb1 hg1 hs1 hs0 p0 hO hP1
  go_loopw [13] (fun i wr => ∃ (k : Nat) (vs : List Value), k ≤ n ∧ i = .int .i64 k ∧ Hid (TabO wr O 37 3 (.slice (some ⟨O, 0, none⟩) n n) n vs (partR n k 0 (bI (joinI n f))) ∧ Grow w0 wr ∧ ∀ x y, x < k → y < n → ∃ j, joinP n f x y = some j))
    (fun i _ => n - (RowKit.intOf i).toNat)
  case atStart => exact ⟨0, _, Nat.zero_le _, rfl, Lib.hid ⟨HI.out.1, HI.out.2, fun x y hx => by omega⟩⟩
  case round =>
    clear HI p1
    obtain ⟨k, vs, hk, rfl, hs⟩ := hrel
    have p1 := grow_cell hs.out.2.1 H.out.2.2.2
    by_cases h1 : k < n
    · have h3 : (k : Int) < (n : Int) := by omega
      obtain ⟨PA, hPA⟩ : ∃ PA, wr.heap.size = PA := ⟨_, rfl⟩
      obtain ⟨W, hW⟩ : ∃ W, wr.alloc (.cells #[.int .i64 (k : Int)] 3) = W := ⟨_, rfl⟩
      have hbx := box_new wr (.int .i64 (k : Int)) 3
      rw [hW] at hbx
      have pa : W.cell? ⟨PA, 0, none⟩ = some (.int .i64 (k : Int)) := by rw [← hPA]; exact cellsN hbx.2 0 _ rfl
      have pw := grow_cell hbx.1 p1
      have HI : Hid (TabO W O 37 3 (.slice (some ⟨O, 0, none⟩) n n) n vs (partR n k 0 (bI (joinI n f))) ∧ Grow w0 W ∧ W.cell? ⟨PA, 0, none⟩ = some (.int .i64 (k : Int)) ∧ (∀ vi c, vs[k]? = some vi → vi.ownBlock = some c → c ≠ PA) ∧ PA < W.heap.size) := Lib.hid ⟨hs.out.1.later hbx.1, Grow.trans hs.out.2.1 hbx.1, pa, fun vi c h5 h6 => by have := (hs.out.1.lt h5 h6).2; omega, World.block_lt_of_cell? W _ pa⟩
      have HJ := Lib.hid hs.out.2.2
      have HPW : Hid (O < PA) := Lib.hid (by
        have := hs.out.1.outer.lt O rfl
        omega)
      clear hs hbx pa
      go_wp2_with fail
      clear hW hPA pw p1
      go_loopw [18] (fun i wr => ∃ (a : Nat) (vs : List Value), a ≤ n ∧ i = .int .i64 a ∧ Hid (TabO wr O 37 3 (.slice (some ⟨O, 0, none⟩) n n) n vs (partR n k a (bI (joinI n f))) ∧ Grow w0 wr ∧ wr.cell? ⟨PA, 0, none⟩ = some (.int .i64 (k : Int)) ∧ (∀ vi c, vs[k]? = some vi → vi.ownBlock = some c → c ≠ PA) ∧ PA < wr.heap.size ∧ ∀ y, y < a → ∃ j, joinP n f k y = some j))
        (fun i _ => n - (RowKit.intOf i).toNat)
      case atStart => exact ⟨0, vs, Nat.zero_le _, rfl, Lib.hid ⟨HI.out.1, HI.out.2.1, HI.out.2.2.1, HI.out.2.2.2.1, HI.out.2.2.2.2, fun y hy => by omega⟩⟩
      case round =>
        clear HI
        obtain ⟨a, vs, ha, rfl, hs⟩ := hrel
        by_cases h4 : a < n
        · have h5 : (a : Int) < (n : Int) := by omega
          have FA : Hid (a + 1 ≤ 1000000) := Lib.hid (by omega)
          obtain ⟨PB, hPB⟩ : ∃ PB, wr.heap.size = PB := ⟨_, rfl⟩
          obtain ⟨W, hW⟩ : ∃ W, wr.alloc (.cells #[.int .i64 (a : Int)] 3) = W := ⟨_, rfl⟩
          have hbx := box_new wr (.int .i64 (a : Int)) 3
          rw [hW] at hbx
          have pb : W.cell? ⟨PB, 0, none⟩ = some (.int .i64 (a : Int)) := by rw [← hPB]; exact cellsN hbx.2 0 _ rfl
          have hgW : Grow w0 W := Grow.trans hs.out.2.1 hbx.1
          have pw := grow_cell hgW H.out.2.2.2
          have pa := grow_cell hbx.1 hs.out.2.2.1
          have HX := Lib.hid (And.intro (hs.out.1.later hbx.1) (And.intro hgW (And.intro hs.out.2.2.2.1 (And.intro (show PA < W.heap.size from World.block_lt_of_cell? W _ pa) hs.out.2.2.2.2.2))))
          have HC := Lib.hid (code_least_two (.slice ao n cp) n f ⟨P1, 0, none⟩ ⟨PA, 0, none⟩ ⟨PB, 0, none⟩ k a W (H.out.1.later hgW) hn pw pa pb h1 h4)
          obtain ⟨J, hJ⟩ : ∃ J, lstI n f (fun x => f k x && f a x) = J := ⟨_, rfl⟩
          rw [hJ] at HC
          have HJ2 : Hid ((J < 0 ∧ joinP n f k a = none) ∨ (∃ i : Nat, J = i ∧ joinP n f k a = some i)) := Lib.hid (by
            cases hjp : joinP n f k a with
            | none => exact .inl ⟨by rw [← hJ, lstI_none hjp]; decide, rfl⟩
            | some i => exact .inr ⟨i, by rw [← hJ, lstI_some hjp], rfl⟩)
          clear hJ hs hbx pb hgW
          rcases HJ2.out with ⟨hlt, hno⟩ | ⟨i, rfl, hyes⟩
          · have HN := Lib.hid hno
            clear hno
            go_wp2_with (go_at_call 20; refine HC.out.mono ?_; rintro e w' ⟨rfl, q, rfl⟩)
            go_ret2
            refine ⟨below_drewN (Grow.trans H.out.2.1 HX.out.2.1) _, .inl ⟨joins_false h1 h4 HN.out, rfl⟩⟩
          · have HJN := Lib.hid hyes
            have hge : ¬ (i : Int) < 0 := by omega
            clear hyes
            go_upto_region 11 with (go_at_call 20; refine HC.out.mono ?_; rintro e w' ⟨rfl, q, rfl⟩)
            have HZ : Hid (TabO (W.drewN q) O 37 3 (.slice (some ⟨O, 0, none⟩) n n) n vs (partR n k a (bI (joinI n f))) ∧ Grow w0 (W.drewN q) ∧ PA < (W.drewN q).heap.size ∧ (W.drewN q).cell? ⟨PA, 0, none⟩ = some (.int .i64 (k : Int)) ∧ (W.drewN q).cell? ⟨P1, 0, none⟩ = some (.slice ao n cp)) := Lib.hid ⟨HX.out.1.later (below_drewN (Grow.refl W) q), below_drewN HX.out.2.1 q, HX.out.2.2.2.1, pa, pw⟩
            have HY := Lib.hid (And.intro HX.out.2.2.1 HX.out.2.2.2.2)
            clear HX HC pa pw hW
            generalize W.drewN q = Z at *
            obtain ⟨hT, hG, hPAl, pa, p1⟩ := HZ.out
            obtain ⟨vb, hvb⟩ : ∃ vb, vs[k]? = some vb := ⟨_, List.getElem?_eq_getElem (by rw [hT.vlen]; exact h1)⟩
            have hrow := hT.row k vb _ hvb (partR_here h1)
            rw [show ((List.range a).map (bI (joinI n f) k)).length = a by simp] at hrow
            have c1 := (own_cell hT.outer hvb).1
            have hbk := HY.out.1 vb
            obtain ⟨bo, bd, rfl⟩ := owns_shape hrow
            have pad : Z.drew.cell? ⟨PA, 0, none⟩ = some (.int .i64 (k : Int)) := pa
            have c1d : Z.drew.cell? ⟨O, k, none⟩ = some (.slice bo a bd) := c1
            obtain ⟨ZA, hZA⟩ : ∃ ZA, Z.alloc (.cells #[.int .i64 (i : Int)] 3) = ZA := ⟨_, rfl⟩
            have hgA : Grow Z ZA := by rw [← hZA]; exact (Below.refl _ _).alloc (Nat.le_refl _) _
            have paA := grow_cell hgA pa
            have c1A := grow_cell hgA c1
            rw [← hZA] at paA c1A
            have HC : Hid (Cells (Z.drew.alloc (.cells #[.int .i64 (i : Int)] 3)) (.slice (some ⟨Z.drew.heap.size, 0, none⟩) 1 1) 1 1 [.int .i64 (i : Int)]) := Lib.hid (Cells.lit _ [.int .i64 (i : Int)] 3 (0, 0) 1 1 rfl)
            have HT : Hid (TabO (Z.drew.alloc (.cells #[.int .i64 (i : Int)] 3)) O 37 3 (.slice (some ⟨O, 0, none⟩) n n) n vs (partR n k a (bI (joinI n f))) ∧ vs[k]? = some (.slice bo a bd) ∧ (partR n k a (bI (joinI n f)))[k]? = some ((List.range a).map (bI (joinI n f) k)) ∧ Grow w0 Z ∧ (∀ c, (Value.slice bo a bd).ownBlock = some c → c ≠ PA)) := Lib.hid ⟨hT.later ((below_drewN (Grow.refl Z) 1).alloc (Nat.le_refl _) _), hvb, partR_here h1, hG, fun c hc => hbk c hvb hc⟩
            have HRow := Lib.hid (own_later hrow ((below_drewN (Grow.refl Z) 1).alloc (Nat.le_refl _) (.cells #[.int .i64 (i : Int)] 3)))
            have HBse : Hid (O ≤ (Z.drew.alloc (.cells #[.int .i64 (i : Int)] 3)).heap.size ∧ O ≤ Z.heap.size) := Lib.hid (by
              have h9 := hT.outer.lt O rfl
              have h10 : (Z.drew.alloc (.cells #[.int .i64 (i : Int)] 3)).heap.size = Z.heap.size + 1 := by simp
              omega)
            have HPA := Lib.hid hPAl
            have hKn : k < n := h1
            clear hT hG hvb hrow hgA hbk hZA hPAl HZ pa c1 p1
            go_region_law (refine step_append_gen elemInt1 rfl (.tmp 31) (.tmp 33) rfl O _ a _ (by simp [Act.eval]) HRow.out _ 1 [.int .i64 (i : Int)] (by simp [Act.eval]) HC.out (by intro u hu; simp at hu; subst hu; rfl) (a + 1) rfl FA (by decide) HBse.out.1 ?_; intro ao8 c8 w8 hown8 hb8 hg8 ho8; obtain ⟨c18, f18⟩ := TabO.seen (by decide) HT.out.1 HT.out.2.1 HT.out.2.2.1 hg8; have pa8 : w8.cell? ⟨PA, 0, none⟩ = some (.int .i64 (k : Int)) := hg8.cell paA (fun e => HT.out.2.2.2.2 PA e.symm rfl); have HN := Lib.hid (And.intro (TabO.put (by decide) HT.out.1 HT.out.2.1 HT.out.2.2.1 (x8 := (List.range a).map (bI (joinI n f) k) ++ [.int .i64 (i : Int)]) (by simpa using hown8) hg8 ho8) (And.intro hb8 (And.intro hg8 (And.intro ho8 pa8)))); clear hown8 hb8 hg8 ho8)
            all_goals
              go_wp2_with fail
              refine ⟨⟨a + 1, vs.set k (.slice ao8 (a + 1) c8), by omega, by go_num, Lib.hid ⟨?_, ?_, ?_, ?_, ?_, ?_⟩⟩, by simp [RowKit.intOf]; omega⟩
              · have h9 := HN.out.1
                rw [show Value.int .i64 (i : Int) = bI (joinI n f) k a by unfold bI; rw [joinI_some HJN.out], partR_set h1] at h9
                exact h9
              · have e1 : Below O w0 Z := by
                  have := HT.out.2.2.2.1
                  unfold Grow at this
                  rw [H.out.2.2.1] at this
                  exact this
                show Below w0.heap.size w0 _
                rw [H.out.2.2.1]
                exact below_set (((below_drewN e1 1).alloc HBse.out.2 _).trans HN.out.2.1) (Nat.le_refl O) _ _
              · have hne : PA ≠ O := by have := HPW.out; omega
                exact ((Chg.refl [O] w8).set (.inl (by simp)) k _).cell HN.out.2.2.2.2 (by simpa using hne)
              · intro vi c h6 h7
                rw [List.getElem?_set_self (List.getElem?_eq_some_iff.1 HT.out.2.1).1] at h6
                cases h6
                rcases HN.out.2.2.2.1 with h8 | h8
                · exact HT.out.2.2.2.2 c (by rw [← h8]; exact h7)
                · rw [h8] at h7
                  have := HPA.out
                  simp at h7
                  omega
              · have := HN.out.2.2.1.size
                have := HPA.out
                simp [World.setCell] at *
                omega
              · intro y hy
                by_cases hya : y < a
                · exact HY.out.2 y hya
                · obtain rfl : y = a := by omega
                  exact ⟨i, HJN.out⟩
        · have h5 : ¬ (a : Int) < (n : Int) := by omega
          obtain rfl : a = n := by omega
          go_wp2_with fail
          refine ⟨⟨k + 1, vs, by omega, by go_num, Lib.hid ⟨?_, hs.out.2.1, ?_⟩⟩, by simp [RowKit.intOf]; omega⟩
          · rw [← partR_next]
            exact hs.out.1
          · intro x y hx hy
            by_cases hxk : x < k
            · exact HJ.out x y hxk hy
            · obtain rfl : x = k := by omega
              exact hs.out.2.2.2.2.2 y hy
    · have h3 : ¬ (k : Int) < (n : Int) := by omega
      obtain rfl : k = n := by omega
      go_wp2_with fail
      go_ret2
      have h9 := hs.out.1
      rw [partR_end] at h9
      exact ⟨Grow.trans H.out.2.1 hs.out.2.1, .inr ⟨joinsP_iff.2 fun a b ha hb => hs.out.2.2 a b ha hb, some ⟨O, 0, none⟩, k, rfl, h9.tabL.mono (by have := HPO.out; omega)⟩⟩

end Go.Proofs.YtlgfijjkbomejaaDoor
