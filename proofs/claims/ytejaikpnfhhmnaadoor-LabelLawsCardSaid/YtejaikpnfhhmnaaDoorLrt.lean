/- What the code's Right calls, where the answer is yes. Numbers and types by name. -/
import Derived.Test.YtejaikpnfhhmnaaDoorLrw
import Derived.Test.YtejaikpnfhhmnaaDoorLlc
import Derived.Lib.LazyBuf
import Derived.Deep.RegionHeld3
namespace Go.Proofs.YtejaikpnfhhmnaaDoor
open Go.RowKit Go.Lib
set_option maxRecDepth 100000

theorem rise_lt {L : List (List UInt8)} (h : RiseT L) {k : Nat} {x y : List UInt8} (hx : L[k]? = some x) (hy : L[k + 1]? = some y) : x < y := by
  obtain ⟨h1, h2⟩ := List.getElem?_eq_some_iff.1 hx
  obtain ⟨h3, h4⟩ := List.getElem?_eq_some_iff.1 hy
  have := List.pairwise_iff_getElem.1 h k (k + 1) h1 h3 (by omega)
  rwa [h2, h4] at this

set_option maxHeartbeats 1000000 in
theorem asc_yes (v : Value) (n : Nat) (L : List (List UInt8)) (w : World) (h : StrV w v n L) (hr : RiseT L) (hn : n ≤ 1000) :
    Calls Tryd.prog 36 #[v] w fun e w' => e = .returned (.bool true) ∧ Grow w w' := by
  obtain ⟨ao, c, rfl⟩ := h.shape
  have H := Lib.hid (And.intro h hr)
  clear h hr
  go_enter Tryd.func36, Tryd.ntmps36
  go_wp2_with fail
  go_loopw [3] (fun i wr => ∃ k : Nat, k ≤ n ∧ i = .int .i64 ((k : Int) + 1) ∧ Hid (Grow w wr)) (fun i _ => n - (RowKit.intOf i).toNat)
  case atStart => exact ⟨0, Nat.zero_le _, rfl, Lib.hid (Grow.refl w)⟩
  case round =>
    obtain ⟨k, hk, rfl, hG⟩ := hrel
    by_cases h1 : k + 1 < n
    · have h3 : (k : Int) + 1 < (n : Int) := by omega
      obtain ⟨a, x, rfl, ex, bx⟩ := (H.out.1.later hG.out).at (show k < n by omega)
      obtain ⟨_, y, e2, ey, bz⟩ := (H.out.1.later hG.out).at h1
      cases e2
      have hlt := rise_lt H.out.2 ex ey
      have by' : wr.cell? ⟨a.block, a.off + (k + 1), none⟩ = some (.string (tx y)) := by simpa [Addr.add] using bz
      have y1 := tx_list x
      have y2 := tx_list y
      have k0 : (0 : Int) ≤ (k : Int) := by omega
      have k1 : (k : Int) < (n : Int) := by omega
      have k2 : (0 : Int) ≤ (k : Int) + 1 := by omega
      have hqt : ((k : Int) + 1).toNat = k + 1 := by omega
      have hbl : Op.bytesLess x y = true := by rw [bytesLess_eq]; simpa using hlt
      clear ex ey
      go_wp2_with fail
      go_quiet (fail)
      go_wp2_with fail
      all_goals exact ⟨⟨k + 1, by omega, by go_num, Lib.hid (below_drewN hG.out _)⟩, by simp [RowKit.intOf]; omega⟩
    · have h3 : ¬ (k : Int) + 1 < (n : Int) := by omega
      go_wp2_with fail
      go_ret
      exact ⟨rfl, hG.out⟩

/-- What Clone tells: a row of its own. -/
def ClonTold (w : World) (n : Nat) (xs : List Value) (e : Ending) (w' : World) : Prop := ∃ a8 c8, e = .returned (.slice a8 n c8) ∧ w'.ownsRow w.heap.size 4 1 (.slice a8 n c8) n xs ∧ Grow w w'
set_option maxHeartbeats 1000000 in
theorem clone_bools (ao : Option Addr) (n c : Nat) (xs : List Value) (w : World) (h : Cells w (.slice ao n c) 1 n xs) (h1 : ∀ u ∈ xs, u.oneCell' = true) (h0 : 0 < n) (hn : n ≤ 1000) :
    Calls Tryd.prog 63 #[.slice ao n c] w (ClonTold w n xs) := by
  obtain ⟨a, rfl⟩ : ∃ a, ao = some a := by
    obtain ⟨ao', c', e, _, _, hz, _⟩ := h
    simp only [Value.slice.injEq] at e
    obtain ⟨rfl, _, rfl⟩ := e
    cases ao with
    | some a => exact ⟨a, rfl⟩
    | none => have := (hz rfl).1; omega
  have H := Lib.hid (And.intro h h1)
  have FK : Hid (n ≤ 1000000) := Lib.hid (by omega)
  clear h h1
  have q22 : ∀ (w : World) (a : Option Addr) (n c n' c' : Nat), (binOp .eql 47 (.slice a n c) (.slice none n' c')).run Tryd.prog w = .ok (.bool a.isNone) w := fun w a n c n' c' => Lib.run_eql_slice_nil w _ _ a n c n' c' Tryd.underlying47
  go_enter Tryd.func63, Tryd.ntmps63
  go_wp2_with (at_builtin; refine wpList_append_gen elemBool rfl (.tmp 5) (.tmp 6) rfl w.heap.size _ 0 [] rfl (own_empty w w.heap.size 4 1 w.heap.size rfl (Nat.le_refl _)) _ n xs rfl (H.out.1.later ((Below.refl _ w).alloc (Nat.le_refl _) _)) H.out.2 n (Nat.zero_add n).symm FK (by decide) (by simp) ?_; intro ao6 c6 w6 hown6 hb6 hg6 ho6; have HN : Hid (w6.ownsRow w.heap.size 4 1 (.slice ao6 n c6) n xs ∧ Grow w w6) := Lib.hid ⟨by simpa using hown6, Below.trans ((Below.refl _ w).alloc (Nat.le_refl _) _) hb6⟩; clear hown6 hb6 hg6 ho6)
  go_ret
  exact ⟨ao6, c6, rfl, HN.out⟩

set_option maxHeartbeats 1000000 in
theorem eq_bools (v1 v2 : Value) (n : Nat) (g : Nat → Bool) (w : World) (h1 : Cells w v1 1 n ((List.range n).map fun i => Value.bool (g i))) (h2 : Cells w v2 1 n ((List.range n).map fun i => Value.bool (g i))) (hn : n ≤ 1000) :
    Calls Tryd.prog 40 #[v1, v2] w fun e w' => e = .returned (.bool true) ∧ Grow w w' := by
  obtain ⟨a1, c1, rfl⟩ := h1.shape
  obtain ⟨a2, c2, rfl⟩ := h2.shape
  have H := Lib.hid (And.intro h1 h2)
  clear h1 h2
  go_enter Tryd.func40, Tryd.ntmps40
  go_wp2_with fail
  go_loopw [13] (fun i wr => ∃ k : Nat, k ≤ n ∧ i = .int .i64 k ∧ Hid (Grow w wr)) (fun i _ => n - (RowKit.intOf i).toNat)
  case atStart => exact ⟨0, Nat.zero_le _, rfl, Lib.hid (Grow.refl w)⟩
  case round =>
    obtain ⟨k, hk, rfl, hG⟩ := hrel
    by_cases h1 : k < n
    · have h3 : (k : Int) < (n : Int) := by omega
      obtain ⟨x1, rfl, b1⟩ := cells_at (H.out.1.later hG.out) h1
      obtain ⟨x2, rfl, b2⟩ := cells_at (H.out.2.later hG.out) h1
      go_wp2_with fail
      go_quiet (fail)
      go_wp2_with fail
      all_goals exact ⟨⟨k + 1, by omega, by go_num, Lib.hid (below_drewN hG.out _)⟩, by simp [RowKit.intOf]; omega⟩
    · have h3 : ¬ (k : Int) < (n : Int) := by omega
      go_wp2_with fail
      go_ret
      exact ⟨rfl, hG.out⟩
set_option maxHeartbeats 1000000 in
theorem eq_ints8 (v1 v2 : Value) (n : Nat) (g : Nat → Nat) (w : World) (h1 : Cells w v1 1 n ((List.range n).map fun i => Value.int .i64 (g i : Int))) (h2 : Cells w v2 1 n ((List.range n).map fun i => Value.int .i64 (g i : Int))) (hn : n ≤ 1000) :
    Calls Tryd.prog 42 #[v1, v2] w fun e w' => e = .returned (.bool true) ∧ Grow w w' := by
  obtain ⟨a1, c1, rfl⟩ := h1.shape
  obtain ⟨a2, c2, rfl⟩ := h2.shape
  have H := Lib.hid (And.intro h1 h2)
  clear h1 h2
  go_enter Tryd.func42, Tryd.ntmps42
  go_wp2_with fail
  go_loopw [13] (fun i wr => ∃ k : Nat, k ≤ n ∧ i = .int .i64 k ∧ Hid (Grow w wr)) (fun i _ => n - (RowKit.intOf i).toNat)
  case atStart => exact ⟨0, Nat.zero_le _, rfl, Lib.hid (Grow.refl w)⟩
  case round =>
    obtain ⟨k, hk, rfl, hG⟩ := hrel
    by_cases h1 : k < n
    · have h3 : (k : Int) < (n : Int) := by omega
      obtain ⟨x1, rfl, b1⟩ := cells_at (H.out.1.later hG.out) h1
      obtain ⟨x2, rfl, b2⟩ := cells_at (H.out.2.later hG.out) h1
      go_wp2_with fail
      go_quiet (fail)
      go_wp2_with fail
      all_goals exact ⟨⟨k + 1, by omega, by go_num, Lib.hid (below_drewN hG.out _)⟩, by simp [RowKit.intOf]; omega⟩
    · have h3 : ¬ (k : Int) < (n : Int) := by omega
      go_wp2_with fail
      go_ret
      exact ⟨rfl, hG.out⟩

set_option maxHeartbeats 1000000 in
theorem eqf_bools (v1 v2 : Value) (n : Nat) (f : Nat → Nat → Bool) (w : World) (h1 : TabV w v1 n n (bB f)) (h2 : TabV w v2 n n (bB f)) (hn : n ≤ 1000) :
    Calls Tryd.prog 39 #[v1, v2, .func (.func 40) #[] #[]] w fun e w' => e = .returned (.bool true) ∧ Grow w w' := by
  obtain ⟨a1, c1, rfl⟩ := h1.shape
  obtain ⟨a2, c2, rfl⟩ := h2.shape
  have H := Lib.hid (And.intro h1 h2)
  clear h1 h2
  go_enter Tryd.func39, Tryd.ntmps39
  go_wp2_with fail
  go_loopw [17] (fun i wr => ∃ k : Nat, k ≤ n ∧ i = .int .i64 k ∧ Hid (Grow w wr)) (fun i _ => n - (RowKit.intOf i).toNat)
  case atStart => exact ⟨0, Nat.zero_le _, rfl, Lib.hid (Grow.refl w)⟩
  case round =>
    obtain ⟨k, hk, rfl, hG⟩ := hrel
    by_cases h1 : k < n
    · have h3 : (k : Int) < (n : Int) := by omega
      obtain ⟨x1, bo1, d1, rfl, b1, r1⟩ := (H.out.1.later hG.out).row h1
      obtain ⟨x2, bo2, d2, rfl, b2, r2⟩ := (H.out.2.later hG.out).row h1
      have HE := Lib.hid (eq_bools _ _ n (f k) wr r1 r2 hn)
      clear r1 r2
      go_wp2_with (go_at_call 40; refine HE.out.mono ?_; rintro e w' ⟨rfl, hb8⟩; have H8 := Lib.hid hb8; clear hb8)
      exact ⟨⟨k + 1, by omega, by go_num, Lib.hid (Grow.trans hG.out H8.out)⟩, by simp [RowKit.intOf]; omega⟩
    · have h3 : ¬ (k : Int) < (n : Int) := by omega
      go_wp2_with fail
      go_ret
      exact ⟨rfl, hG.out⟩
set_option maxHeartbeats 1000000 in
theorem eqf_ints (v1 v2 : Value) (n : Nat) (f : Nat → Nat → Nat) (w : World) (h1 : TabV w v1 n n (bI f)) (h2 : TabV w v2 n n (bI f)) (hn : n ≤ 1000) :
    Calls Tryd.prog 41 #[v1, v2, .func (.func 42) #[] #[]] w fun e w' => e = .returned (.bool true) ∧ Grow w w' := by
  obtain ⟨a1, c1, rfl⟩ := h1.shape
  obtain ⟨a2, c2, rfl⟩ := h2.shape
  have H := Lib.hid (And.intro h1 h2)
  clear h1 h2
  go_enter Tryd.func41, Tryd.ntmps41
  go_wp2_with fail
  go_loopw [17] (fun i wr => ∃ k : Nat, k ≤ n ∧ i = .int .i64 k ∧ Hid (Grow w wr)) (fun i _ => n - (RowKit.intOf i).toNat)
  case atStart => exact ⟨0, Nat.zero_le _, rfl, Lib.hid (Grow.refl w)⟩
  case round =>
    obtain ⟨k, hk, rfl, hG⟩ := hrel
    by_cases h1 : k < n
    · have h3 : (k : Int) < (n : Int) := by omega
      obtain ⟨x1, bo1, d1, rfl, b1, r1⟩ := (H.out.1.later hG.out).row h1
      obtain ⟨x2, bo2, d2, rfl, b2, r2⟩ := (H.out.2.later hG.out).row h1
      have HE := Lib.hid (eq_ints8 _ _ n (f k) wr r1 r2 hn)
      clear r1 r2
      go_wp2_with (go_at_call 42; refine HE.out.mono ?_; rintro e w' ⟨rfl, hb8⟩; have H8 := Lib.hid hb8; clear hb8)
      exact ⟨⟨k + 1, by omega, by go_num, Lib.hid (Grow.trans hG.out H8.out)⟩, by simp [RowKit.intOf]; omega⟩
    · have h3 : ¬ (k : Int) < (n : Int) := by omega
      go_wp2_with fail
      go_ret
      exact ⟨rfl, hG.out⟩

set_option maxHeartbeats 1000000 in
theorem square1_yes (ao : Option Addr) (c n : Nat) (p : Addr) (w : World) (hp : w.cell? p = some (.int .i64 n)) :
    Calls Tryd.prog 62 #[.slice ao n c, .pointer (some p)] w fun e w' => e = .returned (.bool false) ∧ w = w' := by
  go_enter Tryd.func62, Tryd.ntmps62
  go_wp2_with fail
  go_ret
  exact ⟨rfl, rfl⟩
set_option maxHeartbeats 1000000 in
theorem idxf_none (v : Value) (n : Nat) (f : Nat → Nat → Bool) (p : Addr) (w : World) (h : TabV w v n n (bB f)) (hp : w.cell? p = some (.int .i64 n)) (hn : n ≤ 1000) :
    Calls Tryd.prog 77 #[v, .func (.func 62) #[] #[.pointer (some p)]] w fun e w' => e = .returned (.int .i64 (-1)) ∧ w = w' := by
  obtain ⟨a1, c1, rfl⟩ := h.shape
  have H := Lib.hid h
  clear h
  go_enter Tryd.func77, Tryd.ntmps77
  go_wp2_with fail
  go_loopw [8] (fun i wr => ∃ k : Nat, k ≤ n ∧ i = .int .i64 k ∧ w = wr) (fun i _ => n - (RowKit.intOf i).toNat)
  case atStart => exact ⟨0, Nat.zero_le _, rfl, rfl⟩
  case round =>
    obtain ⟨k, hk, rfl, rfl⟩ := hrel
    by_cases h1 : k < n
    · have h3 : (k : Int) < (n : Int) := by omega
      obtain ⟨x1, bo1, d1, rfl, b1, _⟩ := H.out.row h1
      go_wp2_with (go_at_call 62; refine (square1_yes _ _ _ _ _ hp).mono ?_; rintro e w' ⟨rfl, rfl⟩)
      exact ⟨⟨k + 1, by omega, by go_num, trivial⟩, by simp [RowKit.intOf]; omega⟩
    · have h3 : ¬ (k : Int) < (n : Int) := by omega
      go_wp2_with fail
      go_ret
      exact ⟨rfl, rfl⟩
set_option maxHeartbeats 1000000 in
theorem square_yes (v : Value) (n : Nat) (f : Nat → Nat → Bool) (w : World) (h : TabV w v n n (bB f)) (hn : n ≤ 1000) :
    Calls Tryd.prog 37 #[v, .int .i64 n] w fun e w' => e = .returned (.bool true) ∧ Grow w w' := by
  obtain ⟨a1, c1, rfl⟩ := h.shape
  obtain ⟨W, hW⟩ : ∃ W, w.alloc (.cells #[.int .i64 n] 3) = W := ⟨_, rfl⟩
  have hgW : Grow w W := by rw [← hW]; exact (Below.refl _ _).alloc (Nat.le_refl _) _
  have hp : W.cell? ⟨w.heap.size, 0, none⟩ = some (.int .i64 n) := by rw [← hW]; exact cellsN (heap_alloc_new _ _) 0 _ rfl
  have P := idxf_none _ n f _ W (h.later hgW) hp hn
  have HG := Lib.hid hgW
  clear h hgW
  have PC : Calls Tryd.prog 61 #[.slice a1 n c1, .func (.func 62) #[] #[.pointer (some ⟨w.heap.size, 0, none⟩)]] W fun e w' => e = .returned (.bool false) ∧ W = w' := by
    clear hW
    go_enter Tryd.func61, Tryd.ntmps61
    go_wp2_with (go_at_call 77; refine P.mono ?_; rintro e w' ⟨rfl, rfl⟩)
    go_ret
    exact ⟨rfl, rfl⟩
  clear P
  go_enter Tryd.func37, Tryd.ntmps37
  go_wp2_with (go_at_call 61; refine PC.mono ?_; rintro e w' ⟨rfl, rfl⟩)
  go_ret
  exact ⟨rfl, HG.out⟩

/-- A row of new memory is put. -/
theorem TabO.putF {w w8 : World} {base O C : Nat} {eo ei : TypeId} (he : eo ≠ ei) {vi v8 : Value} {n i : Nat} {vs : List Value} {X : List (List Value)} {xi x8 : List Value} (h : TabO w base eo ei (.slice (some ⟨O, 0, none⟩) n C) n vs X)
    (h1 : vs[i]? = some vi) (h2 : X[i]? = some xi) (h8 : w8.ownsRow base ei 1 v8 x8.length x8) (hg8 : w.grownBy w8 vi.ownBlock) (ho8 : ∀ b, v8.ownBlock = some b → w.heap.size ≤ b) :
    TabO (w8.setCell ⟨O, i, none⟩ v8) base eo ei (.slice (some ⟨O, 0, none⟩) n C) n (vs.set i v8) (X.set i x8) := by
  have hc : Chg (rowF vi) w w8 := Chg.of_grown hg8 fun k hk => rowF_mem.2 hk
  have hri := h.row i vi xi h1 h2
  have hout8 : w8.ownsRow base eo 1 (.slice (some ⟨O, 0, none⟩) n C) n vs := own_chg h.outer hc fun k hk hm => owns_apart hri h.outer (fun e => he e.symm) k (rowF_mem.1 hm) hk
  have hcO : Chg [O] w8 (w8.setCell ⟨O, i, none⟩ v8) := (Chg.refl _ w8).set (.inl (by simp)) _ _
  have hneO : ∀ (vj : Value) (xj : List Value), w8.ownsRow base ei 1 vj xj.length xj → ∀ k, vj.ownBlock = some k → k ∉ [O] := fun vj xj hj k hk hm => by
    simp only [List.mem_singleton] at hm
    subst hm
    exact owns_apart hj hout8 (fun e => he e.symm) k hk rfl
  have hil : i < vs.length := (List.getElem?_eq_some_iff.1 h1).1
  refine ⟨own_setV hout8 i v8, by rw [List.length_set]; exact h.len, fun j vj xj h3 h4 => ?_, fun j k vj vk b hjk h3 h4 hb => ?_⟩
  · by_cases e : i = j
    · subst e
      rw [List.getElem?_set_self hil] at h3
      rw [List.getElem?_set_self (by rw [h.len, ← h.vlen]; exact hil)] at h4
      cases h3; cases h4
      exact own_chg h8 hcO (hneO _ _ h8)
    · rw [List.getElem?_set_ne e] at h3 h4
      have h5 := h.row j vj xj h3 h4
      have h6 := own_chg h5 hc fun k hk hm => by
        have hm2 := rowF_mem.1 hm
        rcases Nat.lt_trichotomy i j with h7 | h7 | h7
        · exact h.sep i j vi vj k h7 h1 h3 hm2 hk
        · exact e h7
        · exact h.sep j i vj vi k h7 h3 h1 hk hm2
      exact own_chg h6 hcO (hneO _ _ h6)
  · by_cases e1 : i = j
    · subst e1
      rw [List.getElem?_set_self hil] at h3
      rw [List.getElem?_set_ne (by omega)] at h4
      cases h3
      intro h10
      have := (h.lt h4 h10).2
      have := ho8 b hb
      omega
    · rw [List.getElem?_set_ne e1] at h3
      by_cases e2 : i = k
      · subst e2
        rw [List.getElem?_set_self hil] at h4
        cases h4
        intro h10
        have := (h.lt h3 hb).2
        have := ho8 b h10
        omega
      · rw [List.getElem?_set_ne e2] at h4
        exact h.sep j k vj vk b hjk h3 h4 hb
theorem grow_grown {w w' : World} (h : Grow w w') : w.grownBy w' none := ⟨h.os, h.tape, h.output, h.size, fun i hi _ => h.block i hi⟩
/-- Rows as far as k, of an order. -/
def mkF (n : Nat) (f : Nat → Nat → Bool) (k : Nat) : List (List Value) := (List.range n).map fun i => if i < k then rowB n (f i) else []
theorem mkF_at {n k i : Nat} {f : Nat → Nat → Bool} (hi : i < n) : (mkF n f k)[i]? = some (if i < k then rowB n (f i) else []) := by
  unfold mkF
  rw [List.getElem?_map, List.getElem?_range hi]
  rfl
theorem mkF_start (n : Nat) (f : Nat → Nat → Bool) : List.replicate n [] = mkF n f 0 := by
  apply List.ext_getElem?
  intro i
  by_cases hi : i < n
  · rw [mkF_at hi]
    simp [hi]
  · rw [List.getElem?_eq_none (by simp; omega), List.getElem?_eq_none (by simp [mkF]; omega)]
theorem mkF_set {n k : Nat} {f : Nat → Nat → Bool} : (mkF n f k).set k (rowB n (f k)) = mkF n f (k + 1) := by
  apply List.ext_getElem?
  intro i
  by_cases hi : i < n
  · by_cases e : k = i
    · subst e
      rw [List.getElem?_set_self (by simp [mkF]; exact hi), mkF_at hi, if_pos (by omega)]
    · rw [List.getElem?_set_ne e, mkF_at hi, mkF_at hi]
      congr 1
      by_cases h : i < k
      · rw [if_pos h, if_pos (by omega)]
      · rw [if_neg h, if_neg (by omega)]
  · rw [List.getElem?_eq_none (by simp [mkF]; omega), List.getElem?_eq_none (by simp [mkF]; omega)]
theorem mkF_end (n : Nat) (f : Nat → Nat → Bool) : mkF n f n = (List.range n).map fun i => rowB n (f i) := by
  unfold mkF
  refine List.map_congr_left fun i hi => ?_
  rw [if_pos (by simpa using hi)]
theorem rowB_one (n : Nat) (f : Nat → Bool) : ∀ u ∈ rowB n f, u.oneCell' = true := by
  intro u hu
  obtain ⟨i, _, rfl⟩ := List.mem_map.1 hu
  rfl
def CopyTold (w : World) (n : Nat) (f : Nat → Nat → Bool) (e : Ending) (w' : World) : Prop :=
  ∃ O C R cp, e = .returned (.slice (some ⟨O, 0, none⟩) n C) ∧ Mat w' w.heap.size O C n R cp f ∧ Grow w w' ∧ w.heap.size ≤ O

set_option maxHeartbeats 4000000 in
theorem code_copied (v : Value) (n : Nat) (f : Nat → Nat → Bool) (w : World) (h : TabV w v n n (bB f)) (h0 : 0 < n) (hn : n ≤ 1000) :
    Calls Tryd.prog 38 #[v] w (CopyTold w n f) := by
  obtain ⟨a1, c1, rfl⟩ := h.shape
  have H := Lib.hid h
  have FN : Hid (n ≤ 1000000) := Lib.hid (by omega)
  clear h
  go_enter Tryd.func38, Tryd.ntmps38
  go_wp2_with (refine wpList_make_gen elemBools rfl rfl (.tmp 7) (.tmp 7) rfl w.heap.size n n n rfl rfl rfl rfl FN (by decide) (Nat.le_refl _) ?_; intro w1 hown1 hb1 hg1 hs1)
  obtain ⟨O, hO⟩ : ∃ O, w.heap.size = O := ⟨_, rfl⟩
  have HI : Hid (TabO w1 O 47 4 (.slice (some ⟨O, 0, none⟩) n n) n (List.replicate n (.slice none 0 0)) (mkF n f 0) ∧ Grow w w1) := Lib.hid (by
    rw [← mkF_start, ← hO]
    exact ⟨TabO.blank hown1, below_none hg1 (Nat.le_refl _)⟩)
  rw [hO]
  have HR := Lib.hid hO
  clear hown1 hb1 hg1 hs1 hO
  go_loopw [11] (fun i wr => ∃ (b : Nat) (vs : List Value), b ≤ n ∧ i = .int .i64 b ∧ Hid (TabO wr O 47 4 (.slice (some ⟨O, 0, none⟩) n n) n vs (mkF n f b) ∧ Grow w wr))
    (fun i _ => n - (RowKit.intOf i).toNat)
  case atStart => exact ⟨0, _, Nat.zero_le _, rfl, HI⟩
  case round =>
    clear HI
    obtain ⟨b, vs, hb, rfl, hs⟩ := hrel
    by_cases h1 : b < n
    · have h3 : (b : Int) < (n : Int) := by omega
      obtain ⟨x1, bo1, d1, rfl, b1, r1⟩ := (H.out.later hs.out.2).row h1
      obtain ⟨vb, hvb⟩ : ∃ vb, vs[b]? = some vb := ⟨_, List.getElem?_eq_getElem (by rw [hs.out.1.vlen]; exact h1)⟩
      have HV := Lib.hid hvb
      have HB : Hid (O ≤ wr.heap.size) := Lib.hid (by have := hs.out.2.size; have := HR.out; omega)
      have P1 := clone_bools bo1 n d1 _ wr r1 (rowB_one n (f b)) h0 hn
      clear hvb r1
      go_wp2_with fail
      refine P1.mono ?_
      rintro e w2 ⟨a8, c8, rfl, hown, hg2⟩
      have hgr : wr.grownBy w2 vb.ownBlock := grown_any (grow_grown hg2) vb.ownBlock
      obtain ⟨k1, k2⟩ := TabO.seen (by decide) hs.out.1 HV.out (mkF_at h1) hgr
      have HN := Lib.hid (And.intro (TabO.putF (by decide) hs.out.1 HV.out (mkF_at h1) (x8 := rowB n (f b)) (by rw [rowB_length]; exact owns_base hown HB.out) hgr (fun q hq => (hown.lt q hq).1)) hg2)
      clear hown hg2 hgr P1
      go_wp2_with fail
      refine ⟨⟨b + 1, vs.set b (.slice a8 n c8), by omega, by go_num, Lib.hid ⟨?_, ?_⟩⟩, by simp [RowKit.intOf]; omega⟩
      · have h9 := HN.out.1
        rw [mkF_set] at h9
        exact h9
      · have e1 : Below O w wr := HR.out ▸ hs.out.2
        show Below w.heap.size w _
        rw [HR.out]
        exact below_set (e1.trans (HN.out.2.mono HB.out)) (Nat.le_refl O) _ _
    · have h3 : ¬ (b : Int) < (n : Int) := by omega
      obtain rfl : b = n := by omega
      go_wp2_with fail
      go_ret
      have h9 := hs.out.1
      rw [mkF_end] at h9
      obtain ⟨O', C', R, cp, e, hM⟩ := h9.mat h0
      simp only [Value.slice.injEq, Option.some.injEq, Addr.mk.injEq, and_true, true_and] at e
      obtain ⟨rfl, rfl⟩ := e
      exact ⟨O, b, R, cp, rfl, by rw [HR.out]; exact hM, hs.out.2, Nat.le_of_eq HR.out⟩

theorem growA8 {w W : World} (o : Obj) (h : Grow w W) : Grow w (W.alloc o) := Grow.trans h ((Below.refl _ _).alloc (Nat.le_refl _) _)
theorem growD8 {w W : World} (h : Grow w W) : Grow w W.drew := below_drewN h 1
theorem growS8 {w W : World} {c : Nat} (h : Grow w W) (hc : w.heap.size ≤ c) (j : Nat) (v : Value) : Grow w (W.setCell ⟨c, j, none⟩ v) := below_set h hc j v
theorem growB8 {w W W6 : World} (h : Grow w W) (h6 : Below w.heap.size W W6) : Grow w W6 := Below.trans h h6
theorem grow_size8 {w W : World} (h : Grow w W) : w.heap.size ≤ W.heap.size := h.size
theorem grow6 {w W : World} {c : Nat} (h : Grow w W) (hc : w.heap.size ≤ c) (v0 v1 v2 v3 v4 v5 : Value) : Grow w ((((((W.setCell ⟨c, 0, none⟩ v0).setCell ⟨c, 1, none⟩ v1).setCell ⟨c, 2, none⟩ v2).setCell ⟨c, 3, none⟩ v3).setCell ⟨c, 4, none⟩ v4).setCell ⟨c, 5, none⟩ v5) :=
  growS8 (growS8 (growS8 (growS8 (growS8 (growS8 h hc _ _) hc _ _) hc _ _) hc _ _) hc _ _) hc _ _
theorem latA1 {w3 w5 w6 : World} {O C n : Nat} {R cp : Nat → Nat} {f : Nat → Nat → Bool} (hM : Mat w5 (w3.alloc (.cells #[.slice none 0 0, .slice none 0 0, .slice none 0 0, .slice none 0 0, .int .i64 0, .int .i64 0] 29)).drew.heap.size O C n R cp f)
    (hg : Grow (w3.alloc (.cells #[.slice none 0 0, .slice none 0 0, .slice none 0 0, .slice none 0 0, .int .i64 0, .int .i64 0] 29)).drew w5) (hc : Chg (rowsF n R) w5 w6) : LatB w6 w3.heap.size (.slice none 0 0) (.slice none 0 0) (.slice none 0 0) (.slice none 0 0) (.int .i64 0) (.int .i64 0) := by
  have hs : (w3.alloc (.cells #[.slice none 0 0, .slice none 0 0, .slice none 0 0, .slice none 0 0, .int .i64 0, .int .i64 0] 29)).drew.heap.size = w3.heap.size + 1 := by simp
  have h1 := hg.size
  refine ⟨(hc.block w3.heap.size (by omega) (fun hm => by have := hM.low _ hm; omega)).trans ((hg.block w3.heap.size (by omega)).trans (heap_alloc_new w3 _))⟩
theorem latA2 {w5 w6 : World} {base O C n : Nat} {R cp : Nat → Nat} {f : Nat → Nat → Bool} (hM : Mat w5 base O C n R cp f)
    (hc : Chg (rowsF n R) (w5.alloc (.cells #[.slice none 0 0, .slice none 0 0, .slice none 0 0, .slice none 0 0, .int .i64 0, .int .i64 0] 29)) w6) : LatB w6 w5.heap.size (.slice none 0 0) (.slice none 0 0) (.slice none 0 0) (.slice none 0 0) (.int .i64 0) (.int .i64 0) := by
  have hs : (w5.alloc (.cells #[.slice none 0 0, .slice none 0 0, .slice none 0 0, .slice none 0 0, .int .i64 0, .int .i64 0] 29)).heap.size = w5.heap.size + 1 := by simp
  refine ⟨(hc.block w5.heap.size (by omega) (fun hm => ?_)).trans (heap_alloc_new w5 _)⟩
  obtain ⟨i, hi, he⟩ := List.mem_map.1 hm
  have := (hM.lt (by simpa using hi)).2
  omega
/-- An order that is reflexive and goes on is its own closure. -/
theorem clos_self {n : Nat} {f : Nat → Nat → Bool} (hr : ∀ x, x < n → f x x = true) (ht : ∀ x y z, x < n → y < n → z < n → f x y = true → f y z = true → f x z = true) : Clos n f f :=
  ⟨hr, ht, fun _ _ _ _ h => h, fun _ _ _ h3 x y hx hy h => h3 x y hx hy h⟩

/-- A lattice that was made: its tables. -/
def Made6 (w : World) (n : Nat) (f : Nat → Nat → Bool) (a1 a2 a3 : Option Addr) (k1 k2 k3 : Nat) : Prop := TabV w (.slice a1 n k1) n n (bB f) ∧ TabV w (.slice a2 n k2) n n (bI (joinI n f)) ∧ TabV w (.slice a3 n k3) n n (bI (joinI n (flipB f)))
theorem Made6.later {w w' : World} {n : Nat} {f : Nat → Nat → Bool} {a1 a2 a3 : Option Addr} {k1 k2 k3 : Nat} (h : Made6 w n f a1 a2 a3 k1 k2 k3) (hg : Grow w w') : Made6 w' n f a1 a2 a3 k1 k2 k3 := ⟨h.1.later hg, h.2.1.later hg, h.2.2.later hg⟩
theorem told_yes {lo base O C n : Nat} {R cp : Nat → Nat} {W w' : World} {L : List (List UInt8)} {f : Nat → Nat → Bool} {e : Ending} {x y : Int} (hn : n = L.length) (hc : Clos L.length f f) (hl : lattP L.length f = true) (hx : (lowI n f : Int) = x ∧ (lowI n (flipB f) : Int) = y) (h : LattToldC lo base O C n R cp W L f e w') :
    Below base W w' ∧ ∃ a0 k0 a2 k2 a3 k3, e = .returned (.tuple #[.agg #[.slice a0 n k0, .slice (some ⟨O, 0, none⟩) n C, .slice a2 n k2, .slice a3 n k3, .int .i64 x, .int .i64 y], .bool true]) ∧
      Made6 w' n f (some ⟨O, 0, none⟩) a2 a3 C k2 k3 ∧ ∀ (A : Nat) (W' : World), Chg [A] w' W' → A ≠ O → (∀ i, i < n → R i ≠ A) → A < W.heap.size → Made6 W' n f (some ⟨O, 0, none⟩) a2 a3 C k2 k3 := by
  obtain ⟨_, hat, hb, g, hg, hr⟩ := h
  refine ⟨hb, ?_⟩
  subst hn
  have hs := hg.same hc
  rcases hr with ⟨h1, _⟩ | ⟨_, v, rfl, hv⟩
  · rw [lattP_congr hs, hl] at h1
    cases h1
  · obtain ⟨aN, cN, aJ, cJ, aM, cM, g', lo', hi', e, m1, m2, m3⟩ := hat v rfl
    obtain ⟨bN, dN, bL, dL, bJ, dJ, bM, dM, m, hm, e2, _, h2, h3, h4⟩ := hv.congr hs
    subst hm
    rw [e] at e2
    simp only [Value.agg.injEq, Array.mk.injEq, List.cons.injEq, Value.slice.injEq, and_true, true_and] at e2
    obtain ⟨⟨rfl, rfl⟩, ⟨rfl, rfl⟩, ⟨rfl, rfl⟩, ⟨rfl, rfl⟩, rfl, rfl⟩ := e2
    refine ⟨aN, cN, aJ, cJ, aM, cM, by rw [e, hx.1, hx.2], ⟨h2.toV, h3.toV, h4.toV⟩, fun A W' hcg hO hR hlt => ?_⟩
    have hfg : ∀ i j, i < L.length → j < L.length → bB g' i j = bB f i j := fun i j hi hj => by
      obtain ⟨_, _, _, q0, q1, q2⟩ := m1.tab.at hi hj
      obtain ⟨_, _, _, p0, p1, p2⟩ := h2.toV.at hi hj
      rw [q0] at p0
      cases p0
      rw [q1] at p1
      cases p1
      rw [q2] at p2
      exact Option.some.inj p2
    have hfg2 : ∀ i j, i < L.length → j < L.length → g' i j = f i j := fun i j hi hj => by
      have := hfg i j hi hj
      unfold bB at this
      simpa using this
    refine ⟨((m1.chg hcg (by simp; exact fun h => hO h.symm) (fun i hi => by simp; exact hR i hi)).tab).congr hfg, ?_, ?_⟩
    · exact (m2.chg hcg (by simp; exact hlt)).toV.congr fun i j hi hj => by unfold bI; rw [joinI_congr hfg2 hi hj]
    · exact (m3.chg hcg (by simp; exact hlt)).toV.congr fun i j hi hj => by unfold bI; rw [joinI_congr (flip_congr hfg2) hi hj]
theorem outer_lt {w : World} {base O C n : Nat} {R cp : Nat → Nat} {f : Nat → Nat → Bool} (h : Mat w base O C n R cp f) (h0 : 0 < n) : O < w.heap.size := World.block_lt_of_cell? w _ (h.outer 0 h0)
set_option maxHeartbeats 8000000 in
theorem code_right (lo : Nat) (v : Value) (L : List (List UInt8)) (f : Nat → Nat → Bool) (w : World) (h : LatV lo w L f v) (hrise : RiseT L) (h0 : 0 < L.length) (h12 : L.length ≤ 12)
    (hr : ∀ x, x < L.length → f x x = true) (ht : ∀ x y z, x < L.length → y < L.length → z < L.length → f x y = true → f y z = true → f x z = true) (hl : lattP L.length f = true) :
    Calls Tryd.prog 22 #[v] w fun e w' => e = .returned (.bool true) ∧ Grow w w' := by
  obtain ⟨aN, cN, aL, cL, aJ, cJ, aM, cM, n, hn, rfl, h1, h2, h3, h4⟩ := h
  have HL := Lib.hid (show LatV lo w L f _ from ⟨aN, cN, aL, cL, aJ, cJ, aM, cM, n, hn, rfl, h1, h2, h3, h4⟩)
  have HC := Lib.hid (clos_self hr ht)
  have HLP := Lib.hid hl
  rw [← hn] at h0 h12
  have i1 : ¬ (n : Int) < 1 := by omega
  have i2 : ¬ (12 : Int) < (n : Int) := by omega
  obtain ⟨W, hW⟩ : ∃ W, w.alloc (.cells #[.slice aN n cN, .slice aL n cL, .slice aJ n cJ, .slice aM n cM, .int .i64 (lowI n f : Int), .int .i64 (lowI n (flipB f) : Int)] 29) = W := ⟨_, rfl⟩
  have hgW : Grow w W := by rw [← hW]; exact (Below.refl _ _).alloc (Nat.le_refl _) _
  have HB := Lib.hid (show LatB W w.heap.size (.slice aN n cN) (.slice aL n cL) (.slice aJ n cJ) (.slice aM n cM) (.int .i64 (lowI n f : Int)) (.int .i64 (lowI n (flipB f) : Int)) from by rw [← hW]; exact LatB.new _ _ _ _ _ _ _)
  have HN := Lib.hid (And.intro hn (And.intro h1 (And.intro h2 (And.intro h3 h4))))
  have P1 := asc_yes _ n L W (h1.1.later hgW) hrise (by omega)
  have HG := Lib.hid hgW
  have HW := Lib.hid hW
  obtain ⟨⟨q0, q1, q2⟩, q3, q4, q5⟩ := HB.out.cells
  clear h1 h2 h3 h4 hn hl hr ht hW hgW hrise
  generalize hLo : (lowI n f : Int) = LoZ at *
  generalize hHi : (lowI n (flipB f) : Int) = HiZ at *
  have HLo := Lib.hid (And.intro hLo hHi)
  clear hLo hHi
  have HNb : Hid (∀ B, w.heap.size ≤ B → BlkP (fun k => k < B) (.slice aN n cN)) := Lib.hid fun B hB a m c e => by
    simp only [Value.slice.injEq] at e
    obtain ⟨rfl, rfl, rfl⟩ := e
    obtain ⟨a', s, e2, _, hc⟩ := HN.out.2.1.1.at h0
    cases e2
    have := World.block_lt_of_cell? w _ hc
    have e : (a.add 0).block = a.block := by unfold Addr.add; split <;> rfl
    omega
  go_enter Tryd.func22, Tryd.ntmps22
  go_upto_region 1 with fail
  rw [HW.out]
  go_wp2_with fail
  refine P1.mono ?_
  rintro e w2 ⟨rfl, hg2⟩
  have P2 := square_yes _ n f w2 ((HN.out.2.2.1.toV.later HG.out).later hg2) (by omega)
  obtain ⟨⟨r0, r1, r2⟩, r3, r4, r5⟩ := (HB.out.later hg2).cells
  have HG2 := Lib.hid hg2
  clear P1 hg2 q0 q1 q2 q3 q4 q5
  go_wp2_with fail
  refine P2.mono ?_
  rintro e w3 ⟨rfl, hg3⟩
  have HG3 := Lib.hid (show Grow w w3 from Grow.trans HG.out (Grow.trans HG2.out hg3))
  have HBB := Lib.hid ((HB.out.later HG2.out).later hg3)
  clear P2 hg3 r0 r1 r2 r3 r4 r5
  obtain ⟨⟨q0, q1, q2⟩, q3, q4, q5⟩ := HBB.out.cells
  have KEEP : Hid (∀ W', Grow w3 W' → W'.cell? ⟨w.heap.size, 0, none⟩ = some (.slice aN n cN) ∧ W'.cell? ⟨w.heap.size, 1, none⟩ = some (.slice aL n cL)) := Lib.hid fun W' hg => ⟨grow_cellO hg q0, grow_cellO hg q1⟩
  clear q2 q3 q4 q5 HW
  go_upto_region 4 with fail
  go_region_held3 (fun W' => W'.cell? ⟨w.heap.size, 0, none⟩ = some (.slice aN n cN) ∧ W'.cell? ⟨w.heap.size, 1, none⟩ = some (.slice aL n cL)) (with_reducible (first | exact KEEP.out _ (grow6 hg36 (Nat.le_refl _) _ _ _ _ _ _) | exact KEEP.out _ (grow6 hg36 (grow_size8 hg35) _ _ _ _ _ _) | exact KEEP.out _ (growA8 _ hg36) | exact KEEP.out _ hg36 | exact KEEP.out _ (growA8 _ hg35) | exact KEEP.out _ hg35 | exact KEEP.out _ (growD8 (growA8 _ (Grow.refl _))) | exact KEEP.out _ (growA8 _ (Grow.refl _)) | exact KEEP.out _ (growD8 (Grow.refl _)) | exact KEEP.out _ (growD8 (growA8 _ hg36)) | exact KEEP.out _ (growD8 hg36))) (first | (go_at_call 38; refine (code_copied _ n f _ (HN.out.2.2.1.toV.later (Grow.trans HG3.out (by repeat' (first | exact Grow.refl _ | refine growA8 _ ?_ | refine growD8 ?_)))) h0 (by omega)).mono ?_; rintro e w5 ⟨O, C, R, cp, rfl, hM, hg5, hO⟩; have hg35 : Grow w3 w5 := (by first | exact Grow.trans (growD8 (Grow.refl _)) hg5 | exact Grow.trans (growD8 (growA8 _ (Grow.refl _))) hg5)) | (go_at_call 25; refine (code_lattice_c 0 _ O C R cp f _ n L _ (HN.out.2.1.1.later (Grow.trans HG3.out (by repeat' (first | exact Grow.refl _ | refine growA8 _ ?_ | refine growD8 ?_ | refine Grow.trans ?_ hg5)))) (HNb.out _ (by have := HG3.out.size; first | exact this | (simp; omega))) (fun _ _ _ _ => Nat.zero_le _) (Nat.zero_le _) hO (hM.later (by repeat' (first | exact Grow.refl _ | refine growA8 _ ?_ | refine growD8 ?_))) h0 (by omega) (by have := hg5.size; first | exact this | (simp at *; omega))).mono ?_; rintro e w6 hL6; obtain ⟨hb6, a0, k0, a2, k2, a3, k3, rfl, h6, h7⟩ := told_yes HN.out.1 HC.out HLP.out HLo.out hL6; have hg6 := Below.mono hb6 (show w3.heap.size ≤ _ by first | exact Nat.le_refl _ | simp); have hg36 : Grow w3 w6 := (by first | exact Below.trans hg35 hg6 | exact Below.trans (growA8 _ hg35) hg6 | exact Below.trans (growD8 (growA8 _ hg35)) hg6); have H6 := Lib.hid h6; have H7 := Lib.hid h7; clear h6 h7; (first | (have hA : LatB w6 w3.heap.size (.slice none 0 0) (.slice none 0 0) (.slice none 0 0) (.slice none 0 0) (.int .i64 0) (.int .i64 0) := latA1 hM hg5 hL6.1; obtain ⟨⟨m0, m1, m2⟩, m3, m4, m5⟩ := hA.cells; obtain ⟨⟨z0, z1, z2⟩, z3, z4, z5⟩ := hA.free; have HA := Lib.hid (And.intro hA (fun W' hc9 => H7.out w3.heap.size W' hc9 (by have h9 := hO; simp at h9; omega) (fun i hi => by have h9 := (hM.lt hi).1; simp at h9; omega) (by have h9 := hg5.size; simp at h9; omega))); clear hA) | (have hA : LatB w6 w5.heap.size (.slice none 0 0) (.slice none 0 0) (.slice none 0 0) (.slice none 0 0) (.int .i64 0) (.int .i64 0) := latA2 hM hL6.1; obtain ⟨⟨m0, m1, m2⟩, m3, m4, m5⟩ := hA.cells; obtain ⟨⟨z0, z1, z2⟩, z3, z4, z5⟩ := hA.free; have HA := Lib.hid (And.intro hA (fun W' hc9 => H7.out w5.heap.size W' hc9 (by have h9 := outer_lt hM h0; omega) (fun i hi => by have h9 := (hM.lt hi).2; omega) (by simp))); clear hA) | skip)))
  · obtain ⟨W9, hW9⟩ : ∃ W9, w6.alloc (.cells #[.slice a0 n k0, .slice (some ⟨O, 0, none⟩) n C, .slice a2 n k2, .slice a3 n k3, .int .i64 LoZ, .int .i64 HiZ] 29) = W9 := ⟨_, rfl⟩
    have hg9 : Grow w6 W9 := by rw [← hW9]; exact (Below.refl _ _).alloc (Nat.le_refl _) _
    have H9 : Hid (LatB W9 w6.heap.size (.slice a0 n k0) (.slice (some ⟨O, 0, none⟩) n C) (.slice a2 n k2) (.slice a3 n k3) (.int .i64 LoZ) (.int .i64 HiZ) ∧ Made6 W9 n f (some ⟨O, 0, none⟩) a2 a3 C k2 k3 ∧ Grow w3 W9) := Lib.hid ⟨by rw [← hW9]; exact LatB.new _ _ _ _ _ _ _, H6.out.later hg9, Grow.trans hg36 hg9⟩
    rw [hW9]
    clear hW9 hg9
    have HBo := Lib.hid (HBB.out.later H9.out.2.2)
    have HE1 := Lib.hid (fun (W' : World) (hg : Grow W9 W') => eqf_bools (.slice aL n cL) (.slice (some ⟨O, 0, none⟩) n C) n f W' (HN.out.2.2.1.toV.later (Grow.trans HG3.out (Grow.trans H9.out.2.2 hg))) (H9.out.2.1.1.later hg) (by omega))
    have HE2 := Lib.hid (fun (W' : World) (hg : Grow W9 W') => eqf_ints (.slice aJ n cJ) (.slice a2 n k2) n (joinI n f) W' (HN.out.2.2.2.1.toV.later (Grow.trans HG3.out (Grow.trans H9.out.2.2 hg))) (H9.out.2.1.2.1.later hg) (by omega))
    have HE3 := Lib.hid (fun (W' : World) (hg : Grow W9 W') => eqf_ints (.slice aM n cM) (.slice a3 n k3) n (joinI n (flipB f)) W' (HN.out.2.2.2.2.toV.later (Grow.trans HG3.out (Grow.trans H9.out.2.2 hg))) (H9.out.2.1.2.2.later hg) (by omega))
    obtain ⟨⟨u0, u1, u2⟩, u3, u4, u5⟩ := H9.out.1.cells
    obtain ⟨⟨v0, v1, v2⟩, v3, v4, v5⟩ := HBo.out.cells
    go_wp2_with (first | (go_at_call 41; refine (HE3.out _ G11.out).mono ?_; rintro e w12 ⟨rfl, hb12⟩; have G12 := Lib.hid (Grow.trans G11.out hb12); clear hb12) | (go_at_call 41; refine (HE2.out _ G10.out).mono ?_; rintro e w11 ⟨rfl, hb11⟩; have G11 := Lib.hid (Grow.trans G10.out hb11); clear hb11; obtain ⟨⟨u0, u1, u2⟩, u3, u4, u5⟩ := (H9.out.1.later G11.out).cells; obtain ⟨⟨v0, v1, v2⟩, v3, v4, v5⟩ := (HBo.out.later G11.out).cells) | (go_at_call 39; refine (HE1.out _ (Grow.refl _)).mono ?_; rintro e w10 ⟨rfl, hb10⟩; have G10 := Lib.hid hb10; clear hb10; obtain ⟨⟨u0, u1, u2⟩, u3, u4, u5⟩ := (H9.out.1.later G10.out).cells; obtain ⟨⟨v0, v1, v2⟩, v3, v4, v5⟩ := (HBo.out.later G10.out).cells))
    go_ret
    exact ⟨rfl, Grow.trans HG3.out (Grow.trans H9.out.2.2 G12.out)⟩
  · have hs := lat_set6 HA.out.1.h (.slice a0 n k0) (.slice (some ⟨O, 0, none⟩) n C) (.slice a2 n k2) (.slice a3 n k3) (.int .i64 LoZ) (.int .i64 HiZ)
    generalize hW9 : (((((w6.setCell ⟨w5.heap.size, 0, none⟩ _).setCell ⟨w5.heap.size, 1, none⟩ _).setCell ⟨w5.heap.size, 2, none⟩ _).setCell ⟨w5.heap.size, 3, none⟩ _).setCell ⟨w5.heap.size, 4, none⟩ _).setCell ⟨w5.heap.size, 5, none⟩ _ = W9 at hs ⊢
    have H9 : Hid (LatB W9 w5.heap.size (.slice a0 n k0) (.slice (some ⟨O, 0, none⟩) n C) (.slice a2 n k2) (.slice a3 n k3) (.int .i64 LoZ) (.int .i64 HiZ) ∧ Made6 W9 n f (some ⟨O, 0, none⟩) a2 a3 C k2 k3 ∧ Grow w3 W9) := Lib.hid ⟨⟨hs.1⟩, HA.out.2 W9 hs.2, by rw [← hW9]; exact grow6 hg36 (by first | exact Nat.le_refl _ | exact hg35.size) _ _ _ _ _ _⟩
    clear hs hW9 m0 m1 m2 m3 m4 m5 z0 z1 z2 z3 z4 z5
    have HBo := Lib.hid (HBB.out.later H9.out.2.2)
    have HE1 := Lib.hid (fun (W' : World) (hg : Grow W9 W') => eqf_bools (.slice aL n cL) (.slice (some ⟨O, 0, none⟩) n C) n f W' (HN.out.2.2.1.toV.later (Grow.trans HG3.out (Grow.trans H9.out.2.2 hg))) (H9.out.2.1.1.later hg) (by omega))
    have HE2 := Lib.hid (fun (W' : World) (hg : Grow W9 W') => eqf_ints (.slice aJ n cJ) (.slice a2 n k2) n (joinI n f) W' (HN.out.2.2.2.1.toV.later (Grow.trans HG3.out (Grow.trans H9.out.2.2 hg))) (H9.out.2.1.2.1.later hg) (by omega))
    have HE3 := Lib.hid (fun (W' : World) (hg : Grow W9 W') => eqf_ints (.slice aM n cM) (.slice a3 n k3) n (joinI n (flipB f)) W' (HN.out.2.2.2.2.toV.later (Grow.trans HG3.out (Grow.trans H9.out.2.2 hg))) (H9.out.2.1.2.2.later hg) (by omega))
    obtain ⟨⟨u0, u1, u2⟩, u3, u4, u5⟩ := H9.out.1.cells
    obtain ⟨⟨v0, v1, v2⟩, v3, v4, v5⟩ := HBo.out.cells
    go_wp2_with (first | (go_at_call 41; refine (HE3.out _ G11.out).mono ?_; rintro e w12 ⟨rfl, hb12⟩; have G12 := Lib.hid (Grow.trans G11.out hb12); clear hb12) | (go_at_call 41; refine (HE2.out _ G10.out).mono ?_; rintro e w11 ⟨rfl, hb11⟩; have G11 := Lib.hid (Grow.trans G10.out hb11); clear hb11; obtain ⟨⟨u0, u1, u2⟩, u3, u4, u5⟩ := (H9.out.1.later G11.out).cells; obtain ⟨⟨v0, v1, v2⟩, v3, v4, v5⟩ := (HBo.out.later G11.out).cells) | (go_at_call 39; refine (HE1.out _ (Grow.refl _)).mono ?_; rintro e w10 ⟨rfl, hb10⟩; have G10 := Lib.hid hb10; clear hb10; obtain ⟨⟨u0, u1, u2⟩, u3, u4, u5⟩ := (H9.out.1.later G10.out).cells; obtain ⟨⟨v0, v1, v2⟩, v3, v4, v5⟩ := (HBo.out.later G10.out).cells))
    go_ret
    exact ⟨rfl, Grow.trans HG3.out (Grow.trans H9.out.2.2 G12.out)⟩
  · have hs := lat_set6 HA.out.1.h (.slice a0 n k0) (.slice (some ⟨O, 0, none⟩) n C) (.slice a2 n k2) (.slice a3 n k3) (.int .i64 LoZ) (.int .i64 HiZ)
    generalize hW9 : (((((w6.setCell ⟨w3.heap.size, 0, none⟩ _).setCell ⟨w3.heap.size, 1, none⟩ _).setCell ⟨w3.heap.size, 2, none⟩ _).setCell ⟨w3.heap.size, 3, none⟩ _).setCell ⟨w3.heap.size, 4, none⟩ _).setCell ⟨w3.heap.size, 5, none⟩ _ = W9 at hs ⊢
    have H9 : Hid (LatB W9 w3.heap.size (.slice a0 n k0) (.slice (some ⟨O, 0, none⟩) n C) (.slice a2 n k2) (.slice a3 n k3) (.int .i64 LoZ) (.int .i64 HiZ) ∧ Made6 W9 n f (some ⟨O, 0, none⟩) a2 a3 C k2 k3 ∧ Grow w3 W9) := Lib.hid ⟨⟨hs.1⟩, HA.out.2 W9 hs.2, by rw [← hW9]; exact grow6 hg36 (by first | exact Nat.le_refl _ | exact hg35.size) _ _ _ _ _ _⟩
    clear hs hW9 m0 m1 m2 m3 m4 m5 z0 z1 z2 z3 z4 z5
    have HBo := Lib.hid (HBB.out.later H9.out.2.2)
    have HE1 := Lib.hid (fun (W' : World) (hg : Grow W9 W') => eqf_bools (.slice aL n cL) (.slice (some ⟨O, 0, none⟩) n C) n f W' (HN.out.2.2.1.toV.later (Grow.trans HG3.out (Grow.trans H9.out.2.2 hg))) (H9.out.2.1.1.later hg) (by omega))
    have HE2 := Lib.hid (fun (W' : World) (hg : Grow W9 W') => eqf_ints (.slice aJ n cJ) (.slice a2 n k2) n (joinI n f) W' (HN.out.2.2.2.1.toV.later (Grow.trans HG3.out (Grow.trans H9.out.2.2 hg))) (H9.out.2.1.2.1.later hg) (by omega))
    have HE3 := Lib.hid (fun (W' : World) (hg : Grow W9 W') => eqf_ints (.slice aM n cM) (.slice a3 n k3) n (joinI n (flipB f)) W' (HN.out.2.2.2.2.toV.later (Grow.trans HG3.out (Grow.trans H9.out.2.2 hg))) (H9.out.2.1.2.2.later hg) (by omega))
    obtain ⟨⟨u0, u1, u2⟩, u3, u4, u5⟩ := H9.out.1.cells
    obtain ⟨⟨v0, v1, v2⟩, v3, v4, v5⟩ := HBo.out.cells
    go_wp2_with (first | (go_at_call 41; refine (HE3.out _ G11.out).mono ?_; rintro e w12 ⟨rfl, hb12⟩; have G12 := Lib.hid (Grow.trans G11.out hb12); clear hb12) | (go_at_call 41; refine (HE2.out _ G10.out).mono ?_; rintro e w11 ⟨rfl, hb11⟩; have G11 := Lib.hid (Grow.trans G10.out hb11); clear hb11; obtain ⟨⟨u0, u1, u2⟩, u3, u4, u5⟩ := (H9.out.1.later G11.out).cells; obtain ⟨⟨v0, v1, v2⟩, v3, v4, v5⟩ := (HBo.out.later G11.out).cells) | (go_at_call 39; refine (HE1.out _ (Grow.refl _)).mono ?_; rintro e w10 ⟨rfl, hb10⟩; have G10 := Lib.hid hb10; clear hb10; obtain ⟨⟨u0, u1, u2⟩, u3, u4, u5⟩ := (H9.out.1.later G10.out).cells; obtain ⟨⟨v0, v1, v2⟩, v3, v4, v5⟩ := (HBo.out.later G10.out).cells))
    go_ret
    exact ⟨rfl, Grow.trans HG3.out (Grow.trans H9.out.2.2 G12.out)⟩

end Go.Proofs.YtejaikpnfhhmnaaDoor
