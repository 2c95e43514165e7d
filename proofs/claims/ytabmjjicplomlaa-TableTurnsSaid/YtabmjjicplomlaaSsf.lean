/- slices.SortStableFunc of ops by their keys, over an own row. Numbers and types by name. -/
import Derived.Test.YtabmjjicplomlaaSyl
/- The stable sort's merge of ops, whole; ranges that are by rising keys. Numbers and types by name. -/
namespace Go.Proofs.Ytabmjjicplomlaa
open Go.RowKit Go.Lib Go.Sort

theorem merges (w0 : World) (blk off n cap : Nat) (B0 : Lies w0 blk off n) : ∀ N, Merges w0 blk off n cap N := by
  intro N
  induction N with
  | zero => intro P A B S W m b _ _ h1 h2 h3; omega
  | succ N IH =>
    intro P A B S W m b hA hB h1 h2 h3 hm hb hW
    by_cases hA1 : A.length = 1
    · obtain ⟨x, rfl⟩ := List.length_eq_one_iff.1 hA1
      exact merge_one w0 blk off n cap B0 P B S x hB W (by simpa using hW) m b (by simpa using hm) hb
    · by_cases hB1 : B.length = 1
      · obtain ⟨x, rfl⟩ := List.length_eq_one_iff.1 hB1
        exact merge_last w0 blk off n cap B0 P A S x hA hA1 W (by simpa using hW) m b hm (by simpa using hb)
      · rcases Nat.lt_or_ge ((P.length + b) / 2) m with hlt | hge
        · exact merge_hi w0 blk off n cap N B0 IH P A B S W m b _ hA hB (by omega) (by omega) (by omega) hm hb rfl hlt hW
        · exact merge_lo w0 blk off n cap N B0 IH P A B S W m b _ hA hB (by omega) (by omega) (by omega) hm hb rfl hge hW

/-- From lo to hi it is by rising keys. -/
def Rng (lo hi : Nat) (L : List Opm) : Prop := ∀ u v x y, lo ≤ u → u ≤ v → v < hi → L[u]? = some x → L[v]? = some y → ¬ kO y < kO x

theorem rng_asc {lo hi : Nat} {L : List Opm} (h : Rng lo hi L) : Asc ((L.drop lo).take (hi - lo)) := by
  refine List.pairwise_iff_getElem.2 fun i j h1 h2 hij => ?_
  rw [List.length_take, List.length_drop] at h1 h2
  rw [List.getElem_take, List.getElem_take, List.getElem_drop, List.getElem_drop]
  exact h (lo + i) (lo + j) _ _ (by omega) (by omega) (by omega) (List.getElem?_eq_getElem (by omega)) (List.getElem?_eq_getElem (by omega))
theorem asc_rng {P C S : List Opm} {lo hi : Nat} (h : Asc C) (h1 : lo = P.length) (h2 : hi ≤ P.length + C.length ∨ S = []) : Rng lo hi (P ++ C ++ S) := by
  intro u v x y hu huv hv hx hy
  subst h1
  have e : ∀ t z, P.length ≤ t → t < hi → (P ++ C ++ S)[t]? = some z → C[t - P.length]? = some z := by
    intro t z ht ht2 hz
    rw [List.append_assoc, List.getElem?_append_right ht] at hz
    rcases h2 with h2 | rfl
    · rwa [List.getElem?_append_left (by omega)] at hz
    · rwa [List.append_nil] at hz
  exact Asc.at h (show u - P.length ≤ v - P.length by omega) (e u x hu (by omega) hx) (e v y (by omega) hv hy)
theorem rng_left {P X Y : List Opm} {lo hi : Nat} (hh : hi ≤ P.length) (h : Rng lo hi (P ++ X)) : Rng lo hi (P ++ Y) := by
  intro u v x y hu huv hv hx hy
  rw [List.getElem?_append_left (by omega)] at hx hy
  exact h u v x y hu huv hv (by rw [List.getElem?_append_left (by omega)]; exact hx) (by rw [List.getElem?_append_left (by omega)]; exact hy)
theorem rng_right {X Y S : List Opm} {lo hi : Nat} (hXY : X.length = Y.length) (hl : X.length ≤ lo) (h : Rng lo hi (X ++ S)) : Rng lo hi (Y ++ S) := by
  intro u v x y hu huv hv hx hy
  rw [List.getElem?_append_right (by omega)] at hx hy
  exact h u v x y hu huv hv (by rw [List.getElem?_append_right (by omega), hXY]; exact hx) (by rw [List.getElem?_append_right (by omega), hXY]; exact hy)
theorem rng_past {L : List Opm} {lo hi : Nat} (h : L.length ≤ lo) : Rng lo hi L := by
  intro u v x y hu huv hv hx
  have := (List.getElem?_eq_some_iff.1 hx).1
  omega

/-- A list cut twice. -/
theorem cut3 (L : List Opm) (a d : Nat) (h : a + d ≤ L.length) : ∃ P A S, L = P ++ A ++ S ∧ P.length = a ∧ A.length = d ∧ P = L.take a ∧ A = (L.drop a).take d ∧ S = L.drop (a + d) := by
  refine ⟨_, _, _, ?_, by simp; omega, by simp; omega, rfl, rfl, rfl⟩
  rw [List.append_assoc, ← List.drop_drop, List.take_append_drop, List.take_append_drop]

end Go.Proofs.Ytabmjjicplomlaa

/- The stable sort of ops: the walk. Numbers and types by name. -/
namespace Go.Proofs.Ytabmjjicplomlaa
open Go.RowKit Go.Lib Go.Sort

/-- Blocks of d are by rising keys, up to k of them; L is what L0 was. -/
def Blocked (w0 : World) (blk off n : Nat) (L0 : List Opm) (d k : Nat) (L : List Opm) (W : World) : Prop := Same L0 L ∧ Srts w0 blk off n L W ∧ ∀ i, i < k → Rng (i * d) (i * d + d) L
/-- Blocks of 2 d are, up to k of them; behind them blocks of d. -/
def Merging (w0 : World) (blk off n : Nat) (L0 : List Opm) (d k : Nat) (L : List Opm) (W : World) : Prop := Same L0 L ∧ Srts w0 blk off n L W ∧ (∀ i, i < k → Rng (i * (2 * d)) (i * (2 * d) + 2 * d) L) ∧ ∀ i, 2 * k ≤ i → Rng (i * d) (i * d + d) L

theorem mul_le {i k d : Nat} (h : i < k) : i * d + d ≤ k * d := by
  have := Nat.mul_le_mul_right d (show i + 1 ≤ k from h)
  rwa [Nat.add_mul, Nat.one_mul] at this

/-- One block more. -/
theorem blocked_next {w0 : World} {blk off n : Nat} {L0 : List Opm} {d k : Nat} {P A S C : List Opm} {W W' : World} (h : Blocked w0 blk off n L0 d k (P ++ A ++ S) W) (hP : P.length = k * d) (hA : A.length = d ∨ S = []) (hd : A.length ≤ d)
    (hC : Asc C) (hs : Same A C) (hl : C.length = A.length) (hw : Srts w0 blk off n (P ++ C ++ S) W') : Blocked w0 blk off n L0 d (k + 1) (P ++ C ++ S) W' := by
  obtain ⟨h1, _, h3⟩ := h
  refine ⟨h1.trans (((Same.refl P).app hs).app (Same.refl S)), hw, fun i hi => ?_⟩
  rcases Nat.lt_or_ge i k with hik | hik
  · have := mul_le (d := d) hik
    rw [List.append_assoc]
    refine rng_left (by omega) (X := A ++ S) ?_
    rw [← List.append_assoc]
    exact h3 i hik
  · obtain rfl : i = k := by omega
    exact asc_rng hC hP.symm (by rcases hA with hA | hA; exact .inl (by omega); exact .inr hA)
theorem blocked_all {w0 : World} {blk off n : Nat} {L0 : List Opm} {d k : Nat} {L : List Opm} {W : World} (h : Blocked w0 blk off n L0 d k L W) (hk : L.length ≤ k * d) : Merging w0 blk off n L0 d 0 L W := by
  obtain ⟨h1, h2, h3⟩ := h
  refine ⟨h1, h2, fun i hi => by omega, fun i _ => ?_⟩
  rcases Nat.lt_or_ge i k with hik | hik
  · exact h3 i hik
  · exact rng_past (by have := Nat.mul_le_mul_right d hik; omega)

/-- One pair of blocks merged more. -/
theorem merging_next {w0 : World} {blk off n : Nat} {L0 : List Opm} {d k : Nat} {P A S C : List Opm} {W W' : World} (h : Merging w0 blk off n L0 d k (P ++ A ++ S) W) (hP : P.length = k * (2 * d)) (hA : A.length = 2 * d ∨ S = []) (hd : A.length ≤ 2 * d)
    (hC : Asc C) (hs : Same A C) (hl : C.length = A.length) (hw : Srts w0 blk off n (P ++ C ++ S) W') : Merging w0 blk off n L0 d (k + 1) (P ++ C ++ S) W' := by
  obtain ⟨h1, _, h3, h4⟩ := h
  refine ⟨h1.trans (((Same.refl P).app hs).app (Same.refl S)), hw, fun i hi => ?_, fun i hi => ?_⟩
  · rcases Nat.lt_or_ge i k with hik | hik
    · have := mul_le (d := 2 * d) hik
      rw [List.append_assoc]
      refine rng_left (by omega) (X := A ++ S) ?_
      rw [← List.append_assoc]
      exact h3 i hik
    · obtain rfl : i = k := by omega
      exact asc_rng hC hP.symm (by rcases hA with hA | hA; exact .inl (by omega); exact .inr hA)
  · have e : (2 * k + 2) * d ≤ i * d := Nat.mul_le_mul_right d (by omega)
    have e2 : (2 * k + 2) * d = k * (2 * d) + 2 * d := by rw [Nat.add_mul, Nat.mul_assoc, Nat.mul_left_comm]
    rcases hA with hA | rfl
    · exact rng_right (X := P ++ A) (by simp; omega) (by simp; omega) (h4 i (by omega))
    · exact rng_past (by simp; omega)
theorem merging_rest {w0 : World} {blk off n : Nat} {L0 : List Opm} {d k : Nat} {L : List Opm} {W : World} (h : Merging w0 blk off n L0 d k L W) (hk : L.length ≤ k * (2 * d) + d) : Merging w0 blk off n L0 (2 * d) 0 L W := by
  obtain ⟨h1, h2, h3, h4⟩ := h
  refine ⟨h1, h2, fun i hi => by omega, fun i _ => ?_⟩
  rcases Nat.lt_or_ge i k with hik | hik
  · exact h3 i hik
  · have e := Nat.mul_le_mul_right (2 * d) hik
    rcases Nat.eq_or_lt_of_le hik with rfl | hlt
    · have e2 : 2 * k * d = k * (2 * d) := by rw [Nat.mul_assoc, Nat.mul_left_comm]
      have := h4 (2 * k) (Nat.le_refl _)
      rw [e2] at this
      intro u v x y hu huv hv hx hy
      have := (List.getElem?_eq_some_iff.1 hy).1
      exact h4 (2 * k) (Nat.le_refl _) u v x y (by omega) huv (by omega) hx hy
    · exact rng_past (by have := mul_le (d := 2 * d) hlt; omega)
theorem merging_all {w0 : World} {blk off n : Nat} {L0 : List Opm} {d k : Nat} {L : List Opm} {W : World} (h : Merging w0 blk off n L0 d k L W) (hk : L.length ≤ k * (2 * d)) : Merging w0 blk off n L0 (2 * d) 0 L W := merging_rest h (by omega)
theorem merging_done {w0 : World} {blk off n : Nat} {L0 : List Opm} {d : Nat} {L : List Opm} {W : World} (h : Merging w0 blk off n L0 d 0 L W) (hk : L.length ≤ d) : Asc L := by
  have := rng_asc (h.2.2.2 0 (Nat.le_refl _))
  simp only [Nat.zero_mul, Nat.zero_add, List.drop_zero, Nat.sub_zero] at this
  rwa [List.take_of_length_le hk] at this

set_option maxRecDepth 100000 in
set_option maxHeartbeats 8000000 in
theorem stable_sort (w0 : World) (blk off n cap : Nat) (B0 : Lies w0 blk off n) (L : List Opm) (W : World) (h : Srts w0 blk off n L W) :
    Calls Try.prog 60 #[.slice (some ⟨blk, off, none⟩) n cap, .int .i64 (n : Nat), cmpF] W (Sorted1 w0 blk off n [] L []) := by
  have HB := Lib.hid B0
  have hn2 := B0.1
  have H0 := Lib.hid (show Blocked w0 blk off n L 20 0 L W from ⟨Same.refl L, h, fun i hi => by omega⟩)
  clear h B0
  unfold cmpF
  go_enter Try.func60, Try.ntmps60
  go_wp2_with fail
  go_loopw [7, 8] (fun a b wr => ∃ (a1 b1 : Nat), a = .int .i64 (a1 : Int) ∧ b = .int .i64 (b1 : Int) ∧ a1 ≤ n ∧ b1 ≤ n + 20 ∧ Hid (a1 + 20 = b1 ∧ ∃ k M, a1 = k * 20 ∧ Blocked w0 blk off n L 20 k M wr))
    (fun a b _ => n + 20 - (RowKit.intOf b).toNat)
  case atStart => exact ⟨0, 20, rfl, rfl, Nat.zero_le _, by omega, Lib.hid ⟨rfl, 0, L, rfl, H0.out⟩⟩
  case round =>
    obtain ⟨a1, b1, rfl, rfl, ha, hb, hs⟩ := hrel
    by_cases hle : b1 ≤ n
    · have h3 : (b1 : Int) ≤ (n : Int) := by omega
      obtain ⟨hab, k, M, hak, hM⟩ := hs.out
      have hMl := hM.2.1.1
      obtain ⟨P, A, S, hMe, hP, hA, _⟩ := cut3 M a1 20 (by omega)
      have hc := insert_sort w0 blk off n cap HB.out P A S wr (by rw [← hMe]; exact hM.2.1) b1 (by omega)
      rw [hP] at hc
      have HC := Lib.hid hc
      have HR := Lib.hid (And.intro hab (And.intro hak (And.intro hMe (And.intro hP (And.intro hA hM)))))
      clear hc hab hak hM hMl hMe hP hA hs
      unfold cmpF at HC
      go_wp2_with (go_at_call 63; refine HC.out.mono ?_; rintro e w' ⟨rfl, C, aC, sC, nC, hw'⟩)
      obtain ⟨hab, hak, hMe, hP, hA, hM⟩ := HR.out
      rw [hMe] at hM
      refine ⟨⟨b1, b1 + 20, rfl, by simp, hle, by omega, Lib.hid ⟨rfl, k + 1, P ++ C ++ S, by omega, blocked_next hM (by omega) (.inl hA) (by omega) aC sC nC hw'⟩⟩, by simp only [RowKit.intOf]; omega⟩
    · have h3 : ¬ (b1 : Int) ≤ (n : Int) := by omega
      obtain ⟨hab, k, M, hak, hM⟩ := hs.out
      have hMl := hM.2.1.1
      obtain ⟨P, A, S, hMe, hP, hA, hcl⟩ := cut3 M a1 (n - a1) (by omega)
      clear hcl
      obtain rfl : S = [] := List.eq_nil_of_length_eq_zero (by have := congrArg List.length hMe; simp at this; omega)
      have hc := insert_sort w0 blk off n cap HB.out P A [] wr (by rw [← hMe]; exact hM.2.1) n (by omega)
      rw [hP] at hc
      have HC := Lib.hid hc
      have HR := Lib.hid (And.intro hab (And.intro hak (And.intro hMe (And.intro hP (And.intro hA (And.intro hM hle))))))
      clear hc hab hak hM hMl hMe hP hA hs hle
      unfold cmpF at HC
      go_wp2_with (go_at_call 63; refine HC.out.mono ?_; rintro e w' ⟨rfl, C, aC, sC, nC, hw'⟩)
      have HM : Hid (∃ M', Merging w0 blk off n L 20 0 M' w') := Lib.hid (by
        obtain ⟨hab, hak, hMe, hP, hA, hM, hle⟩ := HR.out
        rw [hMe] at hM
        have := blocked_next hM (by omega) (.inr rfl) (by omega) aC sC nC hw'
        exact ⟨_, blocked_all this (by rw [this.2.1.1]; omega)⟩)
      clear hw' aC sC nC HR HC
      go_loopw [6] (fun d wr => ∃ (d1 : Nat), d = .int .i64 (d1 : Int) ∧ 20 ≤ d1 ∧ d1 ≤ 2 * n + 20 ∧ Hid (∃ M, Merging w0 blk off n L d1 0 M wr))
        (fun d _ => 2 * n + 21 - (RowKit.intOf d).toNat)
      case atStart => exact ⟨20, rfl, Nat.le_refl _, by omega, HM⟩
      case round =>
        clear HM
        obtain ⟨d1, rfl, hd1, hd2, hs⟩ := hrel
        by_cases hlt : d1 < n
        · have h5 : (d1 : Int) < (n : Int) := by omega
          go_wp2_with fail
          go_loopw [7, 8] (fun a b wr => ∃ (a2 b2 : Nat), a = .int .i64 (a2 : Int) ∧ b = .int .i64 (b2 : Int) ∧ a2 ≤ n ∧ b2 ≤ 3 * n ∧ Hid (a2 + 2 * d1 = b2 ∧ ∃ k M, a2 = k * (2 * d1) ∧ Merging w0 blk off n L d1 k M wr))
            (fun a b _ => 3 * n + 1 - (RowKit.intOf b).toNat)
          case atStart =>
            obtain ⟨M, hM⟩ := hs.out
            exact ⟨0, 2 * d1, rfl, by simp, Nat.zero_le _, by omega, Lib.hid ⟨by omega, 0, M, by omega, hM⟩⟩
          case round =>
            clear hs
            obtain ⟨a2, b2, rfl, rfl, ha2, hb2, hs⟩ := hrel
            by_cases hle2 : b2 ≤ n
            · have h6 : (b2 : Int) ≤ (n : Int) := by omega
              obtain ⟨hab, k, M, hak, hM⟩ := hs.out
              have hMl := hM.2.1.1
              obtain ⟨P, A, S, hMe, hP, hA, hPe, hAe, hSe⟩ := cut3 M a2 (2 * d1) (by omega)
              have e2 : 2 * k * d1 = a2 := by rw [hak, Nat.mul_assoc, Nat.mul_left_comm]
              have r1 := rng_asc (hM.2.2.2 (2 * k) (Nat.le_refl _))
              have r2 := rng_asc (hM.2.2.2 (2 * k + 1) (by omega))
              rw [Nat.add_mul, Nat.one_mul, e2] at r2
              rw [e2] at r1
              rw [show a2 + d1 - a2 = d1 by omega] at r1
              rw [show a2 + d1 + d1 - (a2 + d1) = d1 by omega] at r2
              have es : A = (M.drop a2).take d1 ++ (M.drop (a2 + d1)).take d1 := by
                rw [hAe, show 2 * d1 = d1 + d1 by omega, List.take_add, List.drop_drop]
              have l1 : ((M.drop a2).take d1).length = d1 := by rw [List.length_take, List.length_drop]; omega
              have l2 : ((M.drop (a2 + d1)).take d1).length = d1 := by rw [List.length_take, List.length_drop]; omega
              generalize (M.drop a2).take d1 = A1 at *
              generalize (M.drop (a2 + d1)).take d1 = A2 at *
              have hc := merges w0 blk off n cap HB.out (2 * d1) P A1 A2 S wr (a2 + d1) b2 r1 r2 (by omega) (by omega) (by omega) (by omega) (by omega) (by have := hM.2.1; rw [hMe, es] at this; simpa using this)
              rw [hP, ← es] at hc
              rw [show ((a2 + d1 : Nat) : Int) = (a2 : Int) + (d1 : Int) by omega] at hc
              have HC := Lib.hid hc
              have HR := Lib.hid (And.intro hab (And.intro hak (And.intro hMe (And.intro hP (And.intro hA hM)))))
              clear hc hab hak hM hMl hMe hP hA hs hPe hAe hSe e2 r1 r2 es l1 l2
              unfold cmpF at HC
              go_wp2_with (go_at_call 64; refine HC.out.mono ?_; rintro e w' ⟨rfl, C, aC, sC, nC, hw'⟩)
              obtain ⟨hab, hak, hMe, hP, hA, hM⟩ := HR.out
              rw [hMe] at hM
              refine ⟨⟨b2, b2 + 2 * d1, rfl, by simp, hle2, by omega, Lib.hid ⟨rfl, k + 1, P ++ C ++ S, ?_, merging_next hM (by omega) (.inl hA) (by omega) aC sC nC hw'⟩⟩, by simp only [RowKit.intOf]; omega⟩
              rw [Nat.add_mul, Nat.one_mul]; omega
            · have h6 : ¬ (b2 : Int) ≤ (n : Int) := by omega
              by_cases hrest : a2 + d1 < n
              · have h7 : (a2 : Int) + (d1 : Int) < (n : Int) := by omega
                obtain ⟨hab, k, M, hak, hM⟩ := hs.out
                have hMl := hM.2.1.1
                obtain ⟨P, A, S, hMe, hP, hA, hPe, hAe, hSe⟩ := cut3 M a2 (n - a2) (by omega)
                have hS0 : S.length = 0 := by have := congrArg List.length hMe; simp at this; omega
                have e2 : 2 * k * d1 = a2 := by rw [hak, Nat.mul_assoc, Nat.mul_left_comm]
                have r1 := rng_asc (hM.2.2.2 (2 * k) (Nat.le_refl _))
                have r2 := rng_asc (hM.2.2.2 (2 * k + 1) (by omega))
                rw [Nat.add_mul, Nat.one_mul, e2] at r2
                rw [e2] at r1
                rw [show a2 + d1 - a2 = d1 by omega] at r1
                rw [show a2 + d1 + d1 - (a2 + d1) = d1 by omega] at r2
                have es : A = (M.drop a2).take d1 ++ (M.drop (a2 + d1)).take d1 := by
                  rw [hAe, ← List.drop_drop, ← List.take_add, List.take_of_length_le (by simp; omega), List.take_of_length_le (by simp; omega)]
                have l1 : ((M.drop a2).take d1).length = d1 := by rw [List.length_take, List.length_drop]; omega
                have l2 : ((M.drop (a2 + d1)).take d1).length = n - (a2 + d1) := by rw [List.length_take, List.length_drop]; omega
                generalize (M.drop a2).take d1 = A1 at *
                generalize (M.drop (a2 + d1)).take d1 = A2 at *
                have hc := merges w0 blk off n cap HB.out n P A1 A2 S wr (a2 + d1) n r1 r2 (by omega) (by omega) (by omega) (by omega) (by omega) (by have := hM.2.1; rw [hMe, es] at this; simpa using this)
                rw [hP, ← es] at hc
                rw [show ((a2 + d1 : Nat) : Int) = (a2 : Int) + (d1 : Int) by omega] at hc
                have HC := Lib.hid hc
                have HR := Lib.hid (And.intro hab (And.intro hak (And.intro hMe (And.intro hP (And.intro hA (And.intro hM (And.intro hS0 (And.intro hle2 hrest))))))))
                clear hc hab hak hM hMl hMe hP hA hs hPe hAe hSe e2 r1 r2 es l1 l2 hS0
                unfold cmpF at HC
                go_wp2_with (go_at_call 64; refine HC.out.mono ?_; rintro e w' ⟨rfl, C, aC, sC, nC, hw'⟩)
                obtain ⟨hab, hak, hMe, hP, hA, hM, hS0, hle2, hrest⟩ := HR.out
                rw [hMe] at hM
                have hN := merging_next hM (by omega) (.inr (List.eq_nil_of_length_eq_zero hS0)) (by omega) aC sC nC hw'
                have hN2 := merging_all hN (by have := hN.2.1.1; rw [this, Nat.add_mul, Nat.one_mul]; omega)
                exact ⟨⟨2 * d1, by first | (simp; done) | (congr 1; omega), by omega, by omega, Lib.hid ⟨_, hN2⟩⟩, by simp only [RowKit.intOf]; omega⟩
              · have h7 : ¬ (a2 : Int) + (d1 : Int) < (n : Int) := by omega
                obtain ⟨hab, k, M, hak, hM⟩ := hs.out
                have HM : Hid (Merging w0 blk off n L (2 * d1) 0 M wr) := Lib.hid (merging_rest hM (by have := hM.2.1.1; omega))
                clear hab hak hM hs
                go_wp2_with fail
                exact ⟨⟨2 * d1, by congr 1; omega, by omega, by omega, Lib.hid ⟨M, HM.out⟩⟩, by simp only [RowKit.intOf]; omega⟩
        · have h5 : ¬ (d1 : Int) < (n : Int) := by omega
          go_wp2_with fail
          go_end0
          obtain ⟨M, hM⟩ := hs.out
          have hml := hM.2.1.1
          refine ⟨rfl, M, merging_done hM (by omega), hM.1, ?_, by simpa using hM.2.1⟩
          have := H0.out.2.1.1
          omega

end Go.Proofs.Ytabmjjicplomlaa

namespace Go.Proofs.Ytabmjjicplomlaa
open Go.RowKit Go.Lib Go.Sort

theorem flat_ovs (L : List Opm) (j : Nat) (hj : j < L.length * 3) : (ovs L)[j]? = some (flatK ov 3 L.toArray)[j]! := by
  have hk : j / 3 < L.length := by omega
  obtain ⟨o, ho⟩ : ∃ o, L[j / 3]? = some o := ⟨_, List.getElem?_eq_getElem hk⟩
  have h1 := ovs_at ho (j % 3) (by omega)
  rw [show j / 3 * 3 + j % 3 = j by omega] at h1
  rw [get_flatK ov 3 L.toArray j (by simpa using hj), arr_at ho, h1]
  rw [List.getElem?_eq_getElem (by rw [ov_length]; omega)]
  congr 1
  exact (getElem!_pos (ov o) (j % 3) (by rw [ov_length]; omega)).symm

theorem lies_own {w : World} {base e g n cap : Nat} {L : List Opm} (h : w.ownsRow base e 3 (.slice (some ⟨g, 0, none⟩) n cap) n (ovs L)) (hl : L.length = n) (hn : n ≤ 1000000000000) : Lies w g 0 n ∧ Srts w g 0 n L w := by
  obtain ⟨h1, h2 | ⟨g', cap', cur, e', hb, hg, hnc, hcm, hcs, ht⟩⟩ := h
  · exact absurd h2.1 (by simp)
  · simp only [Value.slice.injEq, Option.some.injEq, Addr.mk.injEq, and_true] at e'
    obtain ⟨rfl, _, rfl⟩ := e'
    have hH : HoldsK ov 3 w g 0 L.toArray := by
      intro j hj
      rw [size_flatK] at hj
      have hj' : j < L.length * 3 := by simpa using hj
      have e1 := flat_ovs L j hj'
      rw [← ht, List.getElem?_take, if_pos (by omega)] at e1
      rw [Nat.zero_add]
      refine ⟨?_, ?_⟩
      · simp only [World.cell?, hg]
        simpa using e1
      · simp [World.frozen?, hg]
    have hblk : g < w.heap.size := (Array.getElem?_eq_some_iff.1 hg).1
    exact ⟨⟨hn, L.toArray, by simpa using hl, ⟨ov_length, ov_one, hH, hblk⟩⟩, hl, SWK.start hH⟩

theorem own_sorted {w W : World} {base e g n cap : Nat} {L M : List Opm} (h : w.ownsRow base e 3 (.slice (some ⟨g, 0, none⟩) n cap) n (ovs L)) (B : Lies w g 0 n) (hs : Srts w g 0 n M W) :
    W.ownsRow base e 3 (.slice (some ⟨g, 0, none⟩) n cap) n (ovs M) ∧ w.grownBy W (some g) := by
  obtain ⟨h1, h2 | ⟨g', cap', cur, e', hb, hg, hnc, hcm, hcs, ht⟩⟩ := h
  · exact absurd h2.1 (by simp)
  · simp only [Value.slice.injEq, Option.some.injEq, Addr.mk.injEq, and_true] at e'
    obtain ⟨rfl, _, rfl⟩ := e'
    have hblk : g < w.heap.size := (Array.getElem?_eq_some_iff.1 hg).1
    obtain ⟨_, d0, hd, R⟩ := B
    obtain ⟨hl, hw⟩ := hs
    have H := hw.holds R.hblk R.hH (by simp [hl, hd])
    obtain ⟨m, os, rfl⟩ := hw
    have hobj : ∃ cur', (sortWorldK ov 3 w g 0 m M.toArray os).heap[g]? = some (.cells cur' e (0, 0)) ∧ cur'.size = cur.size := by
      refine ⟨putCells id 0 (flatK ov 3 M.toArray) cur, ?_, by simp [putCells]⟩
      unfold sortWorldK putRowK putRow
      rw [heap_grow_old _ _ (by show g < (mapBlock _ _ _).heap.size; simpa [mapBlock, Sort.ahead] using hblk)]
      simp only [mapBlock, Array.getElem?_modify, if_true]
      show Option.map (onCells (putCells id 0 (flatK ov 3 M.toArray))) w.heap[g]? = _
      rw [hg]
      rfl
    obtain ⟨cur', hg', hcs'⟩ := hobj
    refine ⟨⟨by rw [ovs_length, hl], .inr ⟨g, cap, cur', rfl, hb, hg', hnc, hcm, by rw [hcs', hcs], ?_⟩⟩, rfl, rfl, rfl, ?_, ?_⟩
    · apply List.ext_getElem?
      intro j
      by_cases hj : j < n * 3
      · rw [List.getElem?_take, if_pos hj, flat_ovs M j (by omega)]
        have := (H j (by rw [size_flatK]; simp; omega)).1
        rw [Nat.zero_add] at this
        simp only [World.cell?, hg'] at this
        simpa using this
      · rw [List.getElem?_eq_none (by rw [List.length_take]; omega), List.getElem?_eq_none (by rw [ovs_length]; omega)]
    · unfold sortWorldK putRowK putRow
      rw [size_grow]
      simp [mapBlock, Sort.ahead]
    · intro i hi hne
      unfold sortWorldK putRowK putRow
      rw [heap_grow_old _ _ (by simpa [mapBlock, Sort.ahead] using hi)]
      simp only [mapBlock, Array.getElem?_modify]
      rw [if_neg (fun e => hne (by rw [e]))]
      rfl

/-- What the sort leaves in an own row. -/
def SortedO (base e g n cap : Nat) (L : List Opm) (w : World) (en : Ending) (w' : World) : Prop :=
  en = .returned (.tuple #[]) ∧ ∃ M, Asc M ∧ Same L M ∧ M.length = L.length ∧ w'.ownsRow base e 3 (.slice (some ⟨g, 0, none⟩) n cap) n (ovs M) ∧ w.grownBy w' (some g)

theorem sort_ops (base e g n cap : Nat) (L : List Opm) (w : World) (hown : w.ownsRow base e 3 (.slice (some ⟨g, 0, none⟩) n cap) n (ovs L)) (hl : L.length = n) (hn : n ≤ 1000000000000) :
    Calls Try.prog 52 #[.slice (some ⟨g, 0, none⟩) n cap, cmpF] w (SortedO base e g n cap L w) := by
  obtain ⟨B, S⟩ := lies_own hown hl hn
  have HC := Lib.hid (stable_sort w g 0 n cap B L w S)
  have HO := Lib.hid (And.intro hown B)
  clear hown B S
  unfold cmpF at *
  go_enter Try.func52, Try.ntmps52
  go_wp2_with (go_at_call 60; refine HC.out.mono ?_; rintro e' w' ⟨rfl, M, aM, sM, nM, hw'⟩)
  go_end0
  have := own_sorted HO.out.1 HO.out.2 (by simpa using hw')
  exact ⟨rfl, M, aM, sM, nM, this.1, this.2⟩

/-- The same of a slice of nothing. -/
theorem insert_none (w : World) : Calls Try.prog 63 #[.slice none 0 0, .int .i64 0, .int .i64 0, cmpF] w fun e w' => e = .returned (.tuple #[]) ∧ w' = w := by
  unfold cmpF
  go_enter Try.func63, Try.ntmps63
  go_wp2_with fail
  go_loopw [8] (fun i wr => i = .int .i64 1 ∧ wr = w) (fun _ _ => 0)
  case atStart => exact ⟨rfl, rfl⟩
  case round =>
    obtain ⟨rfl, rfl⟩ := hrel
    go_wp2_with fail
    go_end0
    exact ⟨rfl, rfl⟩
theorem stable_none (w : World) : Calls Try.prog 60 #[.slice none 0 0, .int .i64 0, cmpF] w fun e w' => e = .returned (.tuple #[]) ∧ w' = w := by
  have HC := Lib.hid (insert_none w)
  unfold cmpF at *
  go_enter Try.func60, Try.ntmps60
  go_wp2_with fail
  go_loopw [7, 8] (fun i j wr => i = .int .i64 0 ∧ j = .int .i64 20 ∧ wr = w) (fun _ _ _ => 0)
  case atStart => exact ⟨rfl, rfl, rfl⟩
  case round =>
    obtain ⟨rfl, rfl, rfl⟩ := hrel
    go_wp2_with (go_at_call 63; refine HC.out.mono ?_; rintro e w' ⟨rfl, rfl⟩)
    go_loopw [6] (fun i wr => i = .int .i64 20 ∧ wr = w') (fun _ _ => 0)
    case atStart => exact ⟨rfl, rfl⟩
    case round =>
      obtain ⟨rfl, rfl⟩ := hrel
      go_wp2_with fail
      go_end0
      exact ⟨rfl, rfl⟩
theorem sort_none (w : World) : Calls Try.prog 52 #[.slice none 0 0, cmpF] w fun e w' => e = .returned (.tuple #[]) ∧ w' = w := by
  have HC := Lib.hid (stable_none w)
  unfold cmpF at *
  go_enter Try.func52, Try.ntmps52
  go_wp2_with (go_at_call 60; refine HC.out.mono ?_; rintro e w' ⟨rfl, rfl⟩)
  go_end0
  exact ⟨rfl, rfl⟩

end Go.Proofs.Ytabmjjicplomlaa
