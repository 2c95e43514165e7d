/- The stable sort: two runs of ops that stand side by side change places: the walk. Numbers and types by name. -/
import Derived.Test.YtabmjjicplomlaaOpr
import Derived.Shelf.SlSortCmp.KitK
/- A row of ops under the stable sort: its worlds; the exchange of two runs. Numbers and types by name. -/
namespace Go.Proofs.Ytabmjjicplomlaa
open Go.RowKit Go.Lib Go.Sort

instance opmIn : Inhabited Opm := ⟨⟨false, ⟨#[]⟩, ⟨#[]⟩⟩⟩
theorem ov_length (o : Opm) : (ov o).length = 3 := rfl
theorem ov_one (o : Opm) : ∀ v ∈ ov o, v.oneCell' = true := by
  intro v hv
  simp only [ov, List.mem_cons, List.not_mem_nil, or_false] at hv
  rcases hv with rfl | rfl | rfl <;> rfl

/-- The row lies where the sort began. -/
def Lies (w0 : World) (blk off n : Nat) : Prop := n ≤ 1000000000000 ∧ ∃ d0 : Array Opm, d0.size = n ∧ RowK ov 3 w0 blk off d0
/-- W is a world of the sort that began at w0; the row holds L. -/
def Srts (w0 : World) (blk off n : Nat) (L : List Opm) (W : World) : Prop := L.length = n ∧ SWK ov 3 w0 blk off L.toArray W

theorem Srts.drewN {w0 W : World} {blk off n : Nat} {L : List Opm} (h : Srts w0 blk off n L W) (q : Nat) : Srts w0 blk off n L (W.drewN q) := ⟨h.1, h.2.drewN q⟩
theorem Srts.grown {w0 W : World} {blk off n : Nat} {L : List Opm} (h : Srts w0 blk off n L W) (q : Nat) (os : Array Obj) : Srts w0 blk off n L (grow (W.drewN q) os) := ⟨h.1, h.2.grown q os⟩
theorem arr_at {L : List Opm} {i : Nat} {x : Opm} (h : L[i]? = some x) : (L.toArray)[i]! = x := by
  obtain ⟨hi, e⟩ := List.getElem?_eq_some_iff.1 h
  rw [getElem!_pos L.toArray i (by simpa using hi)]
  simpa using e

/-- The cells of an element. -/
theorem Srts.cells {w0 W : World} {blk off n : Nat} {L : List Opm} (h : Srts w0 blk off n L W) (B : Lies w0 blk off n) {i : Nat} {x : Opm} (hx : L[i]? = some x) :
    (W.cell? ⟨blk, off + i * 3, none⟩ = some (.bool x.del) ∧ W.cell? ⟨blk, off + i * 3 + 1, none⟩ = some (.string x.key) ∧ W.cell? ⟨blk, off + i * 3 + 2, none⟩ = some (.string x.val)) ∧
    W.frozen? ⟨blk, off + i * 3, none⟩ = false ∧ W.frozen? ⟨blk, off + i * 3 + 1, none⟩ = false ∧ W.frozen? ⟨blk, off + i * 3 + 2, none⟩ = false := by
  obtain ⟨_, d0, hd, R⟩ := B
  have hi : i < L.toArray.size := by simpa using (List.getElem?_eq_some_iff.1 hx).1
  have H := h.2.holds R.hblk R.hH (by simp [h.1, hd])
  have e := arr_at hx
  have c0 := H.cell (i := i) (c := 0) hi (by omega)
  have c1 := H.cell (i := i) (c := 1) hi (by omega)
  have c2 := H.cell (i := i) (c := 2) hi (by omega)
  rw [e] at c0 c1 c2
  rw [Nat.add_zero (off + i * 3)] at c0
  exact ⟨⟨c0.1, c1.1, c2.1⟩, c0.2, c1.2, c2.2⟩

/-- What a store of a whole element does. -/
def putE (W : World) (blk at0 : Nat) (x : Opm) : World := ((W.setCell ⟨blk, at0, none⟩ (.bool x.del)).setCell ⟨blk, at0 + 1, none⟩ (.string x.key)).setCell ⟨blk, at0 + 2, none⟩ (.string x.val)

/-- Two elements change places. -/
def swpL (L : List Opm) (i j : Nat) (x y : Opm) : List Opm := (L.set i y).set j x
theorem swpL_arr {L : List Opm} {i j : Nat} {x y : Opm} (hx : L[i]? = some x) (hy : L[j]? = some y) : swp L.toArray i j = (swpL L i j x y).toArray := by
  have hi := (List.getElem?_eq_some_iff.1 hx).1
  have hj := (List.getElem?_eq_some_iff.1 hy).1
  unfold swp swpL
  rw [arr_at hx, arr_at hy]
  simp
theorem Srts.swap {w0 W : World} {blk off n : Nat} {L : List Opm} (h : Srts w0 blk off n L W) (B : Lies w0 blk off n) {i j : Nat} {x y : Opm} (hx : L[i]? = some x) (hy : L[j]? = some y) :
    Srts w0 blk off n (swpL L i j x y) (putE (putE W blk (off + i * 3) y) blk (off + j * 3) x).drew := by
  obtain ⟨_, d0, hd, R⟩ := B
  suffices hs : Srts w0 blk off n (swpL L i j x y) (putE (putE W.drew blk (off + i * 3) y) blk (off + j * 3) x) by
    have e : ∀ (W : World) (b a : Nat) (z : Opm), putE W.drew b a z = (putE W b a z).drew := fun W b a z => rfl
    rw [e, e] at hs
    exact hs
  refine ⟨by simp [swpL, h.1], ?_⟩
  have := h.2.swapped R i j (by simpa using (List.getElem?_eq_some_iff.1 hx).1) (by simpa using (List.getElem?_eq_some_iff.1 hy).1)
  rw [arr_at hx, arr_at hy, swpL_arr hx hy] at this
  exact this

/-- Two runs of n elements change places. -/
def runsL (P U Q V R : List Opm) (k : Nat) : List Opm := P ++ (V.take k ++ U.drop k) ++ Q ++ (U.take k ++ V.drop k) ++ R
theorem runs_at1 {P U Q V R : List Opm} {k : Nat} (hUV : U.length = V.length) {x : Opm} (hx : U[k]? = some x) : (runsL P U Q V R k)[P.length + k]? = some x := by
  have hk := (List.getElem?_eq_some_iff.1 hx).1
  unfold runsL
  rw [List.append_assoc, List.append_assoc, List.append_assoc, List.getElem?_append_right (by omega), List.getElem?_append_left (by simp; omega), List.getElem?_append_right (by simp; omega)]
  simp only [List.length_take, List.getElem?_drop]
  rw [← hx]; congr 1; omega
theorem runs_at2 {P U Q V R : List Opm} {k : Nat} (hUV : U.length = V.length) {y : Opm} (hy : V[k]? = some y) : (runsL P U Q V R k)[P.length + U.length + Q.length + k]? = some y := by
  have hk := (List.getElem?_eq_some_iff.1 hy).1
  unfold runsL
  rw [List.append_assoc (P ++ (V.take k ++ U.drop k) ++ Q), List.getElem?_append_right (by simp; omega), List.getElem?_append_left (by simp; omega), List.getElem?_append_right (by simp; omega)]
  simp only [List.length_take, List.length_append, List.length_drop, List.getElem?_drop]
  rw [← hy]; congr 1; omega
theorem runs_step {P U Q V R : List Opm} {k : Nat} (hUV : U.length = V.length) {x y : Opm} (hx : U[k]? = some x) (hy : V[k]? = some y) :
    swpL (runsL P U Q V R k) (P.length + k) (P.length + U.length + Q.length + k) x y = runsL P U Q V R (k + 1) := by
  have hk := (List.getElem?_eq_some_iff.1 hx).1
  have hk2 := (List.getElem?_eq_some_iff.1 hy).1
  have eU : U.drop k = x :: U.drop (k + 1) := by
    rw [← List.getElem_cons_drop (h := hk)]; congr 1; exact (List.getElem?_eq_some_iff.1 hx).2
  have eV : V.drop k = y :: V.drop (k + 1) := by
    rw [← List.getElem_cons_drop (h := hk2)]; congr 1; exact (List.getElem?_eq_some_iff.1 hy).2
  unfold runsL swpL
  rw [List.take_add_one, List.take_add_one, hx, hy, eU, eV]
  simp only [Option.toList, List.append_assoc, List.cons_append, List.nil_append]
  have t1 : (V.take k).length = k := by simp; omega
  have t2 : (U.take k).length = k := by simp; omega
  rw [List.set_append_right _ _ (by omega), show P.length + k - P.length = k by omega, List.set_append_right _ _ (by omega)]
  rw [List.set_append_right _ _ (by omega), t1, Nat.sub_self, List.set_cons_zero, List.set_append_right _ _ (by omega), t1]
  obtain ⟨d, hd⟩ : ∃ d, U.length = k + 1 + d := ⟨U.length - (k + 1), by omega⟩
  rw [show P.length + U.length + Q.length + k - P.length - k = (d + Q.length + k) + 1 by omega, List.set_cons_succ, List.set_append_right _ _ (by simp; omega), List.set_append_right _ _ (by simp; omega), List.set_append_right _ _ (by simp; omega)]
  rw [show d + Q.length + k - (U.drop (k + 1)).length - Q.length - (U.take k).length = 0 by simp; omega, List.set_cons_zero]

end Go.Proofs.Ytabmjjicplomlaa

/- The stable sort: two runs of ops change places: the walk. Numbers and types by name. -/
namespace Go.Proofs.Ytabmjjicplomlaa
open Go.RowKit Go.Lib Go.Sort

/-- What the exchange leaves. -/
def Swapped (w0 : World) (blk off n : Nat) (L : List Opm) (e : Ending) (w' : World) : Prop := e = .returned (.tuple #[]) ∧ Srts w0 blk off n L w'

set_option maxRecDepth 100000 in
set_option maxHeartbeats 4000000 in
theorem swap_runs (w0 : World) (blk off n cap : Nat) (B : Lies w0 blk off n) (P U Q V R : List Opm) (hUV : U.length = V.length) (vc : Value) (W : World) (h : Srts w0 blk off n (P ++ U ++ Q ++ V ++ R) W) :
    Calls Try.prog 67 #[.slice (some ⟨blk, off, none⟩) n cap, .int .i64 (P.length : Nat), .int .i64 ((P.length + U.length + Q.length : Nat) : Int), .int .i64 (U.length : Nat), vc] W (Swapped w0 blk off n (P ++ V ++ Q ++ U ++ R)) := by
  have HB := Lib.hid B
  have hn : P.length + U.length + Q.length + U.length ≤ n := by have := h.1; simp at this; omega
  have hn2 := B.1
  have h0 : Srts w0 blk off n (runsL P U Q V R 0) W := by simpa [runsL] using h
  have H0 := Lib.hid (And.intro h0 hUV)
  clear h h0 B hUV
  generalize hq : P.length + U.length + Q.length = q at *
  have hpq : P.length + U.length ≤ q := by omega
  generalize hp : P.length = p at *
  generalize hu : U.length = u at *
  rw [← hp, ← hu] at hq
  have HL := Lib.hid (And.intro hp (And.intro hu hq))
  clear hp hu hq
  go_enter Try.func67, Try.ntmps67
  go_wp2_with fail
  go_loopw [10] (fun i wr => ∃ k : Nat, k ≤ u ∧ i = .int .i64 k ∧ Hid (Srts w0 blk off n (runsL P U Q V R k) wr))
    (fun i _ => u - (RowKit.intOf i).toNat)
  case atStart => exact ⟨0, Nat.zero_le _, rfl, Lib.hid H0.out.1⟩
  case round =>
    obtain ⟨k, hk, rfl, hs⟩ := hrel
    by_cases h1 : k < u
    · have h3 : (k : Int) < (u : Int) := by omega
      obtain ⟨x, hx⟩ : ∃ x, U[k]? = some x := ⟨_, List.getElem?_eq_getElem (by have := HL.out.2.1; omega)⟩
      obtain ⟨y, hy⟩ : ∃ y, V[k]? = some y := ⟨_, List.getElem?_eq_getElem (by have := HL.out.2.1; have := H0.out.2; omega)⟩
      have ax := runs_at1 (P := P) (Q := Q) (R := R) (V := V) (by rw [HL.out.2.1]; exact H0.out.2) hx
      have ay := runs_at2 (P := P) (Q := Q) (R := R) (U := U) (by rw [HL.out.2.1]; exact H0.out.2) hy
      rw [HL.out.1] at ax
      rw [HL.out.2.2] at ay
      obtain ⟨⟨a0, a1, a2⟩, f0, f1, f2⟩ := hs.out.cells HB.out ax
      obtain ⟨⟨b0, b1, b2⟩, g0, g1, g2⟩ := hs.out.cells HB.out ay
      have HX := Lib.hid (And.intro hx (And.intro hy (And.intro ax ay)))
      clear hx hy ax ay
      obtain ⟨xd, xk, xv⟩ := x
      obtain ⟨yd, yk, yv⟩ := y
      simp only at a0 a1 a2 b0 b1 b2
      obtain ⟨i1, hi1⟩ : ∃ i1, p + k = i1 := ⟨_, rfl⟩
      obtain ⟨i2, hi2⟩ : ∃ i2, q + k = i2 := ⟨_, rfl⟩
      rw [hi1] at a0 a1 a2 f0 f1 f2
      rw [hi2] at b0 b1 b2 g0 g1 g2
      have w1 : IntKind.i64.wrap ((p : Int) + (k : Int)) = (i1 : Int) := by rw [IntKind.wrap_i64]; omega
      have w2 : IntKind.i64.wrap ((q : Int) + (k : Int)) = (i2 : Int) := by rw [IntKind.wrap_i64]; omega
      have l1 : (i1 : Int) < (n : Int) := by omega
      have l2 : (i2 : Int) < (n : Int) := by omega
      have l1' : i1 < n := by omega
      have l2' : i2 < n := by omega
      have HI := Lib.hid (And.intro hi1 hi2)
      have h12 : i1 < i2 := by omega
      have z00 : ¬ off + i2 * 3 = off + i1 * 3 := by omega
      have z01 : ¬ off + i2 * 3 = off + i1 * 3 + 1 := by omega
      have z02 : ¬ off + i2 * 3 = off + i1 * 3 + 2 := by omega
      have z10 : ¬ off + i2 * 3 + 1 = off + i1 * 3 := by omega
      have z11 : ¬ off + i2 * 3 + 1 = off + i1 * 3 + 1 := by omega
      have z12 : ¬ off + i2 * 3 + 1 = off + i1 * 3 + 2 := by omega
      have z20 : ¬ off + i2 * 3 + 2 = off + i1 * 3 := by omega
      have z21 : ¬ off + i2 * 3 + 2 = off + i1 * 3 + 1 := by omega
      have z22 : ¬ off + i2 * 3 + 2 = off + i1 * 3 + 2 := by omega
      clear hi1 hi2 hpq h12
      go_wp2_with fail
      go_big_region
      all_goals go_wp2_with fail
      refine ⟨⟨k + 1, by omega, by simp, Lib.hid ?_⟩, by simp only [RowKit.intOf]; omega⟩
      have hst := hs.out.swap HB.out (i := i1) (j := i2) (by rw [← HI.out.1]; exact HX.out.2.2.1) (by rw [← HI.out.2]; exact HX.out.2.2.2)
      have e := runs_step (P := P) (Q := Q) (R := R) (by rw [HL.out.2.1]; exact H0.out.2) HX.out.1 HX.out.2.1
      rw [HL.out.2.2, HL.out.1, HI.out.1, HI.out.2] at e
      rw [e] at hst
      exact hst
    · have h3 : ¬ (k : Int) < (u : Int) := by omega
      obtain rfl : k = u := by omega
      go_wp2_with fail
      go_end0
      refine ⟨rfl, ?_⟩
      have := hs.out
      rw [← HL.out.2.1] at this
      have hu := HL.out.2.1
      have hv := H0.out.2
      unfold runsL at this
      rw [List.take_of_length_le (by omega), List.drop_length, List.take_length, List.drop_eq_nil_of_le (by omega)] at this
      simpa using this

end Go.Proofs.Ytabmjjicplomlaa

namespace Go.Proofs.Ytabmjjicplomlaa
open Go.RowKit Go.Lib Go.Sort

set_option maxRecDepth 100000 in
set_option maxHeartbeats 4000000 in
theorem rotate_runs (w0 : World) (blk off n cap : Nat) (B : Lies w0 blk off n) (P X Y S : List Opm) (vc : Value) (W : World) (h : Srts w0 blk off n (P ++ X ++ Y ++ S) W) (m b : Nat) (hX : 0 < X.length) (hY : 0 < Y.length) (hm : m = P.length + X.length) (hb : b = P.length + X.length + Y.length) :
    Calls Try.prog 66 #[.slice (some ⟨blk, off, none⟩) n cap, .int .i64 (P.length : Nat), .int .i64 (m : Nat), .int .i64 (b : Nat), vc] W (Swapped w0 blk off n (P ++ Y ++ X ++ S)) := by
  have HB := Lib.hid B
  have hn : b ≤ n := by have := h.1; simp at this; omega
  have hn2 := B.1
  have hxm : X.length ≤ m := by omega
  have u1 : wrap64 ((m : Int) - (P.length : Int)) = (X.length : Int) := by rw [wrap64_id _ (by omega)]; omega
  have u2 : wrap64 ((b : Int) - (m : Int)) = (Y.length : Int) := by rw [wrap64_id _ (by omega)]; omega
  have hbm : m + Y.length = b := by omega
  have H0 := Lib.hid (And.intro h (And.intro hm (And.intro hbm (And.intro hX hY))))
  clear h hm hb hbm B hX hY
  generalize hp : P.length = p at *
  generalize hx : X.length = x at *
  generalize hy : Y.length = y at *
  have HL := Lib.hid (And.intro hp (And.intro hx hy))
  clear hp hx hy
  go_enter Try.func66, Try.ntmps66
  go_wp2_with fail
  go_loopw [10, 11] (fun i j wr => ∃ (X0 U V Y0 : List Opm) (iu jv : Nat), i = .int .i64 iu ∧ j = .int .i64 jv ∧ 0 < iu ∧ 0 < jv ∧ Hid (U.length = iu ∧ V.length = jv ∧ Srts w0 blk off n (P ++ X0 ++ U ++ V ++ Y0 ++ S) wr ∧ X0 ++ V ++ U ++ Y0 = Y ++ X ∧ P.length + X0.length + iu = m))
    (fun i j _ => (RowKit.intOf i).toNat + (RowKit.intOf j).toNat)
  case atStart => exact ⟨[], X, Y, [], x, y, by rw [u1], by rw [u2], H0.out.2.2.2.1, H0.out.2.2.2.2, Lib.hid ⟨HL.out.2.1, HL.out.2.2, by simpa using H0.out.1, by simp, by have := H0.out.2.1; have := HL.out; simp; omega⟩⟩
  case round =>
    obtain ⟨X0, U, V, Y0, iu, jv, rfl, rfl, hi0, hj0, hs⟩ := hrel
    obtain ⟨hU, hV, hst, heq, hm2⟩ := hs.out
    have hlen : P.length + X0.length + iu + jv ≤ n := by have := hst.1; simp at this; omega
    have hjn : jv ≤ n := by omega
    clear u1 u2
    obtain ⟨q, hq⟩ : ∃ q, (P ++ X0).length = q := ⟨_, rfl⟩
    have hq' : q + iu = m := by rw [← hq]; simp; omega
    have hin : iu ≤ m := by omega
    have hmn : m ≤ n := by omega
    have hqi : (q : Int) = (m : Int) - (iu : Int) := by omega
    by_cases hij : iu = jv
    · have h3 : (iu : Int) = (jv : Int) := by omega
      have hc := swap_runs w0 blk off n cap HB.out (P ++ X0) U [] V (Y0 ++ S) (by omega) vc wr (by simpa using hst)
      rw [hq, hU, show q + iu + ([] : List Opm).length = m by simp; omega, hqi] at hc
      have hfin : P ++ X0 ++ V ++ [] ++ U ++ (Y0 ++ S) = P ++ Y ++ X ++ S := by
        calc P ++ X0 ++ V ++ [] ++ U ++ (Y0 ++ S) = P ++ (X0 ++ V ++ U ++ Y0) ++ S := by simp
          _ = _ := by rw [heq]; simp
      rw [hfin] at hc
      have HC := Lib.hid hc
      clear hc hfin hs hm2 hlen hU hV hst heq hq
      subst hij
      go_wp2_with (go_at_call 67; refine HC.out.mono ?_; rintro e w' ⟨rfl, hw'⟩)
      go_end0
      exact ⟨rfl, hw'⟩
    · have h3 : ¬ (iu : Int) = (jv : Int) := by omega
      by_cases hlt : jv < iu
      · have h4 : (jv : Int) < (iu : Int) := by omega
        have e1 : U.take jv ++ U.drop jv = U := List.take_append_drop _ _
        generalize hU1 : U.take jv = U1 at e1
        generalize hU2 : U.drop jv = U2 at e1
        have l1 : U1.length = jv := by rw [← hU1]; simp; omega
        have l2 : U2.length = iu - jv := by rw [← hU2]; simp; omega
        have hc := swap_runs w0 blk off n cap HB.out (P ++ X0) U1 U2 V (Y0 ++ S) (by omega) vc wr (by rw [← e1] at hst; simpa using hst)
        rw [hq, l1, show q + jv + U2.length = m by omega, hqi] at hc
        have HC := Lib.hid hc
        have HF := Lib.hid (And.intro hV (And.intro heq (And.intro hm2 (And.intro e1 (And.intro l1 (And.intro l2 hq))))))
        clear hc hs hm2 hU hV hst heq hq e1 l1 l2 hU1 hU2
        go_wp2_with (go_at_call 67; refine HC.out.mono ?_; rintro e w' ⟨rfl, hw'⟩)
        obtain ⟨hV, heq, hm2, e1, l1, l2, hq⟩ := HF.out
        refine ⟨⟨X0 ++ V, U2, U1, Y0, iu - jv, jv, by congr 1; omega, rfl, by omega, hj0, Lib.hid ⟨l2, l1, by simpa using hw', ?_, by simp; omega⟩⟩, ?_⟩
        · rw [← heq, ← e1]; simp
        · simp only [RowKit.intOf]; omega
      · have h4 : ¬ (jv : Int) < (iu : Int) := by omega
        have e1 : V.take (jv - iu) ++ V.drop (jv - iu) = V := List.take_append_drop _ _
        generalize hV1 : V.take (jv - iu) = V1 at e1
        generalize hV2 : V.drop (jv - iu) = V2 at e1
        have l1 : V1.length = jv - iu := by rw [← hV1]; simp; omega
        have l2 : V2.length = iu := by rw [← hV2]; simp; omega
        have hc := swap_runs w0 blk off n cap HB.out (P ++ X0) U V1 V2 (Y0 ++ S) (by omega) vc wr (by rw [← e1] at hst; simpa using hst)
        rw [hq, hU, show ((q + iu + V1.length : Nat) : Int) = (m : Int) + (jv : Int) - (iu : Int) by omega, hqi] at hc
        have HC := Lib.hid hc
        have HF := Lib.hid (And.intro hU (And.intro heq (And.intro hm2 (And.intro e1 (And.intro l1 (And.intro l2 hq))))))
        clear hc hs hm2 hU hV hst heq hq e1 l1 l2 hV1 hV2
        go_wp2_with (go_at_call 67; refine HC.out.mono ?_; rintro e w' ⟨rfl, hw'⟩)
        obtain ⟨hU, heq, hm2, e1, l1, l2, hq⟩ := HF.out
        refine ⟨⟨X0, V2, V1, U ++ Y0, iu, jv - iu, rfl, by congr 1; omega, hi0, by omega, Lib.hid ⟨l2, l1, by simpa using hw', ?_, hm2⟩⟩, ?_⟩
        · rw [← heq, ← e1]; simp
        · simp only [RowKit.intOf]; omega

end Go.Proofs.Ytabmjjicplomlaa
