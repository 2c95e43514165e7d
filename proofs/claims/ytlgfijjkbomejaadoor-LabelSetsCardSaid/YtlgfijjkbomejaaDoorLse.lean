/- LabelSets, plainly. Numbers and types by name. -/
import Derived.Test.YtlgfijjkbomejaaDoorLrd
import Derived.Test.YtlgfijjkbomejaaDoorMov
/- The document's example in stage 14's laws: labels low < high. Numbers and types by name. -/
namespace Go.Proofs.YtlgfijjkbomejaaDoor
open Go.RowKit Go.Lib
set_option maxRecDepth 100000

theorem TabL.congr {lo : Nat} {w : World} {v : Value} {n m : Nat} {g g' : Nat → Nat → Value} (h : TabL lo w v n m g) (hg : ∀ i j, i < n → j < m → g i j = g' i j) : TabL lo w v n m g' := by
  obtain ⟨vs, h2, h3, h4⟩ := h
  refine ⟨vs, h2, h3, fun i vi hi => ?_⟩
  have hl : i < n := by
    have h4 := (List.getElem?_eq_some_iff.1 hi).1
    obtain ⟨_, _, _, h5, _⟩ := h2
    omega
  rw [← range_congr fun k hk => hg i k hl hk]
  exact h4 i vi hi
theorem LatV.congr {lo : Nat} {w : World} {L : List (List UInt8)} {f g : Nat → Nat → Bool} {v : Value} (h : LatV lo w L f v) (hf : ∀ x y, x < L.length → y < L.length → f x y = g x y) : LatV lo w L g v := by
  obtain ⟨aN, cN, aL, cL, aJ, cJ, aM, cM, n, hn, e, h1, h2, h3, h4⟩ := h
  subst hn
  refine ⟨aN, cN, aL, cL, aJ, cJ, aM, cM, _, rfl, ?_, h1, h2.congr fun i j hi hj => by unfold bB; rw [hf i j hi hj], h3.congr fun i j hi hj => by unfold bI; rw [joinI_congr hf hi hj], h4.congr fun i j hi hj => by unfold bI; rw [joinI_congr (flip_congr hf) hi hj]⟩
  rw [e, lowI_congr hf, lowI_congr (flip_congr hf)]
/-- A lattice whose order is known. -/
theorem made_known {lo : Nat} {w : World} {l : List Pr8} {v : Value} {x : Int} (h : MadeV lo w l v x) {f : Nat → Nat → Bool} (h0 : 0 < (namesP l).length) (h12 : (namesP l).length ≤ 12) (hc : Clos (namesP l).length (baseP (namesP l) l) f) (hl : lattP (namesP l).length f = true) : x = 0 ∧ LatV lo w (namesP l) f v := by
  obtain rfl : x = 0 := h.1.one (.inr (.inr ⟨h0, h12, f, hc, .inr ⟨hl, rfl⟩⟩))
  refine ⟨rfl, ?_⟩
  rcases h.2 with ⟨h1, _⟩ | ⟨_, g, hg, _, hv⟩
  · exact absurd rfl h1
  · exact hv.congr (hg.same hc)
theorem made_error {lo : Nat} {w : World} {l : List Pr8} {v : Value} {x y : Int} (h : MadeV lo w l v x) (hy : MakeX l y) (h0 : y ≠ 0) : x = y ∧ v = lat0 := by
  obtain rfl : x = y := h.1.one hy
  rcases h.2 with ⟨_, h1⟩ | ⟨h1, _⟩
  · exact ⟨rfl, h1⟩
  · exact absurd h1 h0

def labEx14 : List UInt8 := [108, 97, 98, 101, 108, 115, 32, 108, 111, 119, 32, 60, 32, 104, 105, 103, 104, 59]
def sLow : List UInt8 := [108, 111, 119]
def sHigh : List UInt8 := [104, 105, 103, 104]
theorem lab_ex14 : labelsP labEx14 = ([⟨sLow, sHigh, 13⟩], 0, 0) := by decide +kernel
theorem names_ex14 : namesP [(sLow, sHigh)] = [sHigh, sLow] := by decide
/-- low is at most high. -/
def ordEx (a b : Nat) : Bool := a == b || (a == 1 && b == 0)
theorem clos_ex : Clos (namesP [(sLow, sHigh)]).length (baseP (namesP [(sLow, sHigh)]) [(sLow, sHigh)]) ordEx := by
  rw [names_ex14]
  have hb0 : ∀ x, x < 2 → ∀ y, y < 2 → baseP [sHigh, sLow] [(sLow, sHigh)] x y = (x == 1 && y == 0) := by decide
  have hb := fun x y hx hy => hb0 x hx y hy
  refine ⟨fun x _ => by simp [ordEx], fun x y z hx hy hz => ?_, fun x y hx hy h => ?_, fun T t1 t2 t3 x y hx hy h => ?_⟩
  · simp only [List.length_cons, List.length_nil] at hx hy hz
    have : ∀ x, x < 2 → ∀ y, y < 2 → ∀ z, z < 2 → ordEx x y = true → ordEx y z = true → ordEx x z = true := by decide
    exact this x hx y hy z hz
  · rw [hb x y hx hy] at h
    unfold ordEx
    rw [h, Bool.or_true]
  · unfold ordEx at h
    rw [Bool.or_eq_true] at h
    rcases h with h | h
    · have e : x = y := by simpa using h
      subst e
      exact t1 x hx
    · exact t3 x y hx hy (by rw [hb x y hx hy]; exact h)
theorem latt_ex : lattP (namesP [(sLow, sHigh)]).length ordEx = true := by decide +kernel

set_option maxHeartbeats 8000000 in
theorem awake_lab (K : LabK) (w : World) (ht : SgW w) : Calls Tryd.prog 8 #[] w fun e w' => e = .returned (.bool true) ∧ Grow w w' := by
  have P := code_read K labEx14 w ht
  clear ht
  change Calls _ _ #[.string ⟨#[108, 97, 98, 101, 108, 115, 32, 108, 111, 119, 32, 60, 32, 104, 105, 103, 104, 59]⟩] _ _ at P
  go_enter Tryd.func8, Tryd.ntmps8
  go_wp2_with fail
  refine P.mono ?_
  rintro e w1 ⟨hg1, v, x, a, rfl, hR⟩
  have hM : a = 0 ∧ MadeV w.heap.size w1 [(sLow, sHigh)] v x := by
    unfold ReadV at hR
    rw [lab_ex14] at hR
    rcases hR with ⟨h, _⟩ | ⟨_, h1, h2⟩
    · exact absurd rfl h
    · exact ⟨h1, h2⟩
  obtain ⟨rfl, hM⟩ := hM
  obtain ⟨rfl, hV⟩ := made_known hM (by rw [names_ex14]; decide) (by rw [names_ex14]; decide) clos_ex latt_ex
  rw [names_ex14] at hV
  have HPl := fun (s : List UInt8) (W' : World) (hg : Grow w1 W') => code_place w.heap.size [sHigh, sLow] ordEx v s W' (hV.later hg)
  obtain ⟨aN, cN, aL, cL, aJ, cJ, aM, cM, n, hn, rfl, h1, _, h3, _⟩ := hV
  obtain rfl : n = 2 := hn
  rw [show (lowI 2 ordEx : Int) = 1 by decide, show (lowI 2 (flipB ordEx) : Int) = 0 by decide] at HPl ⊢
  obtain ⟨aj, bj, dj, rfl, j1, j2⟩ := h3.toV.at (i := 1) (j := 0) (by decide) (by decide)
  rw [show bI (joinI 2 ordEx) 1 0 = .int .i64 0 by unfold bI; rw [show joinI 2 ordEx 1 0 = 0 by decide]; rfl] at j2
  obtain ⟨W, hW⟩ : ∃ W, w1.alloc (.cells #[.slice aN 2 cN, .slice aL 2 cL, .slice (some aj) 2 cJ, .slice aM 2 cM, .int .i64 1, .int .i64 0] 31) = W := ⟨_, rfl⟩
  have hgW : Grow w1 W := by rw [← hW]; exact (Below.refl _ _).alloc (Nat.le_refl _) _
  have hbW : LatB W w1.heap.size (.slice aN 2 cN) (.slice aL 2 cL) (.slice (some aj) 2 cJ) (.slice aM 2 cM) (.int .i64 1) (.int .i64 0) := by rw [← hW]; exact LatB.new _ _ _ _ _ _ _
  have HL : Hid (∀ W', Grow W W' → Calls Tryd.prog 7 #[.agg #[.slice aN 2 cN, .slice aL 2 cL, .slice (some aj) 2 cJ, .slice aM 2 cM, .int .i64 1, .int .i64 0], .string ⟨#[108, 111, 119]⟩] W' fun e w' => e = .returned (.int .i64 1) ∧ Grow W' w') := Lib.hid (fun W' hg => HPl sLow W' (Grow.trans hgW hg))
  have HH : Hid (∀ W', Grow W W' → Calls Tryd.prog 7 #[.agg #[.slice aN 2 cN, .slice aL 2 cL, .slice (some aj) 2 cJ, .slice aM 2 cM, .int .i64 1, .int .i64 0], .string ⟨#[104, 105, 103, 104]⟩] W' fun e w' => e = .returned (.int .i64 0) ∧ Grow W' w') := Lib.hid (fun W' hg => HPl sHigh W' (Grow.trans hgW hg))
  have HC := Lib.hid (And.intro hbW (And.intro (grow_cellO hgW j1) (And.intro (grow_cellO hgW j2) (Grow.trans hg1 hgW))))
  obtain ⟨⟨q0, q1, q2⟩, q3, q4, q5⟩ := hbW.cells
  have HW := Lib.hid hW
  clear P hR hM h1 h3 HPl j1 j2 hg1 hgW hbW hW q0 q1 q2 q3 q4 q5
  go_upto_region 2 with fail
  rw [HW.out]
  have HGd : Hid (Grow W W.drew) := Lib.hid (below_drewN (Grow.refl W) 1)
  have LC : ∀ w', Grow W.drew w' → (w'.cell? ⟨w1.heap.size, 0, none⟩ = some (.slice aN 2 cN) ∧ w'.cell? ⟨w1.heap.size, 1, none⟩ = some (.slice aL 2 cL) ∧ w'.cell? ⟨w1.heap.size, 2, none⟩ = some (.slice (some aj) 2 cJ)) ∧ w'.cell? ⟨w1.heap.size, 3, none⟩ = some (.slice aM 2 cM) ∧ w'.cell? ⟨w1.heap.size, 4, none⟩ = some (.int .i64 1) ∧ w'.cell? ⟨w1.heap.size, 5, none⟩ = some (.int .i64 0) := fun w' hG => (HC.out.1.later (Grow.trans HGd.out hG)).cells
  refine wp_region_mv [(0, 1, true), (2, 1, true), (1, 1, false), (3, 1, false), (4, 2, true)] (by kernel_rfl) (by kernel_rfl) ?_
  simp only [mvAll, mvSeg, List.drop_succ_cons, List.drop_zero, List.cons_append, List.nil_append, Nat.reduceAdd]
  iterate 2
    refine wpLin_still (.agg #[.slice aN 2 cN, .slice aL 2 cL, .slice (some aj) 2 cJ, .slice aM 2 cM, .int .i64 1, .int .i64 0]) (fun w' hG K hK => ?_) (fun K hK => ?_)
    · obtain ⟨⟨p0, p1, p2⟩, p3, p4, p5⟩ := LC w' hG
      unfold mvVal
      go_simp
      exact hK
    go_simp
    refine hK _ ?_
    clear hK K
  refine wpLin_call (fun K hK => ?_)
  unfold mvRun
  go_simp
  simp only [mvUpon]
  refine (HL.out _ HGd.out).mono ?_
  rintro e w3 ⟨rfl, hg3⟩
  refine ⟨_, rfl, ?_⟩
  go_simp
  refine hK _ _ hg3 ?_
  clear hK K
  refine wpLin_call (fun K hK => ?_)
  unfold mvRun
  go_simp
  simp only [mvUpon]
  refine (HH.out _ (Grow.trans HGd.out hg3)).mono ?_
  rintro e w4 ⟨rfl, hg4⟩
  refine ⟨_, rfl, ?_⟩
  go_simp
  refine hK _ _ hg4 ?_
  clear hK K
  have hG4 := Grow.trans HGd.out (Grow.trans hg3 hg4)
  iterate 2
    refine wpLin_still ?_ (fun w' hG K hK => ?_) (fun K hK => ?_)
    rotate_left
    · unfold mvVal
      go_simp
      exact hK
    go_simp
    refine hK _ ?_
    clear hK K
  refine wpLin_nil ?_
  obtain ⟨⟨p0, p1, p2⟩, p3, p4, p5⟩ := (HC.out.1.later hG4).cells
  have j1 := grow_cellO hG4 HC.out.2.1
  have j2 := grow_cellO hG4 HC.out.2.2.1
  have j1' : w4.cell? ⟨aj.block, aj.off + 1, none⟩ = some (.slice (some bj) 2 dj) := by simpa [Addr.add] using j1
  have j2' : w4.cell? bj = some (.int .i64 0) := by simpa [Addr.add] using j2
  have HE := Lib.hid (Grow.trans HC.out.2.2.2 hG4)
  clear LC hg3 hg4 hG4
  go_wp2_with (go_at_call 6; refine (lnum_at _ _).mono ?_; rintro e w' ⟨rfl, rfl⟩)
  go_ret
  exact ⟨rfl, HE.out⟩

end Go.Proofs.YtlgfijjkbomejaaDoor

namespace Go.Proofs.YtlgfijjkbomejaaDoor
open Go.RowKit Go.Lib
set_option maxRecDepth 100000

/-- Names of sets: the letter s, and a digit. -/
def setN (a : Nat) : List UInt8 := [115, UInt8.ofNat (48 + a)]
/-- The pairs of one set: with each thing that it lacks. -/
def setR (a : Nat) : Nat → List Pr8
  | 0 => []
  | i + 1 => setR a i ++ (if a >>> i % 2 = 0 then [(setN a, setN (a ||| 1 <<< i))] else [])
def setP (k : Nat) : Nat → List Pr8
  | 0 => []
  | a + 1 => setP k a ++ setR a k
def subB (a b : Nat) : Bool := a &&& b == a
def bits3 (a : Nat) : Nat := a % 2 + a / 2 % 2 + a / 4 % 2
theorem setR_len (a : Nat) : ∀ i, (setR a i).length ≤ i
  | 0 => Nat.le_refl _
  | i + 1 => by
    have := setR_len a i
    unfold setR
    rw [List.length_append]
    split <;> simp <;> omega
theorem setP_len (k : Nat) : ∀ a, (setP k a).length ≤ k * a
  | 0 => Nat.zero_le _
  | a + 1 => by
    have h1 := setP_len k a
    have h2 := setR_len a k
    unfold setP
    rw [List.length_append, Nat.mul_succ]
    omega
theorem set_names : ∀ k, k < 4 → 1 ≤ k → namesP (setP k (2 ^ k)) = (List.range (2 ^ k)).map setN := by decide +kernel
theorem set_cert : ∀ k, k < 4 → 1 ≤ k → certB (2 ^ k) (baseP (namesP (setP k (2 ^ k))) (setP k (2 ^ k))) subB (fun x y => bits3 y - bits3 x) = true ∧ lattP (2 ^ k) subB = true := by decide +kernel
theorem set_join : ∀ k, k < 4 → 1 ≤ k → ∀ a, a < 2 ^ k → ∀ b, b < 2 ^ k → joinI (2 ^ k) subB a b = a ||| b ∧ joinI (2 ^ k) (flipB subB) a b = a &&& b := by decide +kernel
theorem set_made {lo : Nat} {w : World} {k : Nat} {v : Value} {x : Int} (h : MadeV lo w (setP k (2 ^ k)) v x) (h1 : 1 ≤ k) (h2 : k < 4) : x = 0 ∧ LatV lo w ((List.range (2 ^ k)).map setN) subB v := by
  have hn := set_names k h2 h1
  obtain ⟨c1, c2⟩ := set_cert k h2 h1
  have hl : (namesP (setP k (2 ^ k))).length = 2 ^ k := by rw [hn]; simp
  have hk : 0 < 2 ^ k ∧ 2 ^ k ≤ 12 := by
    obtain rfl | rfl | rfl : k = 1 ∨ k = 2 ∨ k = 3 := by omega
    all_goals decide
  rw [← hn]
  exact made_known h (by omega) (by omega) (by rw [hl]; exact clos_cert _ c1) (by rw [hl]; exact c2)
theorem set_plc : ∀ k, k < 4 → 1 ≤ k → ∀ a, a < 2 ^ k → plcT ((List.range (2 ^ k)).map setN) (setN a) = (a : Int) := by decide +kernel

end Go.Proofs.YtlgfijjkbomejaaDoor
