/- What a tied card's condition gives: the table of signs lies as the program's text lays it; and a world in which it does. Numbers and types by name. -/
import Derived.Test.YtejaikpnfhhmnaaDoorLcw
import Derived.Test.YtejaikpnfhhmnaaDoorLrw
import Derived.Test.YtejaikpnfhhmnaaDoorLrm
import Derived.Test.YtejaikpnfhhmnaaDoorRows
import Derived.Test.YtejaikpnfhhmnaaDoorLxk
import Derived.ProofKit
import Derived.LaidMore
import Derived.Stop.LaidErr
/- The reference's comparing of lattices that are one. Numbers and types by name. -/
namespace Go.Proofs.YtejaikpnfhhmnaaDoor
open Go.RowKit Go.Lib
set_option maxRecDepth 100000

theorem texts_yes (v1 v2 : Value) (n : Nat) (L : List (List UInt8)) (w : World) (h1 : StrV w v1 n L) (h2 : StrV w v2 n L) :
    Calls Tryd.prog 30 #[v1, v2] w fun e w' => e = .returned (.bool true) ∧ Grow w w' := by
  obtain ⟨a1, c1, rfl⟩ := h1.shape
  obtain ⟨a2, c2, rfl⟩ := h2.shape
  have hm := h1.2.1
  have H := Lib.hid (And.intro h1 h2)
  clear h1 h2
  go_enter Tryd.func30, Tryd.ntmps30
  go_wp2_with fail
  go_loopw [5] (fun i wr => ∃ k : Nat, k ≤ n ∧ i = .int .i64 k ∧ Hid (Grow w wr)) (fun i _ => n - (RowKit.intOf i).toNat)
  case atStart => exact ⟨0, Nat.zero_le _, rfl, Lib.hid (Grow.refl w)⟩
  case round =>
    obtain ⟨k, hk, rfl, hG⟩ := hrel
    by_cases h1 : k < n
    · have h3 : (k : Int) < (n : Int) := by omega
      obtain ⟨x1, s1, rfl, e1, b1⟩ := (H.out.1.later hG.out).at h1
      obtain ⟨x2, s2, rfl, e2, b2⟩ := (H.out.2.later hG.out).at h1
      rw [e1] at e2
      cases e2
      clear e1
      go_wp2_with fail
      go_quiet (fail)
      go_wp2
      all_goals exact ⟨⟨k + 1, by omega, by go_num, Lib.hid (below_drewN hG.out _)⟩, by simp [RowKit.intOf]; omega⟩
    · have h3 : ¬ (k : Int) < (n : Int) := by omega
      go_wp2_with fail
      go_ret
      exact ⟨rfl, hG.out⟩

theorem ints_yes (v1 v2 : Value) (n : Nat) (g : Nat → Nat → Nat) (w : World) (h1 : TabV w v1 n n (bI g)) (h2 : TabV w v2 n n (bI g)) (hn : n ≤ 1000) :
    Calls Tryd.prog 31 #[v1, v2] w fun e w' => e = .returned (.bool true) ∧ Grow w w' := by
  obtain ⟨a1, c1, rfl⟩ := h1.shape
  obtain ⟨a2, c2, rfl⟩ := h2.shape
  have H := Lib.hid (And.intro h1 h2)
  clear h1 h2
  go_enter Tryd.func31, Tryd.ntmps31
  go_wp2_with fail
  go_loopw [5] (fun i wr => ∃ k : Nat, k ≤ n ∧ i = .int .i64 k ∧ Hid (Grow w wr)) (fun i _ => n - (RowKit.intOf i).toNat)
  case atStart => exact ⟨0, Nat.zero_le _, rfl, Lib.hid (Grow.refl w)⟩
  case round =>
    obtain ⟨k, hk, rfl, hG⟩ := hrel
    by_cases h1 : k < n
    · have h3 : (k : Int) < (n : Int) := by omega
      obtain ⟨x1, bo1, d1, rfl, b1, _⟩ := (H.out.1.later hG.out).row h1
      obtain ⟨x2, bo2, d2, rfl, b2, _⟩ := (H.out.2.later hG.out).row h1
      go_wp2_with fail
      go_quiet (fail)
      go_wp2
      all_goals
        go_loopw [6] (fun i wr => ∃ j : Nat, j ≤ n ∧ i = .int .i64 j ∧ Hid (Grow w wr)) (fun i _ => n - (RowKit.intOf i).toNat)
        case atStart => exact ⟨0, Nat.zero_le _, rfl, Lib.hid (below_drewN hG.out _)⟩
        case round =>
          clear b1 b2
          obtain ⟨j, hj, rfl, hG2⟩ := hrel
          by_cases h4 : j < n
          · have h5 : (j : Int) < (n : Int) := by omega
            obtain ⟨_, y1, e1, eq1, b1, m1⟩ := (H.out.1.later hG2.out).at h1 h4
            obtain ⟨_, y2, e2, eq2, b2, m2⟩ := (H.out.2.later hG2.out).at h1 h4
            cases eq1
            cases eq2
            unfold bI at m1 m2
            go_wp2_with fail
            go_quiet (fail)
            go_wp2
            all_goals exact ⟨⟨j + 1, by omega, by go_num, Lib.hid (below_drewN hG2.out _)⟩, by simp [RowKit.intOf]; omega⟩
          · have h5 : ¬ (j : Int) < (n : Int) := by omega
            obtain ⟨_, bo1, d1, eq1, b1, _⟩ := (H.out.1.later hG2.out).row h1
            cases eq1
            go_wp2_with fail
            exact ⟨⟨k + 1, by omega, by go_num, Lib.hid hG2.out⟩, by simp [RowKit.intOf]; omega⟩
    · have h3 : ¬ (k : Int) < (n : Int) := by omega
      go_wp2_with fail
      go_ret
      exact ⟨rfl, hG.out⟩

/-- A struct of a lattice's kind, that is read. -/
def SixV (w : World) (L : List (List UInt8)) (f : Nat → Nat → Bool) (J M : Nat → Nat → Nat) (lo hi : Int) (v : Value) : Prop :=
  ∃ aN cN aL cL aJ cJ aM cM n, n = L.length ∧ n ≤ 1000 ∧ v = .agg #[.slice aN n cN, .slice aL n cL, .slice aJ n cJ, .slice aM n cM, .int .i64 lo, .int .i64 hi] ∧
    StrV w (.slice aN n cN) n L ∧ TabV w (.slice aL n cL) n n (bB f) ∧ TabV w (.slice aJ n cJ) n n (bI J) ∧ TabV w (.slice aM n cM) n n (bI M)
theorem LatV.six {lo : Nat} {w : World} {L : List (List UInt8)} {f : Nat → Nat → Bool} {v : Value} (h : LatV lo w L f v) (hn : L.length ≤ 1000) : SixV w L f (joinI L.length f) (joinI L.length (flipB f)) (lowI L.length f) (lowI L.length (flipB f)) v := by
  obtain ⟨aN, cN, aL, cL, aJ, cJ, aM, cM, n, hnL, e, h1, h2, h3, h4⟩ := h
  subst hnL
  exact ⟨aN, cN, aL, cL, aJ, cJ, aM, cM, _, rfl, hn, e, h1.1, h2.toV, h3.toV, h4.toV⟩
theorem tab_none (w : World) (g : Nat → Nat → Value) : TabV w (.slice none 0 0) 0 0 g := ⟨[], ⟨none, 0, rfl, rfl, Nat.le_refl _, fun _ => ⟨rfl, rfl⟩, fun a h => by cases h⟩, fun i vi h => by simp at h⟩
theorem six_zero (w : World) (f : Nat → Nat → Bool) (J M : Nat → Nat → Nat) : SixV w [] f J M 0 0 lat0 :=
  ⟨none, 0, none, 0, none, 0, none, 0, 0, rfl, by decide, rfl, StrV.nil w, tab_none w _, tab_none w _, tab_none w _⟩
theorem SixV.later {w w' : World} {L : List (List UInt8)} {f : Nat → Nat → Bool} {J M : Nat → Nat → Nat} {lo hi : Int} {v : Value} (h : SixV w L f J M lo hi v) (hg : Grow w w') : SixV w' L f J M lo hi v := by
  obtain ⟨aN, cN, aL, cL, aJ, cJ, aM, cM, n, hnL, hn, e, h1, h2, h3, h4⟩ := h
  exact ⟨aN, cN, aL, cL, aJ, cJ, aM, cM, n, hnL, hn, e, h1.later hg, h2.later hg, h3.later hg, h4.later hg⟩

set_option maxHeartbeats 16000000 in
theorem same_yes (v1 v2 : Value) (L : List (List UInt8)) (f : Nat → Nat → Bool) (J M : Nat → Nat → Nat) (lo hi : Int) (w : World) (h1 : SixV w L f J M lo hi v1) (h2 : SixV w L f J M lo hi v2) :
    Calls Tryd.prog 14 #[v1, v2] w fun e w' => e = .returned (.bool true) ∧ Grow w w' := by
  obtain ⟨aN, cN, aL, cL, aJ, cJ, aM, cM, n, hnL, hn, rfl, n1, l1, j1, k1⟩ := h1
  obtain ⟨bN, dN, bL, dL, bJ, dJ, bM, dM, m, hmL, hm, rfl, n2, l2, j2, k2⟩ := h2
  obtain rfl : m = n := by omega
  obtain ⟨W0, hW0⟩ : ∃ W0, w.alloc (.cells #[.slice aN m cN, .slice aL m cL, .slice aJ m cJ, .slice aM m cM, .int .i64 lo, .int .i64 hi] 29) = W0 := ⟨_, rfl⟩
  obtain ⟨W, hW⟩ : ∃ W, W0.alloc (.cells #[.slice bN m dN, .slice bL m dL, .slice bJ m dJ, .slice bM m dM, .int .i64 lo, .int .i64 hi] 29) = W := ⟨_, rfl⟩
  have hg0 : Grow w W0 := by rw [← hW0]; exact (Below.refl _ _).alloc (Nat.le_refl _) _
  have hg1 : Grow W0 W := by rw [← hW]; exact (Below.refl _ _).alloc (Nat.le_refl _) _
  have hA : LatB W w.heap.size (.slice aN m cN) (.slice aL m cL) (.slice aJ m cJ) (.slice aM m cM) (.int .i64 lo) (.int .i64 hi) := LatB.later (by rw [← hW0]; exact LatB.new _ _ _ _ _ _ _) hg1
  have hB : LatB W W0.heap.size (.slice bN m dN) (.slice bL m dL) (.slice bJ m dJ) (.slice bM m dM) (.int .i64 lo) (.int .i64 hi) := by
    rw [← hW]
    exact LatB.new _ _ _ _ _ _ _
  have hG := Grow.trans hg0 hg1
  have H := Lib.hid (And.intro (n1.later hG) (And.intro (n2.later hG) (And.intro (l1.later hG) (And.intro (l2.later hG) (And.intro (j1.later hG) (And.intro (j2.later hG) (And.intro (k1.later hG) (And.intro (k2.later hG) hG))))))))
  have HB := Lib.hid (And.intro hA hB)
  obtain ⟨⟨p0, p1, p2⟩, p3, p4, p5⟩ := hA.cells
  obtain ⟨⟨q0, q1, q2⟩, q3, q4, q5⟩ := hB.cells
  have PT := Lib.hid (texts_yes (.slice aN m cN) (.slice bN m dN) m L W H.out.1 H.out.2.1)
  clear hg0 hg1 hA hB hG n1 n2 l1 l2 j1 j2 k1 k2 hnL hmL
  go_enter Tryd.func14, Tryd.ntmps14
  go_wp2_with (go_at_call 30; refine PT.out.mono ?_; rintro e w2 ⟨rfl, hg2⟩; obtain ⟨⟨p0, p1, p2⟩, p3, p4, p5⟩ := (HB.out.1.later hg2).cells; obtain ⟨⟨q0, q1, q2⟩, q3, q4, q5⟩ := (HB.out.2.later hg2).cells; have HG2 := Lib.hid hg2; clear hg2)
  generalize w.heap.size = PA at *
  generalize W0.heap.size = PB at *
  go_loopw [5] (fun i wr => ∃ k : Nat, k ≤ m ∧ i = .int .i64 k ∧ Hid (Grow W wr)) (fun i _ => m - (RowKit.intOf i).toNat)
  case atStart => exact ⟨0, Nat.zero_le _, rfl, HG2⟩
  case round =>
    clear p0 p1 p2 p3 p4 p5 q0 q1 q2 q3 q4 q5
    obtain ⟨k, hk, rfl, hG⟩ := hrel
    have HL := Lib.hid (And.intro (H.out.2.2.1.later hG.out) (H.out.2.2.2.1.later hG.out))
    obtain ⟨⟨p0, p1, p2⟩, p3, p4, p5⟩ := (HB.out.1.later hG.out).cells
    obtain ⟨⟨q0, q1, q2⟩, q3, q4, q5⟩ := (HB.out.2.later hG.out).cells
    by_cases h1 : k < m
    · have h3 : (k : Int) < (m : Int) := by omega
      obtain ⟨x1, bo1, d1, rfl, b1, _⟩ := HL.out.1.row h1
      obtain ⟨x2, bo2, d2, rfl, b2, _⟩ := HL.out.2.row h1
      go_wp2_with fail
      go_quiet (fail)
      go_wp2
      all_goals
        go_loopw [6] (fun i wr => ∃ j : Nat, j ≤ m ∧ i = .int .i64 j ∧ Hid (Grow W wr)) (fun i _ => m - (RowKit.intOf i).toNat)
        case atStart => exact ⟨0, Nat.zero_le _, rfl, Lib.hid (below_drewN hG.out _)⟩
        case round =>
          clear b1 b2 p0 p1 p2 p3 p4 p5 q0 q1 q2 q3 q4 q5
          obtain ⟨j, hj, rfl, hG2⟩ := hrel
          obtain ⟨⟨p0, p1, p2⟩, p3, p4, p5⟩ := (HB.out.1.later hG2.out).cells
          obtain ⟨⟨q0, q1, q2⟩, q3, q4, q5⟩ := (HB.out.2.later hG2.out).cells
          by_cases h4 : j < m
          · have h5 : (j : Int) < (m : Int) := by omega
            obtain ⟨_, y1, e1, eq1, b1, m1⟩ := (H.out.2.2.1.later hG2.out).at h1 h4
            obtain ⟨_, y2, e2, eq2, b2, m2⟩ := (H.out.2.2.2.1.later hG2.out).at h1 h4
            cases eq1
            cases eq2
            unfold bB at m1 m2
            clear p0 p2 p3 p4 p5 q0 q2 q3 q4 q5
            go_wp2_with fail
            go_quiet (fail)
            go_wp2
            all_goals exact ⟨⟨j + 1, by omega, by go_num, Lib.hid (below_drewN hG2.out _)⟩, by simp [RowKit.intOf]; omega⟩
          · have h5 : ¬ (j : Int) < (m : Int) := by omega
            obtain ⟨_, bo1, d1, eq1, b1, _⟩ := (H.out.2.2.1.later hG2.out).row h1
            cases eq1
            go_wp2_with fail
            exact ⟨⟨k + 1, by omega, by go_num, Lib.hid hG2.out⟩, by simp [RowKit.intOf]; omega⟩
    · have h3 : ¬ (k : Int) < (m : Int) := by omega
      have PJ := Lib.hid (ints_yes (.slice aJ m cJ) (.slice bJ m dJ) m J wr (H.out.2.2.2.2.1.later hG.out) (H.out.2.2.2.2.2.1.later hG.out) hn)
      have HGk := Lib.hid hG.out
      clear HL hG
      go_wp2_with (first | (go_at_call 31; refine PM.out.mono ?_; rintro e w4 ⟨rfl, hg4⟩; have HG4 := Lib.hid (Grow.trans HG3.out hg4); clear hg4) | (go_at_call 31; refine PJ.out.mono ?_; rintro e w3 ⟨rfl, hg3⟩; have HG3 := Lib.hid (Grow.trans HGk.out hg3); clear hg3; obtain ⟨⟨p0, p1, p2⟩, p3, p4, p5⟩ := (HB.out.1.later HG3.out).cells; obtain ⟨⟨q0, q1, q2⟩, q3, q4, q5⟩ := (HB.out.2.later HG3.out).cells; have PM := Lib.hid (ints_yes (.slice aM m cM) (.slice bM m dM) m M w3 (H.out.2.2.2.2.2.2.1.later HG3.out) (H.out.2.2.2.2.2.2.2.1.later HG3.out) hn)))
      go_ret
      exact ⟨rfl, Grow.trans H.out.2.2.2.2.2.2.2.2 HG4.out⟩

end Go.Proofs.YtejaikpnfhhmnaaDoor

/- LabelMakes, walked. Numbers and types by name. -/
namespace Go.Proofs.YtejaikpnfhhmnaaDoor
open Go.RowKit Go.Lib
set_option maxRecDepth 100000

theorem prm_at {w : World} {ao : Option Addr} {n c : Nat} {l : List Pr8} (h : TRows w 3 PrmR (.slice ao n c) l) {k : Nat} (hk : k < n) :
    ∃ a p, ao = some a ∧ l[k]? = some p ∧ w.cell? (a.add (k * 3)) = some (.string (tx p.1)) ∧ w.cell? ⟨(a.add (k * 3)).block, (a.add (k * 3)).off + 1, none⟩ = some (.string (tx p.2)) := by
  obtain ⟨a, p, cs, rfl, h1, ⟨z, rfl⟩, _, h2⟩ := TRows.at h hk
  exact ⟨a, p, rfl, h1, h2.1 _ rfl, h2.2 1 _ (by decide) rfl⟩

/-- What is told of how much there is. -/
def GreatP (w : World) (n : Nat) (e : Ending) (w' : World) : Prop := ∃ b q, e = .returned (.bool b) ∧ w' = w.drewN q ∧ (b = false → n ≤ 150)
theorem great_mk {w : World} {n : Nat} (b : Bool) (q : Nat) (h : b = false → n ≤ 150) : GreatP w n (.returned (.bool b)) (w.drewN q) := ⟨b, q, rfl, rfl, h⟩

/-- Whether there is more than is gone through. -/
theorem great_prm (v : Value) (l : List Pr8) (w : World) (h : TRows w 3 PrmR v l) :
    Calls Tryd.prog 10 #[v] w (GreatP w l.length) := by
  obtain ⟨ao, c, rfl⟩ := h.shape
  have hm := h.1
  obtain ⟨n, hn⟩ : ∃ n, l.length = n := ⟨_, rfl⟩
  rw [hn] at h hm ⊢
  have H := Lib.hid h
  unfold maxLen at hm
  clear h hn
  go_enter Tryd.func10, Tryd.ntmps10
  go_wp2_with fail
  go_loopw [3] (fun i wr => ∃ k q : Nat, k ≤ n ∧ k ≤ 200 ∧ i = .int .i64 k ∧ wr = w.drewN q) (fun i _ => n - (RowKit.intOf i).toNat)
  case atStart => exact ⟨0, 0, Nat.zero_le _, Nat.zero_le _, rfl, rfl⟩
  case round =>
    obtain ⟨k, q, hk, hk2, rfl, rfl⟩ := hrel
    by_cases h1 : k < n
    · have h3 : (k : Int) < (n : Int) := by omega
      by_cases h2 : k < 200
      · have h4 : (k : Int) < 200 := by omega
        obtain ⟨a, p, rfl, _, c0, c1⟩ := prm_at H.out h1
        obtain ⟨p1, p2⟩ := p
        simp only at c0 c1
        by_cases g1 : 100 < (tx p1).size
        · have g2 : (100 : Int) < ((tx p1).size : Int) := by omega
          go_wp2_with fail
          go_ret
          exact great_mk true q fun h => by cases h
        · have g2 : ¬ (100 : Int) < ((tx p1).size : Int) := by omega
          by_cases g3 : 100 < (tx p2).size
          · have g4 : (100 : Int) < ((tx p2).size : Int) := by omega
            go_wp2_with fail
            go_ret
            exact great_mk true q fun h => by cases h
          · have g4 : ¬ (100 : Int) < ((tx p2).size : Int) := by omega
            go_wp2_with fail
            exact ⟨⟨k + 1, q, by omega, by omega, by go_num, rfl⟩, by simp [RowKit.intOf]; omega⟩
      · have h4 : ¬ (k : Int) < 200 := by omega
        go_wp2_with fail
        go_ret
        exact great_mk (decide ((150 : Int) < (n : Int))) q fun h => by have := of_decide_eq_false h; omega
    · have h3 : ¬ (k : Int) < (n : Int) := by omega
      go_wp2_with fail
      go_ret
      exact great_mk (decide ((150 : Int) < (n : Int))) q fun h => by have := of_decide_eq_false h; omega

/-- What two Makes tell of one list. -/
theorem made_pair {lo lo' : Nat} {w w' : World} {l : List Pr8} {v v' : Value} {x x' : Int} (h : MadeV lo w l v x) (h' : MadeV lo' w' l v' x') : x = x' ∧ ∃ L f J M p q, SixV w L f J M p q v ∧ SixV w' L f J M p q v' := by
  obtain rfl := h.1.one h'.1
  refine ⟨rfl, ?_⟩
  rcases h.2 with ⟨h0, rfl⟩ | ⟨rfl, f, hc, hl, hv⟩
  · rcases h'.2 with ⟨_, rfl⟩ | ⟨h1, _⟩
    · exact ⟨[], fun _ _ => false, fun _ _ => 0, fun _ _ => 0, 0, 0, six_zero _ _ _ _, six_zero _ _ _ _⟩
    · exact absurd h1 h0
  · rcases h'.2 with ⟨h0, _⟩ | ⟨_, g, hc', _, hv'⟩
    · exact absurd rfl h0
    · have hn : (namesP l).length ≤ 1000 := by
        rcases h.1 with ⟨_, h2⟩ | ⟨_, h2⟩ | ⟨_, h2, _⟩
        · cases h2
        · cases h2
        · omega
      exact ⟨_, _, _, _, _, _, hv.six hn, (hv'.congr (hc'.same hc)).six hn⟩

set_option maxHeartbeats 8000000 in
theorem makes_walk (K : LabK) (v : Value) (l : List Pr8) (w : World) (ht : SgW w) (h : TRows w 3 PrmR v l) : Calls Tryd.prog 3 #[v] w fun e w' => e = .returned (.bool true) ∧ Below w.heap.size w w' := by
  have PG := great_prm v l w h
  obtain ⟨ao, c, rfl⟩ := h.shape
  obtain ⟨n, hn⟩ : ∃ n, l.length = n := ⟨_, rfl⟩
  rw [hn] at PG h ⊢
  have H := Lib.hid (And.intro ht (And.intro h hn))
  have HK := Lib.hid K
  clear ht h hn K
  go_enter Tryd.func3, Tryd.ntmps3
  go_wp2_with fail
  refine PG.mono ?_
  rintro e w1 ⟨b, q, rfl, hw1, hb⟩
  have HG1 := Lib.hid (show Grow w w1 by rw [hw1]; exact below_drewN (Grow.refl w) q)
  clear hw1 PG
  cases b with
  | true =>
    clear hb
    go_wp2_with (go_at_call 11; refine (awake_lab HK.out _ (H.out.1.later HG1.out)).mono ?_; rintro e w' ⟨rfl, hb9⟩; have H9 := Lib.hid (Grow.trans HG1.out hb9); clear hb9)
    go_ret
    exact ⟨rfl, H9.out⟩
  | false =>
    have HP := Lib.hid (show PrmsV w1 (.slice ao n c) n l from ⟨H.out.2.2.symm, by have := hb rfl; omega, TRows.imp H.out.2.1 HG1.out fun _ _ h => h⟩)
    have P1 := code_make _ n l w1 HP.out
    clear hb
    go_wp2_with fail
    refine P1.mono ?_
    rintro e w2 ⟨hg2, v2, x2, rfl, hm2⟩
    obtain ⟨a0, k0, a1, k1, a2, k2, a3, k3, n2, y4, y5, rfl⟩ := hm2.six
    obtain ⟨W, hW⟩ : ∃ W, w2.alloc (.cells #[.slice a0 n2 k0, .slice a1 n2 k1, .slice a2 n2 k2, .slice a3 n2 k3, .int .i64 y4, .int .i64 y5] 29) = W := ⟨_, rfl⟩
    have hgW : Grow w2 W := by rw [← hW]; exact (Below.refl _ _).alloc (Nat.le_refl _) _
    have HB1 := Lib.hid (show LatB W w2.heap.size (.slice a0 n2 k0) (.slice a1 n2 k1) (.slice a2 n2 k2) (.slice a3 n2 k3) (.int .i64 y4) (.int .i64 y5) from by rw [← hW]; exact LatB.new _ _ _ _ _ _ _)
    have HM1 := Lib.hid (hm2.later hgW)
    have HGW := Lib.hid (Grow.trans HG1.out (Grow.trans hg2 hgW))
    have P2 := ref_make (.slice ao n c) n l W ((HP.out.later hg2).later hgW)
    have HW := Lib.hid hW
    clear hm2 hg2 hgW hW P1
    go_upto_region 4 with fail
    rw [HW.out]
    go_wp2_with fail
    refine P2.mono ?_
    rintro e w3 ⟨hg3, v3, x3, rfl, hm3⟩
    obtain ⟨hxx, L, f, J, M, p, q', s2, s3⟩ := made_pair (HM1.out.later hg3) hm3
    subst hxx
    obtain ⟨b0, c0, b1, c1, b2, c2, b3, c3, m2, z4, z5, rfl⟩ := hm3.six
    obtain ⟨V, hV⟩ : ∃ V, w3.alloc (.cells #[.slice b0 m2 c0, .slice b1 m2 c1, .slice b2 m2 c2, .slice b3 m2 c3, .int .i64 z4, .int .i64 z5] 29) = V := ⟨_, rfl⟩
    have hgV : Grow w3 V := by rw [← hV]; exact (Below.refl _ _).alloc (Nat.le_refl _) _
    have HB2 := Lib.hid (show LatB V w3.heap.size (.slice b0 m2 c0) (.slice b1 m2 c1) (.slice b2 m2 c2) (.slice b3 m2 c3) (.int .i64 z4) (.int .i64 z5) from by rw [← hV]; exact LatB.new _ _ _ _ _ _ _)
    have HB3 := Lib.hid (HB1.out.later (Grow.trans hg3 hgV))
    have HGV := Lib.hid (Grow.trans HGW.out (Grow.trans hg3 hgV))
    have HS := Lib.hid (same_yes _ _ L f J M p q' V (s2.later hgV) (s3.later hgV))
    have HV := Lib.hid hV
    clear hm3 hg3 hgV hV P2 s2 s3 HM1 HB1
    go_upto_region 5 with fail
    rw [HV.out]
    obtain ⟨⟨d0, d1, d2⟩, d3, d4, d5⟩ := HB2.out.cells
    obtain ⟨⟨g0, g1, g2⟩, g3, g4, g5⟩ := HB3.out.cells
    go_wp2_with (first | (go_at_call 11; refine (awake_lab HK.out _ (H.out.1.later (Grow.trans HGV.out H8.out))).mono ?_; rintro e w' ⟨rfl, hb9⟩; have H9 := Lib.hid (Grow.trans HGV.out (Grow.trans H8.out hb9)); clear hb9) | (go_at_call 15; refine (lnum_at _ _).mono ?_; rintro e w' ⟨rfl, rfl⟩) | (go_at_call 14; refine HS.out.mono ?_; rintro e w' ⟨rfl, hb8⟩; have H8 := Lib.hid hb8; clear hb8))
    go_ret
    exact ⟨rfl, H9.out⟩

end Go.Proofs.YtejaikpnfhhmnaaDoor

namespace Go.Proofs.YtejaikpnfhhmnaaDoor
open Go.ChangeShapes Go.WideShapes Go.ChangeAt Go.RowKit

/-- The table, as each row lists it. -/
def laid3 : List (String × DataW Unit) := [("aquifer/lex.signs", Rows.laid_aquifer_lex_signs)]

theorem tab_of_laid {W : World} (h : laidMetH Tryd.prog laid3 W) : SgW W := by
  rw [MakeChecks.laidMetH_plain _ _ _ (by kernel_rfl)] at h
  have h3 : laidMet Tryd.prog [("aquifer/lex.signs", txData signs19)] W := h
  exact sgW_of_head (show Tryd.prog.globalNamed "aquifer/lex.signs" = some 0 by kernel_rfl) (show (Tryd.prog.globals[0]?).map (·.type) = some 123 by kernel_rfl) Tryd.underlying123 Tryd.underlying9 (by kernel_rfl) (by kernel_rfl) h3

theorem door_met (os : Os) (args : Array Value) : laidMetH Tryd.prog laid3 ((World.doorLaid Tryd.prog 24 os).forCall (fun _ _ => 0) ⟨#[], args, []⟩).memory :=
  laidMetH_of_parts3 (fuel := 8) (laidMet_of_run' 8 (by kernel_rfl) (by kernel_rfl)) (by kernel_rfl) (by kernel_rfl)

end Go.Proofs.YtejaikpnfhhmnaaDoor
