/- The code's Place and Read. Made by wip/tools/genrea.py. Numbers and types by name. -/
import Derived.Test.YtlgfijjkbomejaaDoorLmk
import Derived.Test.YtlgfijjkbomejaaDoorQpt
/- A closure by certificate: plain facts for lists of pairs that are known. Numbers and types by name. -/
namespace Go.Proofs.YtlgfijjkbomejaaDoor
open Go.RowKit Go.Lib
set_option maxRecDepth 100000

/-- Whether f is the closure of b below n, as r says: each step that b begins goes down. -/
def certB (n : Nat) (b f : Nat → Nat → Bool) (r : Nat → Nat → Nat) : Bool :=
  (List.range n).all fun x => f x x && (List.range n).all fun y => (!b x y || f x y) && (((List.range n).all fun z => !f x y || (!f y z || f x z)) &&
    (!f x y || (decide (x = y) || (List.range n).any fun z => b x z && (f z y && decide (r z y < r x y)))))
theorem clos_cert {n : Nat} {b f : Nat → Nat → Bool} (r : Nat → Nat → Nat) (h : certB n b f r = true) : Clos n b f := by
  unfold certB at h
  simp only [List.all_eq_true, List.mem_range, Bool.and_eq_true, Bool.or_eq_true, Bool.not_eq_true', List.any_eq_true, decide_eq_true_eq] at h
  refine ⟨fun x hx => (h x hx).1, fun x y z hx hy hz h1 h2 => ?_, fun x y hx hy hb => ?_, fun T hr ht hb => ?_⟩
  · rcases ((h x hx).2 y hy).2.1 z hz with e | e | e
    · rw [h1] at e; cases e
    · rw [h2] at e; cases e
    · exact e
  · rcases ((h x hx).2 y hy).1 with e | e
    · rw [hb] at e; cases e
    · exact e
  · have go : ∀ k x y, r x y ≤ k → x < n → y < n → f x y = true → T x y := by
      intro k
      induction k with
      | zero =>
        intro x y hk hx hy hf
        rcases ((h x hx).2 y hy).2.2 with e | e | ⟨z, hz, e1, e2, e3⟩
        · rw [hf] at e; cases e
        · subst e; exact hr x hx
        · omega
      | succ k ih =>
        intro x y hk hx hy hf
        rcases ((h x hx).2 y hy).2.2 with e | e | ⟨z, hz, e1, e2, e3⟩
        · rw [hf] at e; cases e
        · subst e; exact hr x hx
        · exact ht x z y hx hz hy (hb x z hx hz e1) (ih z y (by omega) hz hy e2)
    exact fun x y hx hy hf => go (r x y) x y (Nat.le_refl _) hx hy hf

/-- A row of names, one letter each: its pairs. -/
def rowP (k : Nat) : List Pr8 := (List.range (k - 1)).map fun i => ([UInt8.ofNat (97 + i)], [UInt8.ofNat (98 + i)])
def leB (x y : Nat) : Bool := decide (x ≤ y)
theorem row_names : ∀ k, k < 16 → 2 ≤ k → (namesP (rowP k)).length = k := by decide +kernel
theorem row_cert : ∀ k, k < 13 → 2 ≤ k → certB k (baseP (namesP (rowP k)) (rowP k)) leB (fun x y => y - x) = true ∧ lattP k leB = true ∧ lowI k leB = 0 ∧ lowI k (flipB leB) = k - 1 := by decide +kernel

/-- A fan: low, top, and what is between them. -/
def fanP (k : Nat) : List Pr8 := (List.range k).flatMap fun i => [([108, 111, 119], [109, UInt8.ofNat (97 + i)]), ([109, UInt8.ofNat (97 + i)], [116, 111, 112])]
def fanB (k x y : Nat) : Bool := decide (x = y) || (decide (x = 0) || decide (y = k + 1))
def fanR (k x : Nat) : Nat := if x = 0 then 2 else if x = k + 1 then 0 else 1
theorem fan_names : ∀ k, k < 16 → 2 ≤ k → (namesP (fanP k)).length = k + 2 := by decide +kernel
theorem fan_cert : ∀ k, k < 11 → 2 ≤ k → certB (k + 2) (baseP (namesP (fanP k)) (fanP k)) (fanB k) (fun x _ => fanR k x) = true ∧ lattP (k + 2) (fanB k) = true := by decide +kernel

/-- The fan without its last pair. -/
def fenP (k : Nat) : List Pr8 := (fanP k).dropLast
def fenB (k x y : Nat) : Bool := decide (x = y) || (decide (x = 0) || (decide (y = k + 1) && decide (x ≠ k)))
theorem fen_names : ∀ k, k < 16 → 2 ≤ k → (namesP (fenP k)).length = k + 2 := by decide +kernel
theorem fen_cert : ∀ k, k < 11 → 2 ≤ k → certB (k + 2) (baseP (namesP (fenP k)) (fenP k)) (fenB k) (fun x _ => fanR k x) = true ∧ lattP (k + 2) (fenB k) = false := by decide +kernel

/-- Two pairs that go round. -/
def tuP : List Pr8 := [([97], [98]), ([98], [97])]
theorem tu_cert : (namesP tuP).length = 2 ∧ certB 2 (baseP (namesP tuP) tuP) (fun _ _ => true) (fun x y => if x = y then 0 else 1) = true ∧ lattP 2 (fun _ _ => true) = false := by decide +kernel

theorem makeX_of {l : List Pr8} {n : Nat} {f : Nat → Nat → Bool} {r : Nat → Nat → Nat} (hn : (namesP l).length = n) (h1 : 0 < n) (h2 : n ≤ 12) (hc : certB n (baseP (namesP l) l) f r = true) : MakeX l (if lattP n f = true then 0 else 13) := by
  subst hn
  refine .inr (.inr ⟨h1, h2, f, clos_cert r hc, ?_⟩)
  by_cases h : lattP (namesP l).length f = true
  · rw [if_pos h]; exact .inr ⟨h, rfl⟩
  · rw [if_neg h]; exact .inl ⟨by simpa using h, rfl⟩
theorem makeX_long {l : List Pr8} (h : 12 < (namesP l).length) : MakeX l 14 := .inr (.inl ⟨h, rfl⟩)
theorem makeX_row {k : Nat} (h : 2 ≤ k) (h2 : k < 16) : MakeX (rowP k) (if k ≤ 12 then 0 else 14) := by
  by_cases hk : k ≤ 12
  · obtain ⟨c1, c2, _⟩ := row_cert k (by omega) h
    have := makeX_of (row_names k h2 h) (by omega) hk c1
    rw [if_pos hk]
    rwa [if_pos c2] at this
  · rw [if_neg hk]
    exact makeX_long (by rw [row_names k h2 h]; omega)
theorem makeX_fan {k : Nat} (h : 2 ≤ k) (h2 : k < 16) : MakeX (fanP k) (if k ≤ 10 then 0 else 14) := by
  by_cases hk : k ≤ 10
  · obtain ⟨c1, c2⟩ := fan_cert k (by omega) h
    have := makeX_of (fan_names k h2 h) (by omega) (by omega) c1
    rw [if_pos hk]
    rwa [if_pos c2] at this
  · rw [if_neg hk]
    exact makeX_long (by rw [fan_names k h2 h]; omega)
theorem makeX_fen {k : Nat} (h : 2 ≤ k) (h2 : k < 16) : MakeX (fenP k) (if k ≤ 10 then 13 else 14) := by
  by_cases hk : k ≤ 10
  · obtain ⟨c1, c2⟩ := fen_cert k (by omega) h
    have := makeX_of (fen_names k h2 h) (by omega) (by omega) c1
    rw [if_pos hk]
    rwa [if_neg (by rw [c2]; decide)] at this
  · rw [if_neg hk]
    exact makeX_long (by rw [fen_names k h2 h]; omega)
theorem makeX_tu : MakeX tuP 13 := by
  have := makeX_of tu_cert.1 (by decide) (by decide) tu_cert.2.1
  rwa [if_neg (by rw [tu_cert.2.2]; decide)] at this

end Go.Proofs.YtlgfijjkbomejaaDoor

/- What is asked of the code's parser of labels. Numbers and types by name. -/
namespace Go.Proofs.YtlgfijjkbomejaaDoor
open Go.RowKit Go.Lib

structure LabK : Prop where
  lab : ∀ (l : List UInt8) (w : World), SgW w → Calls Tryd.prog 21 #[.string (tx l)] w (LabTold w (labelsP l))
theorem labK : LabK := ⟨code_labels⟩

end Go.Proofs.YtlgfijjkbomejaaDoor

namespace Go.Proofs.YtlgfijjkbomejaaDoor
open Go.RowKit Go.Lib
set_option maxRecDepth 100000

theorem code_place (lo : Nat) (L : List (List UInt8)) (f : Nat → Nat → Bool) (v : Value) (s : List UInt8) (w : World) (h : LatV lo w L f v) :
    Calls Tryd.prog 7 #[v, .string (tx s)] w fun e w' => e = .returned (.int .i64 (plcT L s)) ∧ Grow w w' := by
  obtain ⟨aN, cN, aL, cL, aJ, cJ, aM, cM, n, hn, rfl, h1, _, _, _⟩ := h
  generalize (lowI n f : Int) = LoZ
  generalize (lowI n (flipB f) : Int) = HiZ
  obtain ⟨W, hW⟩ : ∃ W, w.alloc (.cells #[.slice aN n cN, .slice aL n cL, .slice aJ n cJ, .slice aM n cM, .int .i64 LoZ, .int .i64 HiZ] 31) = W := ⟨_, rfl⟩
  have hgW : Grow w W := by rw [← hW]; exact (Below.refl _ _).alloc (Nat.le_refl _) _
  have hbW : LatB W w.heap.size (.slice aN n cN) (.slice aL n cL) (.slice aJ n cJ) (.slice aM n cM) (.int .i64 LoZ) (.int .i64 HiZ) := by rw [← hW]; exact LatB.new _ _ _ _ _ _ _
  have q0 := hbW.cells.1.1
  have P := Lib.hid (idx_str (.slice aN n cN) n L s W (h1.1.later hgW))
  have HG := Lib.hid hgW
  clear hgW hbW h1 hn
  go_enter Tryd.func7, Tryd.ntmps7
  go_wp2_with (go_at_call 12; refine P.out.mono ?_; rintro e w' ⟨rfl, rfl⟩)
  go_ret
  exact ⟨rfl, HG.out⟩

def prs (l : List Par) : List Pr8 := l.map fun p => (p.name, p.label)
theorem parts_prs : ∀ (l : List Par) (cs : List Value), Parts 3 (fun p c => c = parV p) l cs → Parts 3 PrmR (prs l) cs
  | [], _, h => h
  | p :: l, _, ⟨c, d, e, h1, h2, h3⟩ => ⟨c, d, e, h1, ⟨(p.pos : Int), h2⟩, parts_prs l d h3⟩
theorem prms_rows {w : World} {P : Nat → Prop} {v : Value} {m : Nat} {l : List Par} (h : RowsP w P 3 (fun p c => c = parV p) v m l) : PrmsV w v m (prs l) := by
  obtain ⟨h1, h2, _, cs, h4, h5⟩ := h
  have hl : (prs l).length = l.length := by simp [prs]
  refine ⟨by rw [hl]; exact h1, by omega, by rw [hl, ← h1]; unfold maxLen; omega, cs, by rw [hl, ← h1]; exact h4, parts_prs l cs h5⟩
theorem MadeV.chg {lo : Nat} {w w' : World} {l : List Pr8} {v : Value} {x : Int} {F : List Nat} (h : MadeV lo w l v x) (hc : Chg F w w') (hF : ∀ k, k ∈ F → k < lo) : MadeV lo w' l v x := by
  refine ⟨h.1, ?_⟩
  rcases h.2 with h2 | ⟨h2, f, h3, h4, h5⟩
  · exact .inl h2
  · exact .inr ⟨h2, f, h3, h4, h5.chg hc hF⟩
theorem MadeV.mono {lo lo' : Nat} {w : World} {l : List Pr8} {v : Value} {x : Int} (h : MadeV lo w l v x) (hl : lo' ≤ lo) : MadeV lo' w l v x := by
  refine ⟨h.1, ?_⟩
  rcases h.2 with h2 | ⟨h2, f, h3, h4, h5⟩
  · exact .inl h2
  · exact .inr ⟨h2, f, h3, h4, h5.mono hl⟩
theorem MadeV.six {lo : Nat} {w : World} {l : List Pr8} {v : Value} {x : Int} (h : MadeV lo w l v x) : ∃ a0 k0 a1 k1 a2 k2 a3 k3 n z4 z5, v = .agg #[.slice a0 n k0, .slice a1 n k1, .slice a2 n k2, .slice a3 n k3, .int .i64 z4, .int .i64 z5] := by
  rcases h.2 with ⟨_, rfl⟩ | ⟨_, f, _, _, _, _, _, _, _, _, _, _, _, _, e, _⟩
  · exact ⟨_, _, _, _, _, _, _, _, _, _, _, rfl⟩
  · exact ⟨_, _, _, _, _, _, _, _, _, _, _, e⟩
/-- What Read tells of a text. -/
def ReadV (lo : Nat) (w : World) (b : List UInt8) (v : Value) (x a : Int) : Prop :=
  ((labelsP b).2.1 ≠ 0 ∧ v = lat0 ∧ x = (labelsP b).2.1 ∧ a = ((labelsP b).2.2 : Int)) ∨ ((labelsP b).2.1 = 0 ∧ a = 0 ∧ MadeV lo w (prs (labelsP b).1) v x)
def ReadTold (w : World) (b : List UInt8) (e : Ending) (w' : World) : Prop := Grow w w' ∧ ∃ v x a, e = .returned (.tuple #[v, .int .i64 x, .int .i64 a]) ∧ ReadV w.heap.size w' b v x a

set_option maxHeartbeats 8000000 in
theorem code_read (K : LabK) (b : List UInt8) (w : World) (ht : SgW w) : Calls Tryd.prog 13 #[.string (tx b)] w (ReadTold w b) := by
  obtain ⟨RB, hRB⟩ : ∃ RB, w.heap.size = RB := ⟨_, rfl⟩
  obtain ⟨w1, hw1⟩ : ∃ w1, w.alloc (.cells #[.slice none 0 0, .slice none 0 0, .slice none 0 0, .slice none 0 0, .int .i64 0, .int .i64 0] 31) = w1 := ⟨_, rfl⟩
  have hg1 : Grow w w1 := by rw [← hw1]; exact (Below.refl _ _).alloc (Nat.le_refl _) _
  have hB1 : LatB w1 RB (.slice none 0 0) (.slice none 0 0) (.slice none 0 0) (.slice none 0 0) (.int .i64 0) (.int .i64 0) := by rw [← hw1, ← hRB]; exact LatB.new _ _ _ _ _ _ _
  have P1 := K.lab b w1 (ht.later hg1)
  have HD : Hid (∀ v x a w', ReadV w.heap.size w' b v x a ↔ ((labelsP b).2.1 ≠ 0 ∧ v = lat0 ∧ x = (labelsP b).2.1 ∧ a = ((labelsP b).2.2 : Int)) ∨ ((labelsP b).2.1 = 0 ∧ a = 0 ∧ MadeV w.heap.size w' (prs (labelsP b).1) v x)) := Lib.hid (fun _ _ _ _ => Iff.rfl)
  have H := Lib.hid (And.intro hg1 (And.intro hB1 hRB))
  have hRB2 := hRB
  clear hg1 hB1 ht K
  generalize labelsP b = Q at *
  obtain ⟨pl, px, pp⟩ := Q
  simp only at HD
  go_enter Tryd.func13, Tryd.ntmps13
  go_wp2_with fail
  refine P1.mono ?_
  rintro e w2 ⟨al, m, cl, rfl, hR, hg2⟩
  have H2 := Lib.hid (And.intro (prms_rows hR) (And.intro (Grow.trans H.out.1 hg2) (H.out.2.1.later hg2)))
  clear hR hg2 P1 hw1
  by_cases hx : px = 0
  case neg =>
    have hxb : (px != 0) = true := by simpa using hx
    have HX := Lib.hid hx
    have HB := Lib.hid H2.out.2.2
    obtain ⟨⟨m0, m1, m2⟩, m3, m4, m5⟩ := HB.out.cells
    obtain ⟨⟨z0, z1, z2⟩, z3, z4, z5⟩ := HB.out.free
    have HS := Lib.hid (lat_set6 (w := w2) HB.out.h (.slice none 0 0) (.slice none 0 0) (.slice none 0 0) (.slice none 0 0) (.int .i64 0) (.int .i64 0))
    clear hx
    simp only
    go_wp2_with fail
    refine bodyPost_ret (res_lat3 rfl _ _ RB [.slice none 0 0, .slice none 0 0, .slice none 0 0, .slice none 0 0, .int .i64 0, .int .i64 0] rfl HS.out.1 (.int .i64 px) (.int .i64 (pp : Int)) rfl rfl rfl) rfl ⟨Below.trans H2.out.2.1 (HS.out.2.below H2.out.2.1.size (by simp; omega)), lat0, px, (pp : Int), rfl, (HD.out _ _ _ _).2 (.inl ⟨HX.out, rfl, rfl, rfl⟩)⟩
  subst hx
  have P2 := code_make (.slice al m cl) m (prs pl) w2 H2.out.1
  simp only
  go_wp2_with fail
  refine P2.mono ?_
  rintro e w3 ⟨hg3, v, x, rfl, hMd⟩
  obtain ⟨b0, k0, b1, k1, b2, k2, b3, k3, nn, y4, y5, rfl⟩ := hMd.six
  have H3 := Lib.hid (And.intro hMd hg3)
  obtain ⟨W, hW⟩ : ∃ W, w3.alloc (.cells #[.slice b0 nn k0, .slice b1 nn k1, .slice b2 nn k2, .slice b3 nn k3, .int .i64 y4, .int .i64 y5] 31) = W := ⟨_, rfl⟩
  have HgW : Hid (Grow w3 W) := Lib.hid (by rw [← hW]; exact (Below.refl _ _).alloc (Nat.le_refl _) _)
  have hbW : LatB W w3.heap.size (.slice b0 nn k0) (.slice b1 nn k1) (.slice b2 nn k2) (.slice b3 nn k3) (.int .i64 y4) (.int .i64 y5) := by rw [← hW]; exact LatB.new _ _ _ _ _ _ _
  obtain ⟨⟨q0, q1, q2⟩, q3, q4, q5⟩ := hbW.cells
  have HB := Lib.hid (H2.out.2.2.later (Grow.trans hg3 HgW.out))
  obtain ⟨⟨m0, m1, m2⟩, m3, m4, m5⟩ := HB.out.cells
  obtain ⟨⟨z0, z1, z2⟩, z3, z4, z5⟩ := HB.out.free
  have HS := Lib.hid (lat_set6 (w := W) HB.out.h (.slice b0 nn k0) (.slice b1 nn k1) (.slice b2 nn k2) (.slice b3 nn k3) (.int .i64 y4) (.int .i64 y5))
  have s2 : RB < w2.heap.size := H2.out.2.2.lt
  have s3 : w2.heap.size ≤ w3.heap.size := hg3.size
  have hne : w3.heap.size ≠ RB := by omega
  have hne2 : ¬ RB = w3.heap.size := by omega
  clear hbW hMd hg3 P2
  go_wp2_with fail
  generalize hW9 : (((((W.setCell ⟨RB, 0, none⟩ _).setCell ⟨RB, 1, none⟩ _).setCell ⟨RB, 2, none⟩ _).setCell ⟨RB, 3, none⟩ _).setCell ⟨RB, 4, none⟩ _).setCell ⟨RB, 5, none⟩ _ = w9
  have HS2 := HS.out
  rw [hW9] at HS2
  have e8 : Grow w W := Grow.trans H2.out.2.1 (Grow.trans H3.out.2 HgW.out)
  refine bodyPost_ret (res_lat3 rfl _ _ RB [.slice b0 nn k0, .slice b1 nn k1, .slice b2 nn k2, .slice b3 nn k3, .int .i64 y4, .int .i64 y5] rfl HS2.1 (.int .i64 x) (.int .i64 0) rfl rfl rfl) rfl ⟨Below.trans e8 (HS2.2.below e8.size (by simp; omega)), _, x, 0, rfl, (HD.out _ _ _ _).2 (.inr ⟨by trivial, by trivial, ?_⟩)⟩
  exact ((H3.out.1.later HgW.out).chg HS2.2 (by simp; omega)).mono H2.out.2.1.size

end Go.Proofs.YtlgfijjkbomejaaDoor
