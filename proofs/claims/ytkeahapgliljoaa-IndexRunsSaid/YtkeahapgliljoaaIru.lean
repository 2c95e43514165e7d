/- IndexRuns, walked over what is asked of the code's index. Numbers and types by name. -/
import Derived.Test.YtkeahapgliljoaaIaw
import Derived.Test.YtkeahapgliljoaaIhv
import Derived.Test.YtkeahapgliljoaaOpr
namespace Go.Proofs.Ytkeahapgliljoaa
open Go.RowKit Go.Lib
set_option maxRecDepth 100000

/-- Ahead of an act: the index is L, and so is the list. -/
def RunI (C : World → Nat → List Prm → List Nat → Prop) (w0 wl : World) (x k : Nat) (rv : Value) (n : Nat) : Prop :=
  ∃ L F, C wl x L F ∧ Fine L ∧ L.length ≤ k ∧ Prr wl rv n L ∧ (∀ a, rv.ownBlock = some a → a ∉ F) ∧ (∀ q ∈ F, w0.heap.size ≤ q) ∧ Grow w0 wl

theorem RunI.new {C : World → Nat → List Prm → List Nat → Prop} (K : IxK C) {w0 wl w' : World} {x k : Nat} {rv : Value} {n : Nat} (h : RunI C w0 wl x k rv n) (t : Turn [] wl w') : RunI C w0 w' x k rv n := by
  obtain ⟨L, F, h1, h2, h3, h4, h5, h6, h7⟩ := h
  exact ⟨L, F, K.keep h1 t (by simp), h2, h3, h4.turn t (by simp), h5, h6, h7.trans (tg9 t)⟩
theorem str_size (s : ByteArray) : (s.size : Int) = ((s.toList.length : Nat) : Int) := by rw [ByteArray.toList_eq]; show ((s.data.size : Nat) : Int) = _; rw [Array.length_toList]

theorem Opr.one (w : World) (o : Opm) (h : o.key.size ≤ 200 ∧ o.val.size ≤ 200) : Opr (w.alloc (.cells (ov o).toArray 35)) (.slice (some ⟨w.heap.size, 0, none⟩) 1 1) 1 [o] :=
  ⟨rfl, by unfold maxLen; decide, by simpa [ovs] using Cells.lit w (ov o) 35 (0, 0) 3 1 rfl, fun p hp => by rw [List.mem_singleton.1 hp]; unfold maxLen; exact ⟨by omega, by omega⟩⟩
theorem fine_bulk {L : List Prm} (h : Fine L) : ∀ o ∈ L, o.key.size ≤ maxLen ∧ o.val.size ≤ maxLen := fun o ho => by have := h.small o ho; unfold maxLen; exact ⟨by omega, by omega⟩

/-- The list behind an act, out of Apply. -/
theorem apply_one {C : World → Nat → List Prm → List Nat → Prop} (rv : Value) (n : Nat) (L : List Prm) (o : Opm) (w : World) (hr : Prr w rv n L) (hf : Fine L) (ho : o.key.size ≤ 200 ∧ o.val.size ≤ 200) (hf2 : Fine (applyP L [o])) :
    Calls Try.prog 11 #[rv, .slice (some ⟨w.heap.size, 0, none⟩) 1 1] (w.alloc (.cells (ov o).toArray 35)) fun e w' => ∃ ao q c, e = .returned (.slice ao q c) ∧ q = (applyP L [o]).length ∧ Prr w' (.slice ao q c) q (applyP L [o]) ∧ (∀ a, (Value.slice ao q c).ownBlock = some a → w.heap.size ≤ a) ∧ Turn [] w w' := by
  have t : Turn [] w (w.alloc (.cells (ov o).toArray 35)) := (Turn.refl [] w).alloc _
  refine (ref_apply rv _ n 1 L [o] _ (hr.turn t (by simp)) (Opr.one w o ho) (by have := hf.len; have := hr.1; omega) (by omega)).mono ?_
  rintro e w' ⟨ao, q, c, rfl, hq, hown, hb⟩
  refine ⟨ao, q, c, rfl, hq, ?_, fun a ha => ?_, t.trans (tb9 hb)⟩
  · have := Cells.own (show w'.ownsRow _ 49 2 (.slice ao q c) _ (pvs (applyP L [o])) from hown) (by decide)
    rw [← hq] at this
    exact ⟨hq, by have := hf2.len; unfold maxLen; omega, this, fine_bulk hf2⟩
  · have := (World.ownsRow.lt hown a ha).1
    have := t.size
    omega

/-- Behind a writing call of the index and the list made anew. -/
theorem run_next {C : World → Nat → List Prm → List Nat → Prop} (K : IxK C) {w0 W w3 w4 : World} {x k : Nat} {M' : List Prm} {F : List Nat} {rv : Value} {n : Nat} (hF : ∀ q ∈ F, w0.heap.size ≤ q) (hg : Grow w0 W) (hn : INext C W w3 x M' F) (hf : Fine M') (hl : M'.length ≤ k + 1) (hp : Prr w4 rv n M') (hfr : ∀ a, rv.ownBlock = some a → w3.heap.size ≤ a) (t : Turn [] w3 w4) : RunI C w0 w4 x (k + 1) rv n := by
  obtain ⟨F', h1, h2, t2⟩ := hn
  refine ⟨M', F', K.keep h1 t (by simp), hf, hl, hp, fun a ha hm => ?_, fun q hq => ?_, ?_⟩
  · have := hfr a ha
    have := K.lt h1 a hm
    omega
  · rcases h2 q hq with h | h
    · exact hF q h
    · exact Nat.le_trans hg.size h
  · have t0 : Turn [] w0 w3 := (tb9 hg).trans' t2 fun q hq => .inr (hF q hq)
    exact tg9 (t0.trans t)

set_option maxHeartbeats 8000000 in
theorem runs_index {C : World → Nat → List Prm → List Nat → Prop} (K : IxK C) (b : Int) (v : Value) (n : Nat) (L : List Iam) (w : World) (hr : Iar w v n L) :
    Calls Try.prog 3 #[.int .i64 b, v] w fun e w' => e = .returned (.bool true) ∧ Below w.heap.size w w' := by
  obtain ⟨ao, c, rfl⟩ := hr.shape
  have HK := Lib.hid K
  have HV := heavy_index _ n L w hr
  have HR := Lib.hid hr
  clear K hr
  go_enter Try.func3, Try.ntmps3
  go_wp2_with fail
  refine HV.mono ?_
  rintro e w1 ⟨g, rfl, hw, hl⟩
  obtain rfl := hw.symm
  clear HV
  cases g with
  | true =>
    clear hl
    go_wp2_with (go_at_call 7; refine (awake_index HK.out _).mono ?_; rintro e w' ⟨rfl, hb9⟩)
    go_ret
    exact ⟨rfl, hb9⟩
  | false =>
  have HL := Lib.hid (hl rfl)
  have N0 := HK.out.new b w
  clear hl
  go_wp2_with fail
  refine N0.mono ?_
  rintro e w2 ⟨x, F, rfl, h1, hF, t1⟩
  have HR0 : Hid (RunI C w w2 x 0 (.slice none 0 0) 0) := Lib.hid ⟨[], F, h1, Fine.nil, Nat.le_refl _, Prr.nil _, (fun a h => by cases h), hF, tg9 t1⟩
  have hn3 : n ≤ 300 := by have := HL.out.1; have := HR.out.1; omega
  unfold theIx
  clear h1 hF t1 N0
  go_wp2_with fail
  go_loopw [6, 7] (fun rv i wr => ∃ (k q cq : Nat) (aq : Option Addr), k ≤ n ∧ i = .int .i64 k ∧ rv = .slice aq q cq ∧ Hid (RunI C w wr x k (.slice aq q cq) q)) (fun _ i _ => n - (RowKit.intOf i).toNat)
  case atStart => exact ⟨0, 0, 0, none, Nat.zero_le _, rfl, rfl, HR0⟩
  case round =>
    obtain ⟨k, q, cq, aq, hk, rfl, rfl, hrel⟩ := hrel
    clear HR0
    by_cases h1 : k < n
    · have h3 : (k : Int) < (n : Int) := by omega
      obtain ⟨M, F, g1, g2, g3, g4, g5, g6, g7⟩ := hrel.out
      obtain ⟨a, o, rfl, ho, c0, c1, c2, s1, s2⟩ := (HR.out.later g7).at h1
      have hsm := HL.out.2 o (List.mem_of_getElem? ho)
      obtain ⟨d, ky, vl⟩ := o
      simp only at c0 c1 c2 hsm
      obtain ⟨W, hW⟩ : ∃ W, W = wr.alloc (.cells #[.int .i64 d, .string ky, .string vl] 29) := ⟨_, rfl⟩
      obtain ⟨B, hB⟩ : ∃ B, B = wr.heap.size := ⟨_, rfl⟩
      have hBW : W.heap[B]? = some (.cells #[.int .i64 d, .string ky, .string vl] 29) := by rw [hW, hB]; exact heap_alloc_new _ _
      have tW : Turn [] wr W := by rw [hW]; exact (Turn.refl [] wr).alloc _
      have HFD := find_pairs (.slice aq q cq) q M ky W (g4.turn tW (by simp))
      have HG := Lib.hid (And.intro (HK.out.keep g1 tW (by simp)) (And.intro g2 (And.intro g3 (And.intro (g4.turn tW (by simp)) (And.intro g5 (And.intro g6 (And.intro (g7.trans (tg9 tW)) (HK.out.lt g1))))))))
      have HB := Lib.hid (And.intro hBW (And.intro hB (And.intro tW hsm)))
      have b0 := cells_of hBW 0 _ rfl
      have b1 := cells_of hBW 1 _ rfl
      have b2 := cells_of hBW 2 _ rfl
      have eW : wr.alloc (Obj.cells #[.int .i64 d, .string ky, .string vl] 29) = W := hW.symm
      have eB : wr.heap.size = B := hB.symm
      obtain ⟨fv, hfv⟩ : ∃ fv, fv = (findP M ky).1 := ⟨_, rfl⟩
      obtain ⟨fo, hfo⟩ : ∃ fo, fo = (findP M ky).2 := ⟨_, rfl⟩
      rw [← hfv, ← hfo] at HFD
      have HFV := Lib.hid (And.intro hfv hfo)
      clear g1 g2 g3 g4 g5 g6 g7 ho hsm s1 s2 hBW tW hW hB hrel hfv hfo
      go_wp2_with fail
      refine HFD.mono ?_
      rintro e w3 ⟨rfl, hw3⟩
      obtain rfl := hw3.symm
      clear HFD eW eB
      have hcase : (d = 0 ∨ d = 1) ∨ d = 2 ∨ d = 3 ∨ (¬ d = 0 ∧ ¬ d = 1 ∧ ¬ d = 2 ∧ ¬ d = 3) := by omega
      rcases hcase with hd | rfl | rfl | ⟨d0, d1, d2, d3⟩
      · rcases hd with rfl | rfl
        all_goals
          have P1 := HK.out.put HG.out.1 HG.out.2.1 ky vl HB.out.2.2.2.1 HB.out.2.2.2.2
          unfold theIx at P1
          go_wp2_with fail
          refine P1.mono ?_
          rintro e w3 ⟨rfl, hn⟩
          have hf2 : Fine (putP ⟨ky, vl⟩ M) := HG.out.2.1.put (by have := HG.out.2.2.1; omega) HB.out.2.2.2.1 HB.out.2.2.2.2
          have hl2 : (putP ⟨ky, vl⟩ M).length ≤ k + 1 := by have := putP_length ⟨ky, vl⟩ M; have := HG.out.2.2.1; omega
          obtain ⟨M', hM'⟩ : ∃ M', M' = putP ⟨ky, vl⟩ M := ⟨_, rfl⟩
          have hap : applyP M [⟨false, ky, vl⟩] = M' := by rw [hM', apply_put HG.out.2.1.rise]
          rw [← hM'] at hn hf2 hl2
          obtain ⟨F3, h3c, h3s, t3⟩ := hn
          have hBF : B ∉ F := fun hm => by have := HG.out.2.2.2.2.2.2.2 B hm; have := HB.out.2.1; omega
          have hB3 := t3.heap HB.out.1 hBF
          have hp3 := HG.out.2.2.2.1.turn t3 HG.out.2.2.2.2.1
          have A1 := apply_one (C := C) (.slice aq q cq) q M ⟨false, ky, vl⟩ w3 hp3 HG.out.2.1 ⟨HB.out.2.2.2.1, HB.out.2.2.2.2⟩ (by rw [hap]; exact hf2)
          rw [hap] at A1
          have HN3 := Lib.hid (show INext C W w3 x M' F from ⟨F3, h3c, h3s, t3⟩)
          have H3 := Lib.hid (And.intro hf2 (And.intro hl2 h3c))
          clear b0 b1 b2
          have b0 := cells_of hB3 0 _ rfl
          have b1 := cells_of hB3 1 _ rfl
          have b2 := cells_of hB3 2 _ rfl
          clear hM' hap hf2 hl2 h3c h3s t3 hBF hB3 hp3 P1
          go_wp2_with fail
          refine A1.mono ?_
          rintro e w4 ⟨an, qn, cn, rfl, hqn, hpn, hfr, t4⟩
          have L1 := HK.out.len (HK.out.keep H3.out.2.2 t4 (by simp)) H3.out.1
          rw [show (M'.length : Int) = (qn : Int) by rw [hqn]] at L1
          clear hqn
          have H4 := Lib.hid (And.intro hpn (And.intro hfr t4))
          unfold theIx at L1
          clear hpn hfr t4 A1 b0 b1 b2
          go_wp2_with fail
          refine L1.mono ?_
          rintro e w5 ⟨rfl, t5⟩
          have HN5 : Hid (RunI C w w5 x (k + 1) (.slice an qn cn) qn) := Lib.hid (run_next HK.out HG.out.2.2.2.2.2.1 HG.out.2.2.2.2.2.2.1 HN3.out H3.out.1 H3.out.2.1 (H4.out.1.turn t5 (by simp)) H4.out.2.1 (H4.out.2.2.trans t5))
          clear t5 L1
          have hk9 : k < 9223372036854775807 := by omega
          go_wp2_with fail
          exact ⟨⟨k + 1, qn, cn, an, by omega, by rw [Int.natCast_succ], rfl, HN5⟩, by simp [RowKit.intOf]; omega⟩
      · as_aux_lemma =>
          have G1 := HK.out.get HG.out.1 HG.out.2.1 ky HB.out.2.2.2.1
          rw [← HFV.out.1, ← HFV.out.2] at G1
          unfold theIx at G1
          have n1 : (fv.toList != fv.toList) = false := by simp
          have n2 : (fo != fo) = false := by simp
          go_wp2_with fail
          refine G1.mono ?_
          rintro e w4 ⟨rfl, t4⟩
          have H4 := Lib.hid t4
          clear t4 G1 b0 b1 b2
          have L1 := HK.out.len (HK.out.keep HG.out.1 H4.out (by simp)) HG.out.2.1
          unfold theIx at L1
          rw [show (M.length : Int) = (q : Int) by have := HG.out.2.2.2.1.1; omega] at L1
          go_wp2_with fail
          refine L1.mono ?_
          rintro e w5 ⟨rfl, t5⟩
          have HN5 : Hid (RunI C w w5 x (k + 1) (.slice aq q cq) q) := Lib.hid (RunI.new HK.out ⟨M, F, HG.out.1, HG.out.2.1, by have := HG.out.2.2.1; omega, HG.out.2.2.2.1, HG.out.2.2.2.2.1, HG.out.2.2.2.2.2.1, HG.out.2.2.2.2.2.2.1⟩ (H4.out.trans t5))
          clear t5 L1
          have hk9 : k < 9223372036854775807 := by omega
          go_wp2_with fail
          exact ⟨⟨k + 1, q, cq, aq, by omega, by rw [Int.natCast_succ], rfl, HN5⟩, by simp [RowKit.intOf]; omega⟩
      · as_aux_lemma =>
          have n2 : (fo != fo) = false := by simp
          have P1 := HK.out.del HG.out.1 HG.out.2.1 ky HB.out.2.2.2.1
          rw [← HFV.out.2] at P1
          unfold theIx at P1
          go_wp2_with fail
          refine P1.mono ?_
          rintro e w3 ⟨rfl, hn⟩
          have hf2 : Fine (delP M ky) := HG.out.2.1.del ky
          have hl2 : (delP M ky).length ≤ k + 1 := by have := List.length_filter_le (fun y => !decide (y.key = ky)) M; have := HG.out.2.2.1; unfold delP; omega
          obtain ⟨M', hM'⟩ : ∃ M', M' = delP M ky := ⟨_, rfl⟩
          have hap : applyP M [⟨true, ky, ⟨#[]⟩⟩] = M' := by rw [hM', apply_del HG.out.2.1.rise]
          rw [← hM'] at hn hf2 hl2
          obtain ⟨F3, h3c, h3s, t3⟩ := hn
          have hBF : B ∉ F := fun hm => by have := HG.out.2.2.2.2.2.2.2 B hm; have := HB.out.2.1; omega
          have hB3 := t3.heap HB.out.1 hBF
          have hp3 := HG.out.2.2.2.1.turn t3 HG.out.2.2.2.2.1
          have A1 := apply_one (C := C) (.slice aq q cq) q M ⟨true, ky, ⟨#[]⟩⟩ w3 hp3 HG.out.2.1 ⟨HB.out.2.2.2.1, by show (0 : Nat) ≤ 200; omega⟩ (by rw [hap]; exact hf2)
          rw [hap] at A1
          have HN3 := Lib.hid (show INext C W w3 x M' F from ⟨F3, h3c, h3s, t3⟩)
          have H3 := Lib.hid (And.intro hf2 (And.intro hl2 h3c))
          clear b0 b1 b2
          have b0 := cells_of hB3 0 _ rfl
          have b1 := cells_of hB3 1 _ rfl
          have b2 := cells_of hB3 2 _ rfl
          clear hM' hap hf2 hl2 h3c h3s t3 hBF hB3 hp3 P1
          go_wp2_with fail
          refine A1.mono ?_
          rintro e w4 ⟨an, qn, cn, rfl, hqn, hpn, hfr, t4⟩
          have L1 := HK.out.len (HK.out.keep H3.out.2.2 t4 (by simp)) H3.out.1
          rw [show (M'.length : Int) = (qn : Int) by rw [hqn]] at L1
          clear hqn
          have H4 := Lib.hid (And.intro hpn (And.intro hfr t4))
          unfold theIx at L1
          clear hpn hfr t4 A1 b0 b1 b2
          go_wp2_with fail
          refine L1.mono ?_
          rintro e w5 ⟨rfl, t5⟩
          have HN5 : Hid (RunI C w w5 x (k + 1) (.slice an qn cn) qn) := Lib.hid (run_next HK.out HG.out.2.2.2.2.2.1 HG.out.2.2.2.2.2.2.1 HN3.out H3.out.1 H3.out.2.1 (H4.out.1.turn t5 (by simp)) H4.out.2.1 (H4.out.2.2.trans t5))
          clear t5 L1
          have hk9 : k < 9223372036854775807 := by omega
          go_wp2_with fail
          exact ⟨⟨k + 1, qn, cn, an, by omega, by rw [Int.natCast_succ], rfl, HN5⟩, by simp [RowKit.intOf]; omega⟩
      · as_aux_lemma =>
          have e0 : (d == 0) = false := by simpa using d0
          have e1 : (d == 1) = false := by simpa using d1
          have e2 : (d == 2) = false := by simpa using d2
          have e3 : (d == 3) = false := by simpa using d3
          clear d0 d1 d2 d3
          have L1 := HK.out.len HG.out.1 HG.out.2.1
          unfold theIx at L1
          rw [show (M.length : Int) = (q : Int) by have := HG.out.2.2.2.1.1; omega] at L1
          go_wp2_with fail
          refine L1.mono ?_
          rintro e w5 ⟨rfl, t5⟩
          have HN5 : Hid (RunI C w w5 x (k + 1) (.slice aq q cq) q) := Lib.hid (RunI.new HK.out ⟨M, F, HG.out.1, HG.out.2.1, by have := HG.out.2.2.1; omega, HG.out.2.2.2.1, HG.out.2.2.2.2.1, HG.out.2.2.2.2.2.1, HG.out.2.2.2.2.2.2.1⟩ t5)
          clear t5 L1
          have hk9 : k < 9223372036854775807 := by omega
          go_wp2_with fail
          exact ⟨⟨k + 1, q, cq, aq, by omega, by rw [Int.natCast_succ], rfl, HN5⟩, by simp [RowKit.intOf]; omega⟩
    · have h3 : ¬ (k : Int) < (n : Int) := by omega
      obtain rfl : k = n := by omega
      obtain ⟨M, F, g1, g2, g3, g4, g5, g6, g7⟩ := hrel.out
      have A1 := HK.out.all g1 g2
      have HG := Lib.hid (And.intro g4 g7)
      unfold theIx at A1
      clear g1 g2 g3 g4 g5 g6 g7 hrel
      go_wp2_with fail
      refine A1.mono ?_
      rintro e w4 ⟨am, qm, cm, rfl, hpm, t4⟩
      have PT := same_pairs _ _ qm q M M w4 hpm (HG.out.1.turn t4 (by simp))
      have H4 := Lib.hid (HG.out.2.trans (tg9 t4))
      clear hpm t4 A1
      go_wp2_with fail
      refine PT.mono ?_
      rintro e w5 ⟨k5, rfl, hw5⟩
      have H5 := Lib.hid (show Grow w w5 by rw [hw5]; exact below_drewN H4.out k5)
      rw [decide_eq_true rfl]
      clear PT hw5
      go_wp2_with (go_at_call 7; refine (awake_index HK.out _).mono ?_; rintro e w' ⟨rfl, hb9⟩)
      go_ret
      exact ⟨rfl, H5.out.trans hb9⟩

end Go.Proofs.Ytkeahapgliljoaa
