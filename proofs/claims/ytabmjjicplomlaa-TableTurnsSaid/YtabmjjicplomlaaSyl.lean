/- The stable sort's merge of ops, of two parts of several ops, the first no longer than half of it all: the walk. Numbers and types by name. -/
import Derived.Test.YtabmjjicplomlaaSyp
/- The stable sort's merge of ops, of two parts of several ops, the first longer than half of it all: the walk. Numbers and types by name. -/
namespace Go.Proofs.Ytabmjjicplomlaa
open Go.RowKit Go.Lib Go.Sort

set_option maxRecDepth 100000 in
set_option maxHeartbeats 16000000 in
theorem merge_hi (w0 : World) (blk off n cap N : Nat) (B0 : Lies w0 blk off n) (IH : Merges w0 blk off n cap N) (P A B S : List Opm) (W : World) (m b mid : Nat) (hA : Asc A) (hB : Asc B) (hA1 : 2 ≤ A.length) (hB1 : 2 ≤ B.length) (hN : A.length + B.length ≤ N + 1)
    (hm : P.length + A.length = m) (hb : m + B.length = b) (hmid : (P.length + b) / 2 = mid) (hmm : mid < m) (h : Srts w0 blk off n (P ++ A ++ B ++ S) W) :
    Calls Try.prog 64 #[.slice (some ⟨blk, off, none⟩) n cap, .int .i64 (P.length : Nat), .int .i64 (m : Nat), .int .i64 (b : Nat), cmpF] W (Sorted1 w0 blk off n P (A ++ B) S) := by
  have HB := Lib.hid B0
  have HIH := Lib.hid IH
  have mixed : Try.prog.follows .mixedOrders = true := by kernel_rfl
  have hn : b ≤ n := by have := h.1; simp at this; omega
  have hn2 := B0.1
  have H0 := Lib.hid (And.intro h (And.intro hA hB))
  clear h B0 hA hB IH
  unfold cmpF
  obtain ⟨p, hp⟩ : ∃ p, P.length = p := ⟨_, rfl⟩
  obtain ⟨la, hla⟩ : ∃ l, A.length = l := ⟨_, rfl⟩
  obtain ⟨lb, hlb⟩ : ∃ l, B.length = l := ⟨_, rfl⟩
  rw [hp] at hm hmid ⊢
  rw [hla] at hm hA1 hN
  rw [hlb] at hb hB1 hN
  obtain ⟨hf, hhf⟩ : ∃ hf, p + hf = mid := ⟨mid - p, by omega⟩
  obtain ⟨q0, hq0⟩ : ∃ q0, q0 + 1 = mid + m := ⟨mid + m - 1, by omega⟩
  have e0 : ¬ (m : Int) - (p : Int) = 1 := by omega
  have e0b : ((m : Int) - (p : Int) == 1) = false := by simpa using e0
  have e1 : ¬ (b : Int) - (m : Int) = 1 := by omega
  have e1b : ((b : Int) - (m : Int) == 1) = false := by simpa using e1
  have e2 : ((p : Int) + (b : Int)) / 2 = (mid : Int) := by omega
  have hmn : m ≤ n := by omega
  have hpm : p ≤ m := by omega
  have hdn : mid ≤ n := by omega
  have hpb : p + b ≤ 2 * n := by omega
  have e3 : (mid : Int) < (m : Int) := by omega
  obtain ⟨st, hst⟩ : ∃ st, st + b = mid + m := ⟨mid + m - b, by omega⟩
  have e4 : (mid : Int) + (m : Int) - (b : Int) = (st : Int) := by omega
  have e5 : (mid : Int) + (m : Int) - 1 = (q0 : Int) := by omega
  have hsd : p ≤ st ∧ st ≤ mid ∧ mid ≤ m ∧ mid ≤ mid ∧ mid + m ≤ st + b ∧ st + b = mid + m ∧ mid < m := by omega
  have HL := Lib.hid (And.intro hp (And.intro hla (And.intro hlb (And.intro hm (And.intro hb (And.intro hmid (And.intro hhf (And.intro hq0 (And.intro hA1 (And.intro hB1 (And.intro hN hsd)))))))))))
  clear hp hla hlb hm hb hmid hhf hq0 hA1 hB1 hN hsd hmm hst
  go_enter Try.func64, Try.ntmps64
  go_wp2_with fail
  go_loopw [20, 21] (fun i j wr => ∃ (i1 j1 : Nat), i = .int .i64 (i1 : Int) ∧ j = .int .i64 (j1 : Int) ∧ st ≤ i1 ∧ i1 ≤ j1 ∧ j1 ≤ mid ∧ Hid (Srts w0 blk off n (P ++ A ++ B ++ S) wr ∧ (∀ t x y, st ≤ p + t → p + t < i1 → A[t]? = some x → B[hf - 1 - t]? = some y → ¬ kO y < kO x) ∧ (∀ t x y, j1 ≤ p + t → p + t < mid → A[t]? = some x → B[hf - 1 - t]? = some y → kO y < kO x)))
    (fun i j _ => (RowKit.intOf j).toNat - (RowKit.intOf i).toNat)
  case atStart => exact ⟨st, mid, rfl, rfl, Nat.le_refl _, HL.out.2.2.2.2.2.2.2.2.2.2.2.2.1, Nat.le_refl _, Lib.hid ⟨H0.out.1, fun t x y h1 h2 => by omega, fun t x y h1 h2 => by omega⟩⟩
  case round =>
    clear e0 e0b e1 e1b e2 e3 e5 e4
    obtain ⟨i1, j1, rfl, rfl, hmi, hij, hjb, hs⟩ := hrel
    by_cases hlt : i1 < j1
    · obtain ⟨hp, hla, hlb, hm, hb, hmid, hhf, hq0, hA1, hB1, hN, hsd⟩ := HL.out
      have h3 : (i1 : Int) < (j1 : Int) := by omega
      have hib : i1 + j1 ≤ 2 * n := by omega
      obtain ⟨c, hc⟩ : ∃ c : Nat, (i1 + j1) / 2 = c := ⟨_, rfl⟩
      have hcz : ((i1 : Int) + (j1 : Int)) / 2 = (c : Int) := by omega
      obtain ⟨t, ht⟩ : ∃ t, p + t = c := ⟨c - p, by omega⟩
      obtain ⟨pc, hpc⟩ : ∃ pc, pc + c = q0 := ⟨q0 - c, by omega⟩
      have w1 : IntKind.i64.wrap ((q0 : Int) - (c : Int)) = (pc : Int) := by rw [IntKind.wrap_i64]; omega
      obtain ⟨x, hx⟩ : ∃ x, A[t]? = some x := ⟨_, List.getElem?_eq_getElem (by omega)⟩
      obtain ⟨y, hy⟩ : ∃ y, B[hf - 1 - t]? = some y := ⟨_, List.getElem?_eq_getElem (by omega)⟩
      obtain ⟨s1, s2, s3⟩ := hs.out
      have ax : (P ++ A ++ B ++ S)[c]? = some x := by
        have := row_at (P := P) (A := A) (R := B ++ S) (t := t) (x := x) hx
        rw [hp, ht, ← List.append_assoc] at this
        exact this
      have ay : (P ++ A ++ B ++ S)[pc]? = some y := by
        have := row_at (P := P ++ A) (A := B) (R := S) (t := hf - 1 - t) (x := y) hy
        rw [List.length_append, hp, hla, show p + la + (hf - 1 - t) = pc by omega] at this
        exact this
      have l2 : (c : Int) < (n : Int) := by omega
      have l3 : (pc : Int) < (n : Int) := by omega
      have l2' : c < n := by omega
      have l3' : pc < n := by omega
      have cx := fun q os => ((s1.grown q os).cells HB.out ax).1
      have cy := fun q os => ((s1.grown q os).cells HB.out ay).1
      have hci : i1 ≤ c := by omega
      have hcj : c < j1 := by omega
      have HR := Lib.hid (And.intro ht (And.intro hx (And.intro hy (And.intro s1 (And.intro s2 (And.intro s3 (And.intro hmi (And.intro hij (And.intro hjb (And.intro hci hcj))))))))))
      obtain ⟨cv, hcv⟩ : ∃ cv, compareBytes (kO y) (kO x) = cv := ⟨_, rfl⟩
      have CV := fun w => cmp_as hcv w
      have CL : Hid ((cv < 0) = (kO y < kO x)) := Lib.hid (by rw [← hcv]; exact propext (cmp_lt _ _))
      obtain ⟨xd, xk, xv⟩ := x
      obtain ⟨yd, yk, yv⟩ := y
      simp only at cx cy
      have x0 := fun q os => (cx q os).1
      have x1 := fun q os => (cx q os).2.1
      have x2 := fun q os => (cx q os).2.2
      have y0 := fun q os => (cy q os).1
      have y1 := fun q os => (cy q os).2.1
      have y2 := fun q os => (cy q os).2.2
      clear cx cy s1 s2 s3 ax ay ht hx hy hcv hc hmi hij hjb hs hp hla hlb hm hb hmid hhf hq0 hA1 hB1 hN hsd hpc
      by_cases c1 : cv < 0
      · have c2 : decide (cv < 0) = true := by simpa using c1
        go_wp2_with fail
        go_quiet_grown (refine Calls.grown_of (CV _))
        go_wp2_with fail
        obtain ⟨ht, hx, hy, s1, s2, s3, hmi, hij, hjb, hci, hcj⟩ := HR.out
        have hlz : kO ⟨yd, yk, yv⟩ < kO ⟨xd, xk, xv⟩ := CL.out ▸ c1
        refine ⟨⟨i1, c, rfl, by simp, hmi, by omega, by omega, Lib.hid ⟨s1.grown nq osq, s2, fun t' x' y' h1' h2' hx' hy' => ?_⟩⟩, by simp only [RowKit.intOf]; omega⟩
        exact key_lt_of (Asc.at H0.out.2.2 (show hf - 1 - t' ≤ hf - 1 - t by omega) hy' hy) (key_lt_of' hlz (Asc.at H0.out.2.1 (show t ≤ t' by omega) hx hx'))
      · have c2 : decide (cv < 0) = false := by simpa using c1
        go_wp2_with fail
        go_quiet_grown (refine Calls.grown_of (CV _))
        go_wp2_with fail
        obtain ⟨ht, hx, hy, s1, s2, s3, hmi, hij, hjb, hci, hcj⟩ := HR.out
        have hlz : ¬ kO ⟨yd, yk, yv⟩ < kO ⟨xd, xk, xv⟩ := by rw [← CL.out]; omega
        refine ⟨⟨c + 1, j1, by simp, rfl, by omega, by omega, hjb, Lib.hid ⟨s1.grown nq osq, fun t' x' y' h1' h2' hx' hy' => ?_, s3⟩⟩, by simp only [RowKit.intOf]; omega⟩
        exact key_nlt_trans (key_nlt_trans (Asc.at H0.out.2.1 (show t' ≤ t by omega) hx' hx) hlz) (Asc.at H0.out.2.2 (show hf - 1 - t ≤ hf - 1 - t' by omega) hy hy')
    · obtain ⟨hp, hla, hlb, hm, hb, hmid, hhf, hq0, hA1, hB1, hN, hsd⟩ := HL.out
      have h3 : ¬ (i1 : Int) < (j1 : Int) := by omega
      obtain rfl : i1 = j1 := by omega
      obtain ⟨u, hu⟩ : ∃ u, p + u = i1 := ⟨i1 - p, by omega⟩
      obtain ⟨en, hen⟩ : ∃ en, en + i1 = mid + m := ⟨mid + m - i1, by omega⟩
      have e6 : (mid : Int) + (m : Int) - (i1 : Int) = (en : Int) := by omega
      obtain ⟨s1, s2, s3⟩ := hs.out
      have PT := parted H0.out.2.1 H0.out.2.2 (h := hf) (u := u) (s0 := st - p) (r0 := mid - p) (by omega) (by omega) (by omega) (by omega) (by omega) (by omega) (by omega) (fun t x y h1 h2 => s2 t x y (by omega) (by omega)) (fun t x y h1 h2 => s3 t x y (by omega) (by omega))
      have n1 : (A.take u).length = u := by rw [List.length_take]; omega
      have n2 : (A.drop u).length = la - u := by rw [List.length_drop]; omega
      have n3 : (B.take (hf - u)).length = hf - u := by rw [List.length_take]; omega
      have n4 : (B.drop (hf - u)).length = lb - (hf - u) := by rw [List.length_drop]; omega
      generalize A.take u = A1 at PT n1
      generalize A.drop u = A2 at PT n2
      generalize B.take (hf - u) = B1 at PT n3
      generalize B.drop (hf - u) = B2 at PT n4
      have hAs := H0.out.2.1
      have hBs := H0.out.2.2
      rw [PT.a] at hAs
      rw [PT.b] at hBs
      have hS : Srts w0 blk off n (P ++ A1 ++ A2 ++ B1 ++ B2 ++ S) wr := by rw [PT.a, PT.b] at s1; simpa using s1
      have RC : Hid (i1 < m ∧ m < en → Calls Try.prog 66 #[.slice (some ⟨blk, off, none⟩) n cap, .int .i64 (i1 : Nat), .int .i64 (m : Nat), .int .i64 (en : Nat), .func (.func 53) #[] #[]] wr (Swapped w0 blk off n (P ++ A1 ++ B1 ++ A2 ++ B2 ++ S))) := Lib.hid fun hc => by
        have := rotate_runs w0 blk off n cap HB.out (P ++ A1) A2 B1 (B2 ++ S) (.func (.func 53) #[] #[]) wr (by simpa using hS) m en (by omega) (by omega) (by simp; omega) (by simp; omega)
        rw [show (P ++ A1).length = i1 by simp; omega, show P ++ A1 ++ B1 ++ A2 ++ (B2 ++ S) = P ++ A1 ++ B1 ++ A2 ++ B2 ++ S by simp] at this
        exact this
      have RN : Hid (¬ (i1 < m ∧ m < en) → Srts w0 blk off n (P ++ A1 ++ B1 ++ A2 ++ B2 ++ S) wr) := Lib.hid fun hc => by
        rcases Nat.eq_zero_or_pos A2.length with h0 | h0
        · obtain rfl := List.eq_nil_of_length_eq_zero h0; simpa using hS
        · obtain rfl : B1 = [] := List.eq_nil_of_length_eq_zero (by omega)
          simpa using hS
      have LC : Hid (∀ W1, p < i1 ∧ i1 < mid → Srts w0 blk off n (P ++ A1 ++ B1 ++ A2 ++ B2 ++ S) W1 → Calls Try.prog 64 #[.slice (some ⟨blk, off, none⟩) n cap, .int .i64 (p : Nat), .int .i64 (i1 : Nat), .int .i64 (mid : Nat), .func (.func 53) #[] #[]] W1 (Sorted1 w0 blk off n P (A1 ++ B1) (A2 ++ B2 ++ S))) := Lib.hid fun W1 hc hW => by
        have := HIH.out P A1 B1 (A2 ++ B2 ++ S) W1 i1 mid (Asc.left hAs) (Asc.left hBs) (by omega) (by omega) (by omega) (by omega) (by omega) (by simpa using hW)
        rw [hp] at this
        exact this
      have LN : Hid (¬ (p < i1 ∧ i1 < mid) → Asc (A1 ++ B1)) := Lib.hid fun hc => by
        rcases Nat.eq_zero_or_pos A1.length with h0 | h0
        · obtain rfl := List.eq_nil_of_length_eq_zero h0; exact Asc.left hBs
        · obtain rfl : B1 = [] := List.eq_nil_of_length_eq_zero (by omega)
          rw [List.append_nil]; exact Asc.left hAs
      have RRC : Hid (∀ W1 L, mid < en ∧ en < b → L.length = (A1 ++ B1).length → Srts w0 blk off n (P ++ L ++ (A2 ++ B2 ++ S)) W1 → Calls Try.prog 64 #[.slice (some ⟨blk, off, none⟩) n cap, .int .i64 (mid : Nat), .int .i64 (en : Nat), .int .i64 (b : Nat), .func (.func 53) #[] #[]] W1 (Sorted1 w0 blk off n (P ++ L) (A2 ++ B2) S)) := Lib.hid fun W1 L hc hL hW => by
        have hL2 : L.length = A1.length + B1.length := by rw [hL, List.length_append]
        have := HIH.out (P ++ L) A2 B2 S W1 en b (Asc.right hAs) (Asc.right hBs) (by omega) (by omega) (by omega) (by rw [List.length_append]; omega) (by omega) (by simpa using hW)
        rw [show (P ++ L).length = mid by rw [List.length_append]; omega] at this
        exact this
      have RRN : Hid (¬ (mid < en ∧ en < b) → Asc (A2 ++ B2)) := Lib.hid fun hc => by
        rcases Nat.eq_zero_or_pos A2.length with h0 | h0
        · obtain rfl := List.eq_nil_of_length_eq_zero h0; exact Asc.right hBs
        · obtain rfl : B2 = [] := List.eq_nil_of_length_eq_zero (by omega)
          rw [List.append_nil]; exact Asc.right hAs
      have FIN : Hid (∀ w' L R, Asc L → Same (A1 ++ B1) L → L.length = (A1 ++ B1).length → Asc R → Same (A2 ++ B2) R → R.length = (A2 ++ B2).length → Srts w0 blk off n (P ++ L ++ R ++ S) w' → Sorted1 w0 blk off n P (A ++ B) S (.returned (.tuple #[])) w') := Lib.hid fun w' L R aL sL nL aR sR nR hW => by
        obtain ⟨d1, d2⟩ := parted_done H0.out.2.1 H0.out.2.2 PT aL sL aR sR
        refine ⟨rfl, L ++ R, d1, d2, ?_, by simpa using hW⟩
        have e1 := congrArg List.length PT.a
        have e2 := congrArg List.length PT.b
        simp only [List.length_append] at nL nR e1 e2 ⊢
        omega
      have hle : en ≤ n := by omega
      have hie : i1 ≤ n := by omega
      have hcs : (i1 < m ∧ ¬ i1 < mid ∧ p < i1 ∧ en < b) ∨ (i1 < m ∧ i1 < mid ∧ p < i1 ∧ en < b) ∨ (i1 < m ∧ i1 < mid ∧ p < i1 ∧ ¬ en < b) ∨ (i1 < m ∧ i1 < mid ∧ ¬ p < i1 ∧ ¬ en < b) := by clear PT s1 s2 s3; omega
      clear s1 s2 s3 PT n1 n2 n3 n4 hAs hBs hS hp hla hlb hm hb hmid hhf hq0 hA1 hB1 hN hsd hu hs hmi hij hjb
      rcases hcs with ⟨g1, g2, g3, g4⟩ | ⟨g1, g2, g3, g4⟩ | ⟨g1, g2, g3, g4⟩ | ⟨g1, g2, g3, g4⟩
      · have fa : i1 < m := by omega
        have fai : (i1 : Int) < (m : Int) := by omega
        have fb : mid < en := by omega
        have fbi : (mid : Int) < (en : Int) := by omega
        have fc : ¬ i1 < mid := by omega
        have fci : ¬ (i1 : Int) < (mid : Int) := by omega
        have fd : ¬ m < en := by omega
        have fdi : ¬ (m : Int) < (en : Int) := by omega
        have fe : p < i1 := by omega
        have fei : (p : Int) < (i1 : Int) := by omega
        have ff : en < b := by omega
        have ffi : (en : Int) < (b : Int) := by omega
        have HS1 := Lib.hid (RN.out (fun h => by omega))
        have AL := Lib.hid (LN.out (fun h => by omega))
        have RR2 := Lib.hid (fun W1 L => RRC.out W1 L ⟨fb, ff⟩)
        obtain ⟨L, HS2⟩ : ∃ L, Hid (Asc L ∧ Same (A1 ++ B1) L ∧ L.length = (A1 ++ B1).length ∧ Srts w0 blk off n (P ++ L ++ (A2 ++ B2 ++ S)) _) := ⟨A1 ++ B1, Lib.hid ⟨AL.out, Same.refl _, rfl, by simpa using HS1.out⟩⟩
        go_wp2_with (go_at_call 64; refine (RR2.out _ _ HS2.out.2.2.1 HS2.out.2.2.2).mono ?_; rintro e w3 ⟨rfl, R, aR, sR, nR, hw3⟩; have HS3 := Lib.hid (And.intro aR (And.intro sR (And.intro nR hw3))); clear aR sR nR hw3 RR2)
        go_end0
        exact FIN.out _ _ _ HS2.out.1 HS2.out.2.1 HS2.out.2.2.1 HS3.out.1 HS3.out.2.1 HS3.out.2.2.1 HS3.out.2.2.2
      · have fa : i1 < m := by omega
        have fai : (i1 : Int) < (m : Int) := by omega
        have fb : mid < en := by omega
        have fbi : (mid : Int) < (en : Int) := by omega
        have fc : i1 < mid := by omega
        have fci : (i1 : Int) < (mid : Int) := by omega
        have fd : m < en := by omega
        have fdi : (m : Int) < (en : Int) := by omega
        have fe : p < i1 := by omega
        have fei : (p : Int) < (i1 : Int) := by omega
        have ff : en < b := by omega
        have ffi : (en : Int) < (b : Int) := by omega
        have RC2 := Lib.hid (RC.out ⟨fa, fd⟩)
        have LC2 := Lib.hid (fun W1 => LC.out W1 ⟨fe, fc⟩)
        have RR2 := Lib.hid (fun W1 L => RRC.out W1 L ⟨fb, ff⟩)
        go_wp2_with (go_at_call 66; refine RC2.out.mono ?_; rintro e w1 ⟨rfl, hw1⟩; have HS1 := Lib.hid hw1; clear hw1)
        go_wp2_with (go_at_call 64; refine (LC2.out _ HS1.out).mono ?_; rintro e w2 ⟨rfl, L, aL, sL, nL, hw2⟩; have HS2 := Lib.hid (And.intro aL (And.intro sL (And.intro nL hw2))); clear aL sL nL hw2 LC2)
        go_wp2_with (go_at_call 64; refine (RR2.out _ _ HS2.out.2.2.1 HS2.out.2.2.2).mono ?_; rintro e w3 ⟨rfl, R, aR, sR, nR, hw3⟩; have HS3 := Lib.hid (And.intro aR (And.intro sR (And.intro nR hw3))); clear aR sR nR hw3 RR2)
        go_end0
        exact FIN.out _ _ _ HS2.out.1 HS2.out.2.1 HS2.out.2.2.1 HS3.out.1 HS3.out.2.1 HS3.out.2.2.1 HS3.out.2.2.2
      · have fa : i1 < m := by omega
        have fai : (i1 : Int) < (m : Int) := by omega
        have fb : mid < en := by omega
        have fbi : (mid : Int) < (en : Int) := by omega
        have fc : i1 < mid := by omega
        have fci : (i1 : Int) < (mid : Int) := by omega
        have fd : m < en := by omega
        have fdi : (m : Int) < (en : Int) := by omega
        have fe : p < i1 := by omega
        have fei : (p : Int) < (i1 : Int) := by omega
        have ff : ¬ en < b := by omega
        have ffi : ¬ (en : Int) < (b : Int) := by omega
        have RC2 := Lib.hid (RC.out ⟨fa, fd⟩)
        have AR := Lib.hid (RRN.out (fun h => by omega))
        have LC2 := Lib.hid (fun W1 => LC.out W1 ⟨fe, fc⟩)
        go_wp2_with (go_at_call 66; refine RC2.out.mono ?_; rintro e w1 ⟨rfl, hw1⟩; have HS1 := Lib.hid hw1; clear hw1)
        go_wp2_with (go_at_call 64; refine (LC2.out _ HS1.out).mono ?_; rintro e w2 ⟨rfl, L, aL, sL, nL, hw2⟩; have HS2 := Lib.hid (And.intro aL (And.intro sL (And.intro nL hw2))); clear aL sL nL hw2 LC2)
        go_end0
        exact FIN.out _ _ _ HS2.out.1 HS2.out.2.1 HS2.out.2.2.1 AR.out (Same.refl _) rfl (by simpa using HS2.out.2.2.2)
      · have fa : i1 < m := by omega
        have fai : (i1 : Int) < (m : Int) := by omega
        have fb : mid < en := by omega
        have fbi : (mid : Int) < (en : Int) := by omega
        have fc : i1 < mid := by omega
        have fci : (i1 : Int) < (mid : Int) := by omega
        have fd : m < en := by omega
        have fdi : (m : Int) < (en : Int) := by omega
        have fe : ¬ p < i1 := by omega
        have fei : ¬ (p : Int) < (i1 : Int) := by omega
        have ff : ¬ en < b := by omega
        have ffi : ¬ (en : Int) < (b : Int) := by omega
        have RC2 := Lib.hid (RC.out ⟨fa, fd⟩)
        have AL := Lib.hid (LN.out (fun h => by omega))
        have AR := Lib.hid (RRN.out (fun h => by omega))
        go_wp2_with (go_at_call 66; refine RC2.out.mono ?_; rintro e w1 ⟨rfl, hw1⟩; have HS1 := Lib.hid hw1; clear hw1)
        obtain ⟨L, HS2⟩ : ∃ L, Hid (Asc L ∧ Same (A1 ++ B1) L ∧ L.length = (A1 ++ B1).length ∧ Srts w0 blk off n (P ++ L ++ (A2 ++ B2 ++ S)) _) := ⟨A1 ++ B1, Lib.hid ⟨AL.out, Same.refl _, rfl, by simpa using HS1.out⟩⟩
        go_end0
        exact FIN.out _ _ _ HS2.out.1 HS2.out.2.1 HS2.out.2.2.1 AR.out (Same.refl _) rfl (by simpa using HS2.out.2.2.2)

end Go.Proofs.Ytabmjjicplomlaa

namespace Go.Proofs.Ytabmjjicplomlaa
open Go.RowKit Go.Lib Go.Sort

set_option maxRecDepth 100000 in
set_option maxHeartbeats 16000000 in
theorem merge_lo (w0 : World) (blk off n cap N : Nat) (B0 : Lies w0 blk off n) (IH : Merges w0 blk off n cap N) (P A B S : List Opm) (W : World) (m b mid : Nat) (hA : Asc A) (hB : Asc B) (hA1 : 2 ≤ A.length) (hB1 : 2 ≤ B.length) (hN : A.length + B.length ≤ N + 1)
    (hm : P.length + A.length = m) (hb : m + B.length = b) (hmid : (P.length + b) / 2 = mid) (hmm : m ≤ mid) (h : Srts w0 blk off n (P ++ A ++ B ++ S) W) :
    Calls Try.prog 64 #[.slice (some ⟨blk, off, none⟩) n cap, .int .i64 (P.length : Nat), .int .i64 (m : Nat), .int .i64 (b : Nat), cmpF] W (Sorted1 w0 blk off n P (A ++ B) S) := by
  have HB := Lib.hid B0
  have HIH := Lib.hid IH
  have mixed : Try.prog.follows .mixedOrders = true := by kernel_rfl
  have hn : b ≤ n := by have := h.1; simp at this; omega
  have hn2 := B0.1
  have H0 := Lib.hid (And.intro h (And.intro hA hB))
  clear h B0 hA hB IH
  unfold cmpF
  obtain ⟨p, hp⟩ : ∃ p, P.length = p := ⟨_, rfl⟩
  obtain ⟨la, hla⟩ : ∃ l, A.length = l := ⟨_, rfl⟩
  obtain ⟨lb, hlb⟩ : ∃ l, B.length = l := ⟨_, rfl⟩
  rw [hp] at hm hmid ⊢
  rw [hla] at hm hA1 hN
  rw [hlb] at hb hB1 hN
  obtain ⟨hf, hhf⟩ : ∃ hf, p + hf = mid := ⟨mid - p, by omega⟩
  obtain ⟨q0, hq0⟩ : ∃ q0, q0 + 1 = mid + m := ⟨mid + m - 1, by omega⟩
  have e0 : ¬ (m : Int) - (p : Int) = 1 := by omega
  have e0b : ((m : Int) - (p : Int) == 1) = false := by simpa using e0
  have e1 : ¬ (b : Int) - (m : Int) = 1 := by omega
  have e1b : ((b : Int) - (m : Int) == 1) = false := by simpa using e1
  have e2 : ((p : Int) + (b : Int)) / 2 = (mid : Int) := by omega
  have hmn : m ≤ n := by omega
  have hpm : p ≤ m := by omega
  have hdn : mid ≤ n := by omega
  have hpb : p + b ≤ 2 * n := by omega
  have e3 : ¬ (mid : Int) < (m : Int) := by omega
  have e5 : (mid : Int) + (m : Int) - 1 = (q0 : Int) := by omega
  have hsd : p ≤ p ∧ p ≤ m ∧ m ≤ m ∧ m ≤ mid ∧ mid + m ≤ p + b ∧ m ≤ mid := by omega
  have HL := Lib.hid (And.intro hp (And.intro hla (And.intro hlb (And.intro hm (And.intro hb (And.intro hmid (And.intro hhf (And.intro hq0 (And.intro hA1 (And.intro hB1 (And.intro hN hsd)))))))))))
  clear hp hla hlb hm hb hmid hhf hq0 hA1 hB1 hN hsd hmm
  go_enter Try.func64, Try.ntmps64
  go_wp2_with fail
  go_loopw [20, 21] (fun i j wr => ∃ (i1 j1 : Nat), i = .int .i64 (i1 : Int) ∧ j = .int .i64 (j1 : Int) ∧ p ≤ i1 ∧ i1 ≤ j1 ∧ j1 ≤ m ∧ Hid (Srts w0 blk off n (P ++ A ++ B ++ S) wr ∧ (∀ t x y, p ≤ p + t → p + t < i1 → A[t]? = some x → B[hf - 1 - t]? = some y → ¬ kO y < kO x) ∧ (∀ t x y, j1 ≤ p + t → p + t < m → A[t]? = some x → B[hf - 1 - t]? = some y → kO y < kO x)))
    (fun i j _ => (RowKit.intOf j).toNat - (RowKit.intOf i).toNat)
  case atStart => exact ⟨p, m, rfl, rfl, Nat.le_refl _, HL.out.2.2.2.2.2.2.2.2.2.2.2.2.1, Nat.le_refl _, Lib.hid ⟨H0.out.1, fun t x y h1 h2 => by omega, fun t x y h1 h2 => by omega⟩⟩
  case round =>
    clear e0 e0b e1 e1b e2 e3 e5
    obtain ⟨i1, j1, rfl, rfl, hmi, hij, hjb, hs⟩ := hrel
    by_cases hlt : i1 < j1
    · obtain ⟨hp, hla, hlb, hm, hb, hmid, hhf, hq0, hA1, hB1, hN, hsd⟩ := HL.out
      have h3 : (i1 : Int) < (j1 : Int) := by omega
      have hib : i1 + j1 ≤ 2 * n := by omega
      obtain ⟨c, hc⟩ : ∃ c : Nat, (i1 + j1) / 2 = c := ⟨_, rfl⟩
      have hcz : ((i1 : Int) + (j1 : Int)) / 2 = (c : Int) := by omega
      obtain ⟨t, ht⟩ : ∃ t, p + t = c := ⟨c - p, by omega⟩
      obtain ⟨pc, hpc⟩ : ∃ pc, pc + c = q0 := ⟨q0 - c, by omega⟩
      have w1 : IntKind.i64.wrap ((q0 : Int) - (c : Int)) = (pc : Int) := by rw [IntKind.wrap_i64]; omega
      obtain ⟨x, hx⟩ : ∃ x, A[t]? = some x := ⟨_, List.getElem?_eq_getElem (by omega)⟩
      obtain ⟨y, hy⟩ : ∃ y, B[hf - 1 - t]? = some y := ⟨_, List.getElem?_eq_getElem (by omega)⟩
      obtain ⟨s1, s2, s3⟩ := hs.out
      have ax : (P ++ A ++ B ++ S)[c]? = some x := by
        have := row_at (P := P) (A := A) (R := B ++ S) (t := t) (x := x) hx
        rw [hp, ht, ← List.append_assoc] at this
        exact this
      have ay : (P ++ A ++ B ++ S)[pc]? = some y := by
        have := row_at (P := P ++ A) (A := B) (R := S) (t := hf - 1 - t) (x := y) hy
        rw [List.length_append, hp, hla, show p + la + (hf - 1 - t) = pc by omega] at this
        exact this
      have l2 : (c : Int) < (n : Int) := by omega
      have l3 : (pc : Int) < (n : Int) := by omega
      have l2' : c < n := by omega
      have l3' : pc < n := by omega
      have cx := fun q os => ((s1.grown q os).cells HB.out ax).1
      have cy := fun q os => ((s1.grown q os).cells HB.out ay).1
      have hci : i1 ≤ c := by omega
      have hcj : c < j1 := by omega
      have HR := Lib.hid (And.intro ht (And.intro hx (And.intro hy (And.intro s1 (And.intro s2 (And.intro s3 (And.intro hmi (And.intro hij (And.intro hjb (And.intro hci hcj))))))))))
      obtain ⟨cv, hcv⟩ : ∃ cv, compareBytes (kO y) (kO x) = cv := ⟨_, rfl⟩
      have CV := fun w => cmp_as hcv w
      have CL : Hid ((cv < 0) = (kO y < kO x)) := Lib.hid (by rw [← hcv]; exact propext (cmp_lt _ _))
      obtain ⟨xd, xk, xv⟩ := x
      obtain ⟨yd, yk, yv⟩ := y
      simp only at cx cy
      have x0 := fun q os => (cx q os).1
      have x1 := fun q os => (cx q os).2.1
      have x2 := fun q os => (cx q os).2.2
      have y0 := fun q os => (cy q os).1
      have y1 := fun q os => (cy q os).2.1
      have y2 := fun q os => (cy q os).2.2
      clear cx cy s1 s2 s3 ax ay ht hx hy hcv hc hmi hij hjb hs hp hla hlb hm hb hmid hhf hq0 hA1 hB1 hN hsd hpc
      by_cases c1 : cv < 0
      · have c2 : decide (cv < 0) = true := by simpa using c1
        go_wp2_with fail
        go_quiet_grown (refine Calls.grown_of (CV _))
        go_wp2_with fail
        obtain ⟨ht, hx, hy, s1, s2, s3, hmi, hij, hjb, hci, hcj⟩ := HR.out
        have hlz : kO ⟨yd, yk, yv⟩ < kO ⟨xd, xk, xv⟩ := CL.out ▸ c1
        refine ⟨⟨i1, c, rfl, by simp, hmi, by omega, by omega, Lib.hid ⟨s1.grown nq osq, s2, fun t' x' y' h1' h2' hx' hy' => ?_⟩⟩, by simp only [RowKit.intOf]; omega⟩
        exact key_lt_of (Asc.at H0.out.2.2 (show hf - 1 - t' ≤ hf - 1 - t by omega) hy' hy) (key_lt_of' hlz (Asc.at H0.out.2.1 (show t ≤ t' by omega) hx hx'))
      · have c2 : decide (cv < 0) = false := by simpa using c1
        go_wp2_with fail
        go_quiet_grown (refine Calls.grown_of (CV _))
        go_wp2_with fail
        obtain ⟨ht, hx, hy, s1, s2, s3, hmi, hij, hjb, hci, hcj⟩ := HR.out
        have hlz : ¬ kO ⟨yd, yk, yv⟩ < kO ⟨xd, xk, xv⟩ := by rw [← CL.out]; omega
        refine ⟨⟨c + 1, j1, by simp, rfl, by omega, by omega, hjb, Lib.hid ⟨s1.grown nq osq, fun t' x' y' h1' h2' hx' hy' => ?_, s3⟩⟩, by simp only [RowKit.intOf]; omega⟩
        exact key_nlt_trans (key_nlt_trans (Asc.at H0.out.2.1 (show t' ≤ t by omega) hx' hx) hlz) (Asc.at H0.out.2.2 (show hf - 1 - t ≤ hf - 1 - t' by omega) hy hy')
    · obtain ⟨hp, hla, hlb, hm, hb, hmid, hhf, hq0, hA1, hB1, hN, hsd⟩ := HL.out
      have h3 : ¬ (i1 : Int) < (j1 : Int) := by omega
      obtain rfl : i1 = j1 := by omega
      obtain ⟨u, hu⟩ : ∃ u, p + u = i1 := ⟨i1 - p, by omega⟩
      obtain ⟨en, hen⟩ : ∃ en, en + i1 = mid + m := ⟨mid + m - i1, by omega⟩
      have e6 : (mid : Int) + (m : Int) - (i1 : Int) = (en : Int) := by omega
      obtain ⟨s1, s2, s3⟩ := hs.out
      have PT := parted H0.out.2.1 H0.out.2.2 (h := hf) (u := u) (s0 := p - p) (r0 := m - p) (by omega) (by omega) (by omega) (by omega) (by omega) (by omega) (by omega) (fun t x y h1 h2 => s2 t x y (by omega) (by omega)) (fun t x y h1 h2 => s3 t x y (by omega) (by omega))
      have n1 : (A.take u).length = u := by rw [List.length_take]; omega
      have n2 : (A.drop u).length = la - u := by rw [List.length_drop]; omega
      have n3 : (B.take (hf - u)).length = hf - u := by rw [List.length_take]; omega
      have n4 : (B.drop (hf - u)).length = lb - (hf - u) := by rw [List.length_drop]; omega
      generalize A.take u = A1 at PT n1
      generalize A.drop u = A2 at PT n2
      generalize B.take (hf - u) = B1 at PT n3
      generalize B.drop (hf - u) = B2 at PT n4
      have hAs := H0.out.2.1
      have hBs := H0.out.2.2
      rw [PT.a] at hAs
      rw [PT.b] at hBs
      have hS : Srts w0 blk off n (P ++ A1 ++ A2 ++ B1 ++ B2 ++ S) wr := by rw [PT.a, PT.b] at s1; simpa using s1
      have RC : Hid (i1 < m ∧ m < en → Calls Try.prog 66 #[.slice (some ⟨blk, off, none⟩) n cap, .int .i64 (i1 : Nat), .int .i64 (m : Nat), .int .i64 (en : Nat), .func (.func 53) #[] #[]] wr (Swapped w0 blk off n (P ++ A1 ++ B1 ++ A2 ++ B2 ++ S))) := Lib.hid fun hc => by
        have := rotate_runs w0 blk off n cap HB.out (P ++ A1) A2 B1 (B2 ++ S) (.func (.func 53) #[] #[]) wr (by simpa using hS) m en (by omega) (by omega) (by simp; omega) (by simp; omega)
        rw [show (P ++ A1).length = i1 by simp; omega, show P ++ A1 ++ B1 ++ A2 ++ (B2 ++ S) = P ++ A1 ++ B1 ++ A2 ++ B2 ++ S by simp] at this
        exact this
      have RN : Hid (¬ (i1 < m ∧ m < en) → Srts w0 blk off n (P ++ A1 ++ B1 ++ A2 ++ B2 ++ S) wr) := Lib.hid fun hc => by
        rcases Nat.eq_zero_or_pos A2.length with h0 | h0
        · obtain rfl := List.eq_nil_of_length_eq_zero h0; simpa using hS
        · obtain rfl : B1 = [] := List.eq_nil_of_length_eq_zero (by omega)
          simpa using hS
      have LC : Hid (∀ W1, p < i1 ∧ i1 < mid → Srts w0 blk off n (P ++ A1 ++ B1 ++ A2 ++ B2 ++ S) W1 → Calls Try.prog 64 #[.slice (some ⟨blk, off, none⟩) n cap, .int .i64 (p : Nat), .int .i64 (i1 : Nat), .int .i64 (mid : Nat), .func (.func 53) #[] #[]] W1 (Sorted1 w0 blk off n P (A1 ++ B1) (A2 ++ B2 ++ S))) := Lib.hid fun W1 hc hW => by
        have := HIH.out P A1 B1 (A2 ++ B2 ++ S) W1 i1 mid (Asc.left hAs) (Asc.left hBs) (by omega) (by omega) (by omega) (by omega) (by omega) (by simpa using hW)
        rw [hp] at this
        exact this
      have LN : Hid (¬ (p < i1 ∧ i1 < mid) → Asc (A1 ++ B1)) := Lib.hid fun hc => by
        rcases Nat.eq_zero_or_pos A1.length with h0 | h0
        · obtain rfl := List.eq_nil_of_length_eq_zero h0; exact Asc.left hBs
        · obtain rfl : B1 = [] := List.eq_nil_of_length_eq_zero (by omega)
          rw [List.append_nil]; exact Asc.left hAs
      have RRC : Hid (∀ W1 L, mid < en ∧ en < b → L.length = (A1 ++ B1).length → Srts w0 blk off n (P ++ L ++ (A2 ++ B2 ++ S)) W1 → Calls Try.prog 64 #[.slice (some ⟨blk, off, none⟩) n cap, .int .i64 (mid : Nat), .int .i64 (en : Nat), .int .i64 (b : Nat), .func (.func 53) #[] #[]] W1 (Sorted1 w0 blk off n (P ++ L) (A2 ++ B2) S)) := Lib.hid fun W1 L hc hL hW => by
        have hL2 : L.length = A1.length + B1.length := by rw [hL, List.length_append]
        have := HIH.out (P ++ L) A2 B2 S W1 en b (Asc.right hAs) (Asc.right hBs) (by omega) (by omega) (by omega) (by rw [List.length_append]; omega) (by omega) (by simpa using hW)
        rw [show (P ++ L).length = mid by rw [List.length_append]; omega] at this
        exact this
      have RRN : Hid (¬ (mid < en ∧ en < b) → Asc (A2 ++ B2)) := Lib.hid fun hc => by
        rcases Nat.eq_zero_or_pos A2.length with h0 | h0
        · obtain rfl := List.eq_nil_of_length_eq_zero h0; exact Asc.right hBs
        · obtain rfl : B2 = [] := List.eq_nil_of_length_eq_zero (by omega)
          rw [List.append_nil]; exact Asc.right hAs
      have FIN : Hid (∀ w' L R, Asc L → Same (A1 ++ B1) L → L.length = (A1 ++ B1).length → Asc R → Same (A2 ++ B2) R → R.length = (A2 ++ B2).length → Srts w0 blk off n (P ++ L ++ R ++ S) w' → Sorted1 w0 blk off n P (A ++ B) S (.returned (.tuple #[])) w') := Lib.hid fun w' L R aL sL nL aR sR nR hW => by
        obtain ⟨d1, d2⟩ := parted_done H0.out.2.1 H0.out.2.2 PT aL sL aR sR
        refine ⟨rfl, L ++ R, d1, d2, ?_, by simpa using hW⟩
        have e1 := congrArg List.length PT.a
        have e2 := congrArg List.length PT.b
        simp only [List.length_append] at nL nR e1 e2 ⊢
        omega
      have hle : en ≤ n := by omega
      have hie : i1 ≤ n := by omega
      have hcs : (i1 < m ∧ i1 < mid ∧ p < i1 ∧ en < b) ∨ (i1 < m ∧ i1 < mid ∧ ¬ p < i1 ∧ en < b) ∨ (i1 < m ∧ i1 < mid ∧ ¬ p < i1 ∧ ¬ en < b) ∨ (¬ i1 < m ∧ i1 < mid ∧ p < i1 ∧ en < b) ∨ (¬ i1 < m ∧ ¬ i1 < mid ∧ p < i1 ∧ en < b) := by clear PT s1 s2 s3; omega
      clear s1 s2 s3 PT n1 n2 n3 n4 hAs hBs hS hp hla hlb hm hb hmid hhf hq0 hA1 hB1 hN hsd hu hs hmi hij hjb
      rcases hcs with ⟨g1, g2, g3, g4⟩ | ⟨g1, g2, g3, g4⟩ | ⟨g1, g2, g3, g4⟩ | ⟨g1, g2, g3, g4⟩ | ⟨g1, g2, g3, g4⟩
      · have fa : i1 < m := by omega
        have fai : (i1 : Int) < (m : Int) := by omega
        have fb : mid < en := by omega
        have fbi : (mid : Int) < (en : Int) := by omega
        have fc : i1 < mid := by omega
        have fci : (i1 : Int) < (mid : Int) := by omega
        have fd : m < en := by omega
        have fdi : (m : Int) < (en : Int) := by omega
        have fe : p < i1 := by omega
        have fei : (p : Int) < (i1 : Int) := by omega
        have ff : en < b := by omega
        have ffi : (en : Int) < (b : Int) := by omega
        have RC2 := Lib.hid (RC.out ⟨fa, fd⟩)
        have LC2 := Lib.hid (fun W1 => LC.out W1 ⟨fe, fc⟩)
        have RR2 := Lib.hid (fun W1 L => RRC.out W1 L ⟨fb, ff⟩)
        go_wp2_with (go_at_call 66; refine RC2.out.mono ?_; rintro e w1 ⟨rfl, hw1⟩; have HS1 := Lib.hid hw1; clear hw1)
        go_wp2_with (go_at_call 64; refine (LC2.out _ HS1.out).mono ?_; rintro e w2 ⟨rfl, L, aL, sL, nL, hw2⟩; have HS2 := Lib.hid (And.intro aL (And.intro sL (And.intro nL hw2))); clear aL sL nL hw2 LC2)
        go_wp2_with (go_at_call 64; refine (RR2.out _ _ HS2.out.2.2.1 HS2.out.2.2.2).mono ?_; rintro e w3 ⟨rfl, R, aR, sR, nR, hw3⟩; have HS3 := Lib.hid (And.intro aR (And.intro sR (And.intro nR hw3))); clear aR sR nR hw3 RR2)
        go_end0
        exact FIN.out _ _ _ HS2.out.1 HS2.out.2.1 HS2.out.2.2.1 HS3.out.1 HS3.out.2.1 HS3.out.2.2.1 HS3.out.2.2.2
      · have fa : i1 < m := by omega
        have fai : (i1 : Int) < (m : Int) := by omega
        have fb : mid < en := by omega
        have fbi : (mid : Int) < (en : Int) := by omega
        have fc : i1 < mid := by omega
        have fci : (i1 : Int) < (mid : Int) := by omega
        have fd : m < en := by omega
        have fdi : (m : Int) < (en : Int) := by omega
        have fe : ¬ p < i1 := by omega
        have fei : ¬ (p : Int) < (i1 : Int) := by omega
        have ff : en < b := by omega
        have ffi : (en : Int) < (b : Int) := by omega
        have RC2 := Lib.hid (RC.out ⟨fa, fd⟩)
        have AL := Lib.hid (LN.out (fun h => by omega))
        have RR2 := Lib.hid (fun W1 L => RRC.out W1 L ⟨fb, ff⟩)
        go_wp2_with (go_at_call 66; refine RC2.out.mono ?_; rintro e w1 ⟨rfl, hw1⟩; have HS1 := Lib.hid hw1; clear hw1)
        obtain ⟨L, HS2⟩ : ∃ L, Hid (Asc L ∧ Same (A1 ++ B1) L ∧ L.length = (A1 ++ B1).length ∧ Srts w0 blk off n (P ++ L ++ (A2 ++ B2 ++ S)) _) := ⟨A1 ++ B1, Lib.hid ⟨AL.out, Same.refl _, rfl, by simpa using HS1.out⟩⟩
        go_wp2_with (go_at_call 64; refine (RR2.out _ _ HS2.out.2.2.1 HS2.out.2.2.2).mono ?_; rintro e w3 ⟨rfl, R, aR, sR, nR, hw3⟩; have HS3 := Lib.hid (And.intro aR (And.intro sR (And.intro nR hw3))); clear aR sR nR hw3 RR2)
        go_end0
        exact FIN.out _ _ _ HS2.out.1 HS2.out.2.1 HS2.out.2.2.1 HS3.out.1 HS3.out.2.1 HS3.out.2.2.1 HS3.out.2.2.2
      · have fa : i1 < m := by omega
        have fai : (i1 : Int) < (m : Int) := by omega
        have fb : mid < en := by omega
        have fbi : (mid : Int) < (en : Int) := by omega
        have fc : i1 < mid := by omega
        have fci : (i1 : Int) < (mid : Int) := by omega
        have fd : m < en := by omega
        have fdi : (m : Int) < (en : Int) := by omega
        have fe : ¬ p < i1 := by omega
        have fei : ¬ (p : Int) < (i1 : Int) := by omega
        have ff : ¬ en < b := by omega
        have ffi : ¬ (en : Int) < (b : Int) := by omega
        have RC2 := Lib.hid (RC.out ⟨fa, fd⟩)
        have AL := Lib.hid (LN.out (fun h => by omega))
        have AR := Lib.hid (RRN.out (fun h => by omega))
        go_wp2_with (go_at_call 66; refine RC2.out.mono ?_; rintro e w1 ⟨rfl, hw1⟩; have HS1 := Lib.hid hw1; clear hw1)
        obtain ⟨L, HS2⟩ : ∃ L, Hid (Asc L ∧ Same (A1 ++ B1) L ∧ L.length = (A1 ++ B1).length ∧ Srts w0 blk off n (P ++ L ++ (A2 ++ B2 ++ S)) _) := ⟨A1 ++ B1, Lib.hid ⟨AL.out, Same.refl _, rfl, by simpa using HS1.out⟩⟩
        go_end0
        exact FIN.out _ _ _ HS2.out.1 HS2.out.2.1 HS2.out.2.2.1 AR.out (Same.refl _) rfl (by simpa using HS2.out.2.2.2)
      · have fa : ¬ i1 < m := by omega
        have fai : ¬ (i1 : Int) < (m : Int) := by omega
        have fb : ¬ mid < en := by omega
        have fbi : ¬ (mid : Int) < (en : Int) := by omega
        have fc : i1 < mid := by omega
        have fci : (i1 : Int) < (mid : Int) := by omega
        have fd : m < en := by omega
        have fdi : (m : Int) < (en : Int) := by omega
        have fe : p < i1 := by omega
        have fei : (p : Int) < (i1 : Int) := by omega
        have ff : en < b := by omega
        have ffi : (en : Int) < (b : Int) := by omega
        have HS1 := Lib.hid (RN.out (fun h => by omega))
        have AR := Lib.hid (RRN.out (fun h => by omega))
        have LC2 := Lib.hid (fun W1 => LC.out W1 ⟨fe, fc⟩)
        go_wp2_with (go_at_call 64; refine (LC2.out _ HS1.out).mono ?_; rintro e w2 ⟨rfl, L, aL, sL, nL, hw2⟩; have HS2 := Lib.hid (And.intro aL (And.intro sL (And.intro nL hw2))); clear aL sL nL hw2 LC2)
        go_end0
        exact FIN.out _ _ _ HS2.out.1 HS2.out.2.1 HS2.out.2.2.1 AR.out (Same.refl _) rfl (by simpa using HS2.out.2.2.2)
      · have fa : ¬ i1 < m := by omega
        have fai : ¬ (i1 : Int) < (m : Int) := by omega
        have fb : ¬ mid < en := by omega
        have fbi : ¬ (mid : Int) < (en : Int) := by omega
        have fc : ¬ i1 < mid := by omega
        have fci : ¬ (i1 : Int) < (mid : Int) := by omega
        have fd : ¬ m < en := by omega
        have fdi : ¬ (m : Int) < (en : Int) := by omega
        have fe : p < i1 := by omega
        have fei : (p : Int) < (i1 : Int) := by omega
        have ff : en < b := by omega
        have ffi : (en : Int) < (b : Int) := by omega
        have HS1 := Lib.hid (RN.out (fun h => by omega))
        have AL := Lib.hid (LN.out (fun h => by omega))
        have AR := Lib.hid (RRN.out (fun h => by omega))
        obtain ⟨L, HS2⟩ : ∃ L, Hid (Asc L ∧ Same (A1 ++ B1) L ∧ L.length = (A1 ++ B1).length ∧ Srts w0 blk off n (P ++ L ++ (A2 ++ B2 ++ S)) _) := ⟨A1 ++ B1, Lib.hid ⟨AL.out, Same.refl _, rfl, by simpa using HS1.out⟩⟩
        go_wp2_with fail
        go_end0
        exact FIN.out _ _ _ HS2.out.1 HS2.out.2.1 HS2.out.2.2.1 AR.out (Same.refl _) rfl (by simpa using HS2.out.2.2.2)

end Go.Proofs.Ytabmjjicplomlaa
