/- great and same, of lists of lists of bytes. Numbers and types by name. -/
import Derived.Test.YtooadeoebdbngaaRws
namespace Go.Proofs.Ytooadeoebdbngaa
open Go.RowKit Go.Lib

/-- What great leaves. -/
def GreatR (ps : List (List UInt8)) (w : World) (e : Ending) (w' : World) : Prop := ∃ b, e = .returned (.bool b) ∧ w = w' ∧ (b = false → bulkR ps ≤ 5000)

theorem great_rows (v : Value) (n : Nat) (ps : List (List UInt8)) (w : World) (hr : Rws w v n ps) :
    Calls Try.prog 14 #[v] w (GreatR ps w) := by
  obtain ⟨ao, c, rfl⟩ := hr.shape
  have HR := Lib.hid hr
  have hm := hr.2.1
  unfold maxLen at hm
  clear hr
  go_enter Try.func14, Try.ntmps14
  go_wp2_with fail
  go_loopw [3, 4] (fun nv i wr => ∃ k m : Nat, k ≤ n ∧ i = .int .i64 k ∧ nv = .int .i64 m ∧ m ≤ 10002 ∧ Hid (m ≤ 5000 → bulkR (ps.take k) = m) ∧ w = wr)
    (fun nv _ _ => 10003 - (intOf nv).toNat)
  case atStart => exact ⟨0, 0, Nat.zero_le _, rfl, rfl, by omega, Lib.hid (fun _ => rfl), rfl⟩
  case round =>
    obtain ⟨k, m, hk, rfl, rfl, hmm, hb, rfl⟩ := hrel
    by_cases h1 : k < n
    · have h3 : (k : Int) < (n : Int) := by omega
      by_cases h2 : m ≤ 5000
      · have h4 : (m : Int) ≤ 5000 := by omega
        obtain ⟨a, p, ap, cp, rfl, hs, hc, _, hz⟩ := HR.out.at h1
        have HS := Lib.hid hs
        unfold maxLen at hz
        clear hs
        have hb2 := hb.out h2
        go_wp2_with fail
        have hb3 : bulkR (ps.take (k + 1)) = m + (1 + p.length) := by rw [take_more HS.out, bulkR_append, hb2]; simp [bulkR]
        refine ⟨⟨k + 1, m + 1 + min p.length 5001, by omega, by simp, ?_, by omega, Lib.hid (fun h => by omega), trivial⟩, ?_⟩
        · congr 1; omega
        · simp only [intOf]; omega
      · have h4 : ¬ (m : Int) ≤ 5000 := by omega
        have h5 : (5000 : Int) < (m : Int) := by omega
        go_wp2_with fail
        go_ret
        exact ⟨true, rfl, rfl, by intro h; cases h⟩
    · have h3 : ¬ (k : Int) < (n : Int) := by omega
      go_wp2_with fail
      go_ret
      refine ⟨_, rfl, rfl, fun h => ?_⟩
      have h5 : ¬ (5000 : Int) < (m : Int) := of_decide_eq_false h
      have h6 := hb.out (by omega)
      have h7 : k = ps.length := by have := HR.out.1; omega
      rw [h7, List.take_length] at h6
      omega

/-- What same tells. -/
def SameR (ps qs : List (List UInt8)) (w : World) (e : Ending) (w' : World) : Prop := ∃ b k, e = .returned (.bool b) ∧ w' = w.drewN k ∧ (b = true ↔ ps = qs)

theorem same_rows (v1 v2 : Value) (n m : Nat) (ps qs : List (List UInt8)) (w : World) (h1 : Rws w v1 n ps) (h2 : Rws w v2 m qs) :
    Calls Try.prog 13 #[v1, v2] w (SameR ps qs w) := by
  obtain ⟨a1, c1, rfl⟩ := h1.shape
  obtain ⟨a2, c2, rfl⟩ := h2.shape
  have H1 := Lib.hid h1
  have H2 := Lib.hid h2
  have hm := h1.2.1
  unfold maxLen at hm
  clear h1 h2
  by_cases hne : n = m
  · subst hne
    go_enter Try.func13, Try.ntmps13
    go_wp2_with fail
    go_loopw [5] (fun i wr => ∃ k q : Nat, k ≤ n ∧ i = .int .i64 k ∧ wr = w.drewN q ∧ Hid (ps.take k = qs.take k))
      (fun i _ => n - (intOf i).toNat)
    case atStart => exact ⟨0, 0, Nat.zero_le _, rfl, rfl, Lib.hid rfl⟩
    case round =>
      obtain ⟨k, q, hk, rfl, hw, hs⟩ := hrel
      by_cases h1 : k < n
      · have h3 : (k : Int) < (n : Int) := by omega
        have R1 : Rws wr (.slice a1 n c1) n ps := by rw [hw]; exact H1.out
        have R2 : Rws wr (.slice a2 n c2) n qs := by rw [hw]; exact H2.out
        obtain ⟨x1, p1, ap1, cp1, rfl, e1, hc1, hr1, hz1⟩ := R1.at h1
        obtain ⟨x2, p2, ap2, cp2, rfl, e2, hc2, hr2, hz2⟩ := R2.at h1
        have hd1 : ∀ q, (wr.drewN q).cell? (x1.add k) = some (.slice ap1 p1.length cp1) := fun _ => hc1
        have hd2 : ∀ q, (wr.drewN q).cell? (x2.add k) = some (.slice ap2 p2.length cp2) := fun _ => hc2
        have cv1 : ∀ q, (convert 22 9 (.slice ap1 p1.length cp1)).run Try.prog (wr.drewN q) = .ok (.string ⟨p1.toArray⟩) (wr.drewN q) := fun q => conv_reads (w := wr.drewN q) hr1
        have cv2 : ∀ q, (convert 22 9 (.slice ap2 p2.length cp2)).run Try.prog (wr.drewN q) = .ok (.string ⟨p2.toArray⟩) (wr.drewN q) := fun q => conv_reads (w := wr.drewN q) hr2
        have HW := Lib.hid hw
        clear hz1 hz2 hc1 hc2 hr1 hr2 hw R1 R2
        cases hs12 : (p1 == p2) with
        | true =>
          have hst : p1 = p2 := by simpa using hs12
          have hs' := hs.out
          have HN : Hid (ps.take (k + 1) = qs.take (k + 1)) := Lib.hid (by rw [take_more e1, take_more e2, hs', hst])
          clear e1 e2 hs' hst
          go_wp2_with fail
          go_quiet (fail)
          go_wp2
          exact ⟨⟨k + 1, q + nq, by omega, by simp, by rw [HW.out, World.drewN_drewN], HN⟩, by simp [intOf]; omega⟩
        | false =>
          have hst : p1 ≠ p2 := by simpa using hs12
          have HN : Hid (ps ≠ qs) := Lib.hid (by rintro rfl; rw [e1] at e2; exact hst (Option.some.inj e2))
          clear e1 e2 hst
          go_wp2_with fail
          go_quiet (fail)
          go_wp2
          go_ret
          exact ⟨false, q + nq, rfl, by rw [HW.out, World.drewN_drewN], ⟨(fun h => by cases h), fun h => absurd h HN.out⟩⟩
      · have h3 : ¬ (k : Int) < (n : Int) := by omega
        obtain rfl : k = n := by omega
        go_wp2_with fail
        go_ret
        refine ⟨true, q, rfl, by first | exact hw | rfl, ?_⟩
        have h5 := hs.out
        rw [List.take_of_length_le (by have := H1.out.1; omega), List.take_of_length_le (by have := H2.out.1; omega)] at h5
        simp [h5]
  · have h3 : ¬ (n : Int) = (m : Int) := by omega
    have h4 : ((n : Int) != (m : Int)) = true := by simpa using h3
    go_enter Try.func13, Try.ntmps13
    go_wp2_with fail
    go_ret
    refine ⟨false, 0, rfl, rfl, ?_⟩
    constructor
    · intro h; cases h
    · intro h; exact absurd (by have := H1.out.1; have := H2.out.1; rw [h] at *; omega) hne

end Go.Proofs.Ytooadeoebdbngaa
