/- Encode of the code. Numbers and types by name. -/
import Derived.Test.YtabmjjicplomlaaTxt
import Derived.Test.YtabmjjicplomlaaNum
namespace Go.Proofs.Ytabmjjicplomlaa
open Go.RowKit Go.Lib

theorem encode_any (v : Value) (n : Nat) (L : List ByteArray) (w : World) (hr : Texts w v n L) (hb : bulk L ≤ 10000) :
    Calls Try.prog 25 #[v] w fun e w' => ∃ ao c, e = .returned (.slice ao (enc L).length c) ∧ Bs w' w.heap.size (.slice ao (enc L).length c) (enc L).length (enc L) ∧ Below w.heap.size w w' := by
  obtain ⟨ao, c, rfl⟩ := hr.shape
  have HR := Lib.hid hr
  have hn := hr.1
  have hlen := encs_length L
  have hnb := bulk_length L
  have HL : Hid ((encs L).length ≤ 50000 ∧ n = L.length ∧ (enc L).length = 4 + (encs L).length ∧ n ≤ 10000) := Lib.hid ⟨by omega, hn, by simp [enc, be4_length], by omega⟩
  have hn1 : n ≤ 10000 := HL.out.2.2.2
  clear hr hlen hnb hb hn
  go_enter Try.func25, Try.ntmps25
  go_wp2_with fail
  go_loopw [3, 11] (fun nv i wr => ∃ k : Nat, k ≤ n ∧ i = .int .i64 k ∧ nv = .int .i64 ((4 + (encs (L.take k)).length : Nat) : Int) ∧ w = wr)
    (fun _ i _ => n - (intOf i).toNat)
  case atStart => exact ⟨0, Nat.zero_le _, rfl, rfl, rfl⟩
  case round =>
    obtain ⟨k, hk, rfl, rfl, rfl⟩ := hrel
    have hle := encs_take_le L k
    have hle2 := HL.out.1
    by_cases h1 : k < n
    · have h3 : (k : Int) < (n : Int) := by omega
      obtain ⟨a, s, rfl, hs, hc, hsz⟩ := HR.out.at h1
      have hT := encs_take hs
      have hle3 := encs_take_le L (k + 1)
      have hsz2 : (encs (L.take (k + 1))).length = (encs (L.take k)).length + 4 + s.size := by rw [hT]; simp [be4_length]; omega
      have HS := Lib.hid hs
      clear hs hT hsz
      generalize hmm : (encs (L.take k)).length = m at *
      go_wp2_with fail
      refine ⟨⟨k + 1, by omega, by simp, ?_, trivial⟩, by simp [intOf]; omega⟩
      rw [hsz2]; congr 1; omega
    · have h3 : ¬ (k : Int) < (n : Int) := by omega
      obtain rfl : k = n := by omega
      have hkL : L.take k = L := List.take_of_length_le (by have := HL.out.2.1; omega)
      rw [hkL] at hle ⊢
      have HM : Hid (4 + (encs L).length ≤ 140737488355328) := Lib.hid (by omega)
      have HC : Hid ((4 + ((encs L).length : Int)) = ((4 + (encs L).length : Nat) : Int)) := Lib.hid (by omega)
      clear hle hkL hk h1
      go_wp2_with (first | (at_make; refine wpList_make_bytes rfl _ _ rfl w.heap.size (4 + (encs L).length) (4 + ((encs L).length : Int)) rfl rfl HC.out HM (Nat.le_refl _) ?_; intro w1 hown1 hb1 hs1) | (go_at_call 42; refine (append_number w.heap.size _ 0 [] k _ hown1 (by decide) hb1.size).mono ?_; rintro e w2 ⟨ao2, c2, rfl, hown2, hb2⟩))
      have HB := Lib.hid (And.intro hown2 (hb1.trans hb2))
      clear hown1 hb1 hs1 hown2 hb2 HM HC
      go_loopw [6, 28] (fun v i wr => ∃ j : Nat, j ≤ k ∧ i = .int .i64 j ∧ Hid (∃ ao m c, v = .slice ao m c ∧ Bs wr w.heap.size (.slice ao m c) m (be4 k ++ encs (L.take j)) ∧ Below w.heap.size w wr))
        (fun _ i _ => k - (intOf i).toNat)
      case atStart => exact ⟨0, Nat.zero_le _, rfl, Lib.hid ⟨_, _, _, rfl, by simpa [encs] using HB.out.1, HB.out.2⟩⟩
      case round =>
        obtain ⟨j, hj, rfl, hrel⟩ := hrel
        obtain ⟨ao2, m, c2, rfl, hown, hbel⟩ := hrel.out
        clear HB hrel
        have hm : m = 4 + (encs (L.take j)).length := by rw [hown.1]; simp [be4_length]
        have hle := encs_take_le L j
        by_cases h1 : j < k
        · have h3 : (j : Int) < (k : Int) := by omega
          obtain ⟨a, s, rfl, hs, hc, hsz⟩ := (HR.out.below hbel).at h1
          have hT := encs_take hs
          have hle3 := encs_take_le L (j + 1)
          have hsz2 : (encs (L.take (j + 1))).length = (encs (L.take j)).length + 4 + s.size := by rw [hT]; simp [be4_length]; omega
          have HT := Lib.hid hT
          have HM : Hid (m + 4 + s.size ≤ maxLen) := Lib.hid (by unfold maxLen; omega)
          have HM2 : Hid (m + 4 + s.size ≤ 140737488355328) := Lib.hid (by omega)
          have hm2 : m < 100000000 := by omega
          have HO := Lib.hid (And.intro hown hbel)
          clear hs hT hsz hown hbel hle hle3 hsz2 hm
          go_wp2_with (first | (go_at_call 42; refine (append_number w.heap.size _ m _ s.size _ HO.out.1 hm2 HO.out.2.size).mono ?_; rintro e w2 ⟨ao3, c3, rfl, hown3, hb3⟩) | (at_builtin; refine wpList_append_text rfl _ _ rfl w.heap.size _ (m + 4) _ rfl hown3 s rfl (m + 4 + s.size) rfl HM HM2 (HO.out.2.trans hb3).size ?_; intro ao4 c4 w4 hown4 hb4))
          refine ⟨⟨j + 1, by omega, by simp, Lib.hid ⟨ao4, _, c4, rfl, ?_, (HO.out.2.trans hb3).trans hb4⟩⟩, by simp [intOf]; omega⟩
          rw [HT.out]
          simpa [List.append_assoc] using hown4
        · have h3 : ¬ (j : Int) < (k : Int) := by omega
          obtain rfl : j = k := by omega
          have hkL : L.take j = L := List.take_of_length_le (by have := HL.out.2.1; omega)
          rw [hkL] at hown hm hle
          go_wp2_with fail
          go_ret
          have hE := HL.out.2.2.1
          have hjl : j = L.length := HL.out.2.1
          rw [← hE] at hm
          subst hm
          refine ⟨ao2, c2, ?_, ?_, hbel⟩
          · simp [hE]
          · show Bs wr _ _ _ (be4 L.length ++ encs L)
            rw [← hjl]
            exact hown

end Go.Proofs.Ytabmjjicplomlaa
