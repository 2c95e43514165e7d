/- The reference's Encode. Numbers and types by name. -/
import Derived.Test.YtabmjjicplomlaaTxt
import Derived.Test.YtabmjjicplomlaaRnu
namespace Go.Proofs.Ytabmjjicplomlaa
open Go.RowKit Go.Lib

theorem ref_encode (v : Value) (n : Nat) (L : List ByteArray) (w : World) (hr : Texts w v n L) (hb : bulk L ≤ 10000) :
    Calls Try.prog 27 #[v] w fun e w' => ∃ ao c, e = .returned (.slice ao (enc L).length c) ∧ Bs w' w.heap.size (.slice ao (enc L).length c) (enc L).length (enc L) ∧ Below w.heap.size w w' := by
  obtain ⟨ao, c, rfl⟩ := hr.shape
  have HR := Lib.hid hr
  have hn := hr.1
  have hlen := encs_length L
  have hnb := bulk_length L
  have HL : Hid ((encs L).length ≤ 50000 ∧ n = L.length ∧ (enc L).length = 4 + (encs L).length ∧ n ≤ 10000) := Lib.hid ⟨by omega, hn, by simp [enc, be4_length], by omega⟩
  have hn1 : n ≤ 10000 := HL.out.2.2.2
  clear hr hlen hnb hb hn
  go_enter Try.func27, Try.ntmps27
  go_wp2_with fail
  refine (ref_u32 _ _).mono ?_
  rintro e w1 ⟨ao1, c1, rfl, hown1, hb1⟩
  have HB := Lib.hid (And.intro hown1 hb1)
  clear hown1 hb1
  go_wp2_with fail
  go_loopw [3, 4] (fun v i wr => ∃ j : Nat, j ≤ n ∧ i = .int .i64 j ∧ Hid (∃ ao m c, v = .slice ao m c ∧ Bs wr w.heap.size (.slice ao m c) m (be4 n ++ encs (L.take j)) ∧ Below w.heap.size w wr))
    (fun _ i _ => n - (intOf i).toNat)
  case atStart => exact ⟨0, Nat.zero_le _, rfl, Lib.hid ⟨_, _, _, rfl, by simpa [encs] using HB.out.1, HB.out.2⟩⟩
  case round =>
    obtain ⟨j, hj, rfl, hrel⟩ := hrel
    obtain ⟨ao2, m, c2, rfl, hown, hbel⟩ := hrel.out
    clear HB hrel
    have hm : m = 4 + (encs (L.take j)).length := by rw [hown.1]; simp [be4_length]
    have hle := encs_take_le L j
    by_cases h1 : j < n
    · have h3 : (j : Int) < (n : Int) := by omega
      obtain ⟨a, s, rfl, hs, hc0, hsz⟩ := HR.out.at h1
      have HCELL : Hid (∀ w', Below w.heap.size w w' → w'.cell? (a.add j) = some (.string s)) := Lib.hid fun w' hg => by
        rw [World.cell?_of_block (hg.block _ (World.block_lt_of_cell? w _ hc0))]
        exact hc0
      have hc := HCELL.out wr hbel
      clear hc0
      have hT := encs_take hs
      have hle3 := encs_take_le L (j + 1)
      have hsz2 : (encs (L.take (j + 1))).length = (encs (L.take j)).length + 4 + s.size := by rw [hT]; simp [be4_length]; omega
      have hl5 := HL.out.1
      have HT := Lib.hid hT
      have F1 : Hid (m + 4 ≤ maxLen) := Lib.hid (by unfold maxLen; omega)
      have F2 : Hid ((m + 4) * 1 ≤ 140737488355328) := Lib.hid (by omega)
      have HM : Hid (m + 4 + s.size ≤ maxLen) := Lib.hid (by unfold maxLen; omega)
      have HM2 : Hid (m + 4 + s.size ≤ 140737488355328) := Lib.hid (by omega)
      have HO := Lib.hid (And.intro hown hbel)
      clear hs hT hsz hown hbel hle hle3 hsz2 hm hl5
      go_wp2_with (first | (go_at_call 43; refine (ref_u32 _ _).mono ?_; rintro e w2 ⟨ao3, c3, rfl, hown3, hb3⟩) | (at_builtin; refine wpList_append_bytes rfl (.tmp 14) (.tmp 20) rfl w.heap.size (.slice ao2 m c2) m _ rfl (HO.out.1.below hb3 (Nat.le_refl _)) (.slice ao3 4 c3) 4 _ rfl rfl hown3.reads (m + 4) rfl F1 F2 (Nat.le_trans HO.out.2.size hb3.size) ?_; intro ao4 c4 w4 hown4 hb4; have hc4 := HCELL.out w4 ((HO.out.2.trans (hb3.mono HO.out.2.size)).trans hb4)) | (at_builtin; refine wpList_append_text rfl (.tmp 22) (.tmp 26) rfl w.heap.size (.slice ao4 (m + 4) c4) (m + 4) _ rfl hown4 s rfl (m + 4 + s.size) rfl HM HM2 ((HO.out.2.trans (hb3.mono HO.out.2.size)).trans hb4).size ?_; intro ao5 c5 w5 hown5 hb5))
      refine ⟨⟨j + 1, by omega, by simp, Lib.hid ⟨ao5, _, c5, rfl, ?_, ((HO.out.2.trans (hb3.mono HO.out.2.size)).trans hb4).trans hb5⟩⟩, by simp [intOf]; omega⟩
      rw [HT.out]
      simpa [List.append_assoc] using hown5
    · have h3 : ¬ (j : Int) < (n : Int) := by omega
      obtain rfl : j = n := by omega
      have hkL : L.take j = L := List.take_of_length_le (by have := HL.out.2.1; omega)
      rw [hkL] at hown hm hle
      go_wp2_with fail
      go_ret
      have hE := HL.out.2.2.1
      have hjl : j = L.length := HL.out.2.1
      rw [← hE] at hm
      subst hm
      refine ⟨ao2, c2, ?_, ?_, hbel⟩
      · simp [hE]
      · show Bs wr _ _ _ (be4 L.length ++ encs L)
        rw [← hjl]
        exact hown

end Go.Proofs.Ytabmjjicplomlaa
