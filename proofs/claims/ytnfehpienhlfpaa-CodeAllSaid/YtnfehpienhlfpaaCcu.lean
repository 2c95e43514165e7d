/- CodeCuts, walked. Numbers and types by name. -/
import Derived.Test.YtnfehpienhlfpaaDed
namespace Go.Proofs.Ytnfehpienhlfpaa
open Go.RowKit Go.Lib

theorem Reads.take {w : World} {a : Addr} {n c : Nat} {l : List UInt8} (h : Reads w (.slice (some a) n c) (bv l)) (k : Nat) (hk : k ≤ n) : Reads w (.slice (some a) k c) (bv (l.take k)) := by
  obtain ⟨ao', c', e, h0, _, h2⟩ := h
  simp only [Value.slice.injEq, bv_length] at e h0
  obtain ⟨e1, rfl, rfl⟩ := e
  refine ⟨some a, c, by rw [bv_length, List.length_take]; congr 1; omega, by rw [bv_length, List.length_take]; omega, (fun e => by cases e), fun a' ha j u hj => ?_⟩
  cases ha
  refine h2 a e1.symm j u ?_
  rw [← hj]
  have hj2 := (List.getElem?_eq_some_iff.1 hj).1
  rw [bv_length, List.length_take] at hj2
  simp [bv, List.getElem?_take, (by omega : j < k)]

theorem Bs.some {w : World} {base : Nat} {ao : Option Addr} {n c : Nat} {l : List UInt8} (h : Bs w base (.slice ao n c) n l) (h0 : 0 < n) : ∃ a, ao = some a := by
  obtain ⟨hn, _, h1 | ⟨g, cap, cur, h1, _⟩⟩ := h
  · omega
  · simp only [Value.slice.injEq] at h1; exact ⟨_, h1.1⟩

theorem cuts_walk (v : Value) (n : Nat) (L : List ByteArray) (at_ c : Int) (w : World) (hr : Texts w v n L) (hat : 0 ≤ at_ ∧ at_ < 65536) (hc : 0 ≤ c ∧ c < 256) :
    Calls Try.prog 5 #[v, .int .u16 at_, .int .u8 c] w fun e w' => e = .returned (.bool true) ∧ Below w.heap.size w w' := by
  obtain ⟨ao, cp, rfl⟩ := hr.shape
  have HA := Lib.hid (And.intro hat hc)
  have HR := Lib.hid hr
  clear hr hat hc
  go_enter Try.func5, Try.ntmps5
  go_wp2_with fail
  refine (great_any _ n L w HR.out).mono ?_
  rintro e w1 ⟨b, rfl, rfl, hb⟩
  cases b with
  | true =>
    clear hb
    go_wp2_with (go_at_call 9; refine (awake_any _).mono ?_; rintro e w' ⟨rfl, hb9⟩)
    go_ret
    exact ⟨rfl, hb9⟩
  | false =>
    have HB := Lib.hid (hb rfl)
    clear hb
    go_wp2_with fail
    refine (encode_any _ n L w HR.out (by have := HB.out; omega)).mono ?_
    rintro e w2 ⟨ao2, c2, rfl, hown2, hb2⟩
    have hlen := enc_length L
    have hbl := bulk_length L
    have hle : (enc L).length ≤ 50000 := by have := HB.out; omega
    have hge : 4 ≤ (enc L).length := by omega
    obtain ⟨a, rfl⟩ := hown2.some (by omega)
    generalize hX : enc L = X at *
    generalize hm : X.length = m at *
    have h1 : ¬ (m : Int) < 4 := by omega
    obtain ⟨q, hq⟩ : ∃ q : Nat, at_ = (q : Int) := ⟨at_.toNat, (Int.toNat_of_nonneg HA.out.1.1).symm⟩
    obtain ⟨cb, hcb⟩ : ∃ cb : UInt8, c = ((cb.toNat : Nat) : Int) := ⟨UInt8.ofNat c.toNat, by rw [UInt8.toNat_ofNat']; have := HA.out.2; omega⟩
    subst hq hcb
    have hmod : (q : Int).tmod (m : Int) = ((q % m : Nat) : Int) := rfl
    have hlt : q % m < m := Nat.mod_lt _ (by omega)
    have wq : wrap64 (q : Int) = (q : Int) := wrap64_id _ (by have := HA.out.1; omega)
    generalize q % m = k at *
    have hD1 := decode_any (.slice (some a) k c2) k (X.take (k)) w2 (hown2.reads.take k (by omega)) (by rw [List.length_take, hm]; omega) (Lib.hid (by omega))
    have HD1 : Hid (dec (X.take (k)) = none) := Lib.hid (by rw [← hX]; exact dec_cut L (by have := HB.out; omega) _ (by rw [hX, hm]; exact hlt))
    have HO := Lib.hid (And.intro hown2 hb2)
    have HX := Lib.hid (And.intro hX hm)
    clear hown2 hb2 hlen hbl hX hm
    have hcapm : m ≤ c2 := by
      obtain ⟨_, _, e, h0, _⟩ := HO.out.1.reads
      simp only [Value.slice.injEq, bv_length] at e h0
      omega
    have x1 : ((k : Nat) : Int) ≤ (c2 : Int) := by omega
    have x2 : k ≤ c2 := by omega
    go_wp2_with fail
    refine hD1.mono ?_
    rintro e w3 ⟨hb3, ⟨M, _, _, hM, _⟩ | ⟨_, rfl⟩⟩
    · rw [HD1.out] at hM; cases hM
    have H1 : Hid (m ≤ maxLen) := Lib.hid (by unfold maxLen; omega)
    have H2 : Hid (m * 1 ≤ 140737488355328) := Lib.hid (by omega)
    have H3 : Hid (m + 1 ≤ maxLen) := Lib.hid (by unfold maxLen; omega)
    have H4 : Hid ((m + 1) * 1 ≤ 140737488355328) := Lib.hid (by omega)
    have R3 := Lib.hid (HO.out.1.reads.later hb3)
    have B3 := Lib.hid (HO.out.2.trans (hb3.mono HO.out.2.size))
    clear hD1 hb3 x1 x2 wq hmod hlt
    go_wp2_with (first | (at_builtin; refine wpList_append_bytes rfl (.tmp 32) (.tmp 33) rfl w3.heap.size _ 0 [] rfl (Bs.empty w3 w3.heap.size (Nat.le_refl _)) (.slice (some a) m c2) m X HX.out.2.symm rfl (R3.out.alloc _) m (by omega) H1 H2 (by simp) ?_; intro ao4 c4 w4 hown4 hb4) | (at_builtin; refine wpList_append_bytes rfl (.tmp 35) (.tmp 37) rfl w3.heap.size _ m _ rfl (hown4.alloc _) (.slice (some ⟨w4.heap.size, 0, none⟩) 1 1) 1 [cb] rfl rfl (Reads.lit w4 (bv [cb]) _ (0, 0) 1 rfl) (m + 1) rfl H3 H4 (Nat.le_trans (Nat.le_trans (by simp) hb4.size) (by simp)) ?_; intro ao5 c5 w5 hown5 hb5))
    have hD2 := decode_any _ (m + 1) _ w5 hown5.reads hown5.1 (Lib.hid (by omega))
    have hnone : dec ([] ++ X ++ [cb]) = none := by rw [List.nil_append, ← HX.out.1]; exact dec_byte L (by have := HB.out; omega) cb
    have B5 := Lib.hid (((B3.out.trans (((Below.refl _ w3).alloc B3.out.size _).trans (hb4.mono B3.out.size))).trans ((Below.refl _ w4).alloc (Nat.le_trans B3.out.size (Nat.le_trans (by simp) hb4.size)) _)).trans (hb5.mono B3.out.size))
    clear hown4 hb4 hown5 hb5 H1 H2 H3 H4 R3
    refine hD2.mono ?_
    rintro e w6 ⟨hb6, ⟨M, _, _, hM, _⟩ | ⟨_, rfl⟩⟩
    · rw [hnone] at hM; cases hM
    have B6 := Lib.hid (B5.out.trans (hb6.mono B5.out.size))
    clear hb6 hD2 hnone B5
    go_wp2_with (first | (go_at_call 19; refine (num_any _ _).mono ?_; rintro e w' ⟨rfl, rfl⟩) | (go_at_call 9; refine (awake_any _).mono ?_; rintro e w' ⟨rfl, hb9⟩))
    go_ret
    exact ⟨rfl, B6.out.trans (hb9.mono B6.out.size)⟩

end Go.Proofs.Ytnfehpienhlfpaa
