/- THE CODE's lexer: classes of bytes, spans, key words, what a word or a number is. Numbers and types by name. -/
import Derived.Test.YtcefcfipomfpkaaDoorLxs
namespace Go.Proofs.YtcefcfipomfpkaaDoor
open Go.RowKit Go.Lib
set_option maxRecDepth 100000

theorem code_space (c : UInt8) (w : World) : Calls Tryd.prog 22 #[.int .u8 (c.toNat : Int)] w fun e w' => e = .returned (.bool (isSpc c)) ∧ w = w' := by
  rw [spc_int]
  generalize c.toNat = k
  obtain ⟨b1, q1⟩ : ∃ b, ((k : Int) == 32) = b := ⟨_, rfl⟩
  obtain ⟨b2, q2⟩ : ∃ b, ((k : Int) == 9) = b := ⟨_, rfl⟩
  obtain ⟨b3, q3⟩ : ∃ b, ((k : Int) == 10) = b := ⟨_, rfl⟩
  obtain ⟨b4, q4⟩ : ∃ b, ((k : Int) == 13) = b := ⟨_, rfl⟩
  rw [q1, q2, q3, q4]
  go_enter Tryd.func22, Tryd.ntmps22
  cases b1 <;> cases b2 <;> cases b3 <;> cases b4 <;> (go_wp2_with fail; go_ret; exact ⟨rfl, rfl⟩)
theorem code_line (c : UInt8) (w : World) : Calls Tryd.prog 21 #[.int .u8 (c.toNat : Int)] w fun e w' => e = .returned (.bool (c != 10)) ∧ w = w' := by
  have e1 : (c != 10) = ((c.toNat : Int) != 10) := by
    rw [bne, bne]
    congr 1
    rw [Bool.eq_iff_iff, beq_iff_eq, beq_iff_eq, ← UInt8.toNat_inj]
    have : (10 : UInt8).toNat = 10 := rfl
    omega
  rw [e1]
  generalize c.toNat = k
  go_enter Tryd.func21, Tryd.ntmps21
  go_wp2_with fail
  go_ret
  exact ⟨rfl, rfl⟩
theorem code_letter (c : UInt8) (w : World) : Calls Tryd.prog 23 #[.int .u8 (c.toNat : Int)] w fun e w' => e = .returned (.bool (isLet c)) ∧ w = w' := by
  unfold isLet
  generalize c.toNat = k
  by_cases h1 : 97 ≤ k
  · have h2 : (97 : Int) ≤ (k : Int) := by omega
    by_cases h3 : k ≤ 122
    · have h4 : (k : Int) ≤ (122 : Int) := by omega
      go_enter Tryd.func23, Tryd.ntmps23
      go_wp2_with fail
      go_ret
      exact ⟨by simp [h1, h3], rfl⟩
    · have h4 : ¬ (k : Int) ≤ (122 : Int) := by omega
      go_enter Tryd.func23, Tryd.ntmps23
      go_wp2_with fail
      go_ret
      exact ⟨by simp [h3], rfl⟩
  · have h2 : ¬ (97 : Int) ≤ (k : Int) := by omega
    go_enter Tryd.func23, Tryd.ntmps23
    go_wp2_with fail
    go_ret
    exact ⟨by simp [h1], rfl⟩
theorem code_digit (c : UInt8) (w : World) : Calls Tryd.prog 25 #[.int .u8 (c.toNat : Int)] w fun e w' => e = .returned (.bool (isDig c)) ∧ w = w' := by
  unfold isDig
  generalize c.toNat = k
  by_cases h1 : 48 ≤ k
  · have h2 : (48 : Int) ≤ (k : Int) := by omega
    by_cases h3 : k ≤ 57
    · have h4 : (k : Int) ≤ (57 : Int) := by omega
      go_enter Tryd.func25, Tryd.ntmps25
      go_wp2_with fail
      go_ret
      exact ⟨by simp [h1, h3], rfl⟩
    · have h4 : ¬ (k : Int) ≤ (57 : Int) := by omega
      go_enter Tryd.func25, Tryd.ntmps25
      go_wp2_with fail
      go_ret
      exact ⟨by simp [h3], rfl⟩
  · have h2 : ¬ (48 : Int) ≤ (k : Int) := by omega
    go_enter Tryd.func25, Tryd.ntmps25
    go_wp2_with fail
    go_ret
    exact ⟨by simp [h1], rfl⟩
theorem code_wordB (c : UInt8) (w : World) : Calls Tryd.prog 28 #[.int .u8 (c.toNat : Int)] w fun e w' => e = .returned (.bool (isWrd c)) ∧ w = w' := by
  rw [us_int]
  have L := code_letter c
  have D := code_digit c
  obtain ⟨b1, q1⟩ : ∃ b, isLet c = b := ⟨_, rfl⟩
  obtain ⟨b2, q2⟩ : ∃ b, isDig c = b := ⟨_, rfl⟩
  rw [q1, q2]
  rw [q1] at L
  rw [q2] at D
  clear q1 q2
  generalize c.toNat = k at *
  obtain ⟨b3, q3⟩ : ∃ b, ((k : Int) == 95) = b := ⟨_, rfl⟩
  rw [q3]
  go_enter Tryd.func28, Tryd.ntmps28
  cases b1 <;> cases b2 <;> cases b3 <;>
  · go_wp2_with (first | (go_at_call 23; refine (L _).mono ?_; rintro e w' ⟨rfl, rfl⟩) | (go_at_call 25; refine (D _).mono ?_; rintro e w' ⟨rfl, rfl⟩))
    go_ret
    exact ⟨rfl, rfl⟩

theorem code_key (l : List UInt8) (w : World) : Calls Tryd.prog 29 #[.string (tx l)] w fun e w' => e = .returned (.bool (keysL.contains l)) ∧ w = w' := by
  have hl := tx_list l
  go_enter Tryd.func29, Tryd.ntmps29
  go_wp2_with fail
  all_goals first
    | (rename_i h1 h2
       rw [h1] at h2
       exact absurd h2 (by decide))
    | (rename_i h1
       obtain rfl := eq_of_beq h1
       go_ret
       exact ⟨rfl, rfl⟩)
    | (rename_i h1 h2
       obtain rfl := eq_of_beq h1
       go_ret
       exact ⟨rfl, rfl⟩)
    | (go_ret
       refine ⟨?_, rfl⟩
       simp_all [keysL])
theorem code_keyB {l : List UInt8} {B : Bool} (h : keysL.contains l = B) (w : World) : Calls Tryd.prog 29 #[.string (tx l)] w fun e w' => e = .returned (.bool B) ∧ w = w' := h ▸ code_key l w

theorem runL_of {p : UInt8 → Bool} {q : List UInt8} {k : Nat} (h1 : ∀ j, j < k → ∃ d, q[j]? = some d ∧ p d = true) (h2 : q.length = k ∨ ∃ d, q[k]? = some d ∧ p d = false) : runL p q = k := by
  obtain ⟨h3, h4⟩ := runL_at p q
  rcases Nat.lt_trichotomy (runL p q) k with h | h | h
  · obtain ⟨d, hd, hp⟩ := h1 _ h
    rcases h4 with h4 | ⟨d', hd', hp'⟩
    · rw [List.getElem?_eq_none (by omega)] at hd
      cases hd
    · rw [hd] at hd'
      cases hd'
      rw [hp] at hp'
      cases hp'
  · exact h
  · obtain ⟨d, hd, hp⟩ := h3 _ h
    rcases h2 with h2 | ⟨d', hd', hp'⟩
    · rw [List.getElem?_eq_none (by omega)] at hd
      cases hd
    · rw [hd] at hd'
      cases hd'
      rw [hp] at hp'
      cases hp'
/-- How many bytes of a class stand at the beginning. -/
theorem code_span (g : Nat) (p : UInt8 → Bool) (hg : ∀ (c : UInt8) (w : World), Calls Tryd.prog g #[.int .u8 (c.toNat : Int)] w fun e w' => e = .returned (.bool (p c)) ∧ w = w') (hent : ∀ (args : Array Value) (w : World), (callFunc g args).run Tryd.prog w = .ok (.enter g args) w) (l : List UInt8) (hm : l.length ≤ 9000) (w : World) :
    Calls Tryd.prog 20 #[.string (tx l), .func (.func g) #[] #[]] w fun e w' => e = .returned (.int .i64 (runL p l : Nat)) ∧ w = w' := by
  have hsz := tx_size l
  have HG := Lib.hid hg
  have HP := Lib.hid (fun k => @runL_of p l k)
  clear hg
  go_enter Tryd.func20, Tryd.ntmps20
  go_wp2_with fail
  go_loopw [8] (fun i wr => ∃ k : Nat, k ≤ l.length ∧ i = .int .i64 k ∧ Hid (∀ j, j < k → ∃ d, l[j]? = some d ∧ p d = true) ∧ w = wr)
    (fun i _ => l.length - (RowKit.intOf i).toNat)
  case atStart => exact ⟨0, Nat.zero_le _, rfl, Lib.hid (fun j hj => absurd hj (Nat.not_lt_zero _)), rfl⟩
  case round =>
    obtain ⟨k, hk, rfl, hs, rfl⟩ := hrel
    by_cases hlt : k < l.length
    · have h3 : (k : Int) < (l.length : Int) := by omega
      obtain ⟨c, hc⟩ : ∃ c, l[k]? = some c := ⟨_, List.getElem?_eq_getElem hlt⟩
      have hb := tx_at hc (by rw [hsz]; exact hlt)
      have hgc := HG.out c
      have hwr : wrap64 ((k : Int) + 1) = (k : Int) + 1 := wrap64_id _ (by omega)
      obtain ⟨b, hpb⟩ : ∃ b, p c = b := ⟨_, rfl⟩
      rw [hpb] at hgc
      have HC := Lib.hid (And.intro hc hpb)
      clear hc hpb
      cases b with
      | true =>
        go_wp2_with fail
        refine (hgc _).mono ?_
        rintro e w' ⟨rfl, rfl⟩
        go_wp2_with fail
        refine ⟨⟨k + 1, by omega, by go_num, Lib.hid fun j hj => ?_, by first | rfl | trivial⟩, by simp [RowKit.intOf]; omega⟩
        rcases Nat.lt_or_ge j k with h | h
        · exact hs.out j h
        · obtain rfl : j = k := by omega
          exact ⟨c, HC.out.1, HC.out.2⟩
      | false =>
        go_wp2_with fail
        refine (hgc _).mono ?_
        rintro e w' ⟨rfl, rfl⟩
        go_wp2_with fail
        go_ret
        exact ⟨by rw [HP.out k hs.out (.inr ⟨c, HC.out.1, HC.out.2⟩)]; rfl, rfl⟩
    · have h3 : ¬ (k : Int) < (l.length : Int) := by omega
      obtain rfl : k = l.length := by omega
      go_wp2_with fail
      go_ret
      exact ⟨by rw [HP.out _ hs.out (.inl rfl)]; rfl, rfl⟩

end Go.Proofs.YtcefcfipomfpkaaDoor
