/- The reference's lexer: letters, digits, key words, signs. Numbers and types by name. -/
import Derived.Test.YtcefcfipomfpkaaDoorLxg
import Derived.Test.YtcefcfipomfpkaaDoorTxt
import Derived.Test.YtcefcfipomfpkaaDoorOb
namespace Go.Proofs.YtcefcfipomfpkaaDoor
open Go.RowKit Go.Lib
set_option maxRecDepth 100000

/-- Bytes as a text. -/
def tx (l : List UInt8) : ByteArray := ⟨l.toArray⟩
theorem tx_list (l : List UInt8) : (tx l).toList = l := by
  unfold tx
  simp
theorem tx_size (l : List UInt8) : (tx l).size = l.length := rfl
theorem tx_cut (l : List UInt8) (a b : Nat) : (tx l).extract a b = tx ((l.drop a).take (b - a)) := ByteArray.extract_mk l a b
theorem tx_at {l : List UInt8} {k : Nat} {c : UInt8} (h : l[k]? = some c) (hk : k < (tx l).size) : (tx l)[k]'hk = c := by
  obtain ⟨h1, h2⟩ := List.getElem?_eq_some_iff.1 h
  exact h2

theorem ref_letter (c : UInt8) (w : World) : Calls Tryd.prog 16 #[.int .u8 (c.toNat : Int)] w fun e w' => e = .returned (.bool (isLet c)) ∧ w = w' := by
  unfold isLet
  generalize c.toNat = k
  by_cases h1 : 97 ≤ k
  · have h2 : (97 : Int) ≤ (k : Int) := by omega
    by_cases h3 : k ≤ 122
    · have h4 : (k : Int) ≤ (122 : Int) := by omega
      go_enter Tryd.func16, Tryd.ntmps16
      go_wp2_with fail
      go_ret
      exact ⟨by simp [h1, h3], rfl⟩
    · have h4 : ¬ (k : Int) ≤ (122 : Int) := by omega
      go_enter Tryd.func16, Tryd.ntmps16
      go_wp2_with fail
      go_ret
      exact ⟨by simp [h3], rfl⟩
  · have h2 : ¬ (97 : Int) ≤ (k : Int) := by omega
    go_enter Tryd.func16, Tryd.ntmps16
    go_wp2_with fail
    go_ret
    exact ⟨by simp [h1], rfl⟩
theorem ref_digit (c : UInt8) (w : World) : Calls Tryd.prog 17 #[.int .u8 (c.toNat : Int)] w fun e w' => e = .returned (.bool (isDig c)) ∧ w = w' := by
  unfold isDig
  generalize c.toNat = k
  by_cases h1 : 48 ≤ k
  · have h2 : (48 : Int) ≤ (k : Int) := by omega
    by_cases h3 : k ≤ 57
    · have h4 : (k : Int) ≤ (57 : Int) := by omega
      go_enter Tryd.func17, Tryd.ntmps17
      go_wp2_with fail
      go_ret
      exact ⟨by simp [h1, h3], rfl⟩
    · have h4 : ¬ (k : Int) ≤ (57 : Int) := by omega
      go_enter Tryd.func17, Tryd.ntmps17
      go_wp2_with fail
      go_ret
      exact ⟨by simp [h3], rfl⟩
  · have h2 : ¬ (48 : Int) ≤ (k : Int) := by omega
    go_enter Tryd.func17, Tryd.ntmps17
    go_wp2_with fail
    go_ret
    exact ⟨by simp [h1], rfl⟩

theorem ref_key (l : List UInt8) (w : World) : Calls Tryd.prog 18 #[.string (tx l)] w fun e w' => e = .returned (.bool (keysL.contains l)) ∧ w = w' := by
  have hl := tx_list l
  go_enter Tryd.func18, Tryd.ntmps18
  go_wp2_with fail
  all_goals first
    | (rename_i h1 h2
       rw [h1] at h2
       exact absurd h2 (by decide))
    | (rename_i h1
       obtain rfl := eq_of_beq h1
       go_ret
       exact ⟨rfl, rfl⟩)
    | (rename_i h1 h2
       obtain rfl := eq_of_beq h1
       go_ret
       exact ⟨rfl, rfl⟩)
    | (go_ret
       refine ⟨?_, rfl⟩
       simp_all [keysL])

theorem ref_keyB {l : List UInt8} {B : Bool} (h : keysL.contains l = B) (w : World) : Calls Tryd.prog 18 #[.string (tx l)] w fun e w' => e = .returned (.bool B) ∧ w = w' := h ▸ ref_key l w

/-- What stands from an offset on. -/
theorem drop_at {l : List UInt8} {i : Nat} {c : UInt8} {r : List UInt8} (h : l.drop i = c :: r) : l[i]? = some c ∧ l.drop (i + 1) = r ∧ i < l.length := by
  have h1 : i < l.length := by
    by_cases hh : i < l.length
    · exact hh
    · rw [List.drop_eq_nil_of_le (by omega)] at h
      cases h
  have h2 : (l.drop i)[0]? = some c := by rw [h]; rfl
  rw [List.getElem?_drop, Nat.add_zero] at h2
  refine ⟨h2, ?_, h1⟩
  rw [← List.drop_drop, h]
  rfl

theorem slice_tx {l : List UInt8} {i j : Nat} {o : List UInt8} (h1 : i ≤ j) (h2 : j ≤ l.length) (ho : (l.drop i).take (j - i) = o) {a b : Int} (ha : a = i) (hb : b = j) (w : World) :
    Sem.run Tryd.prog (Instr.slice 9 (.string (tx l)) (some (.int .i64 a)) (some (.int .i64 b)) none) w = .ok (.string (tx o)) w := by
  subst ha hb
  rw [run_slice_string w _ _ _ _ _ _ (by kernel_rfl) (by omega) (by omega) (by rw [tx_size]; omega), tx_cut]
  rw [Int.toNat_natCast, Int.toNat_natCast, ho]
theorem u8_ne {c d : UInt8} (h : ((c.toNat : Int) == (d.toNat : Int)) = false) : c ≠ d := by
  rintro rfl
  simp at h
theorem u8_eq {c d : UInt8} (h : ((c.toNat : Int) == (d.toNat : Int)) = true) : c = d := UInt8.toNat_inj.1 (by have := eq_of_beq h; omega)
theorem oneL_int (c : UInt8) : oneL c = (((c.toNat : Int) == 40) || ((c.toNat : Int) == 41) || ((c.toNat : Int) == 123) || ((c.toNat : Int) == 125) || ((c.toNat : Int) == 44) || ((c.toNat : Int) == 59) || ((c.toNat : Int) == 58) || ((c.toNat : Int) == 46) || ((c.toNat : Int) == 61) || ((c.toNat : Int) == 60) || ((c.toNat : Int) == 43) || ((c.toNat : Int) == 45) || ((c.toNat : Int) == 42) || ((c.toNat : Int) == 47) || ((c.toNat : Int) == 37) || ((c.toNat : Int) == 33)) := by
  have e : ∀ d : UInt8, (c == d) = ((c.toNat : Int) == (d.toNat : Int)) := fun d => by
    rw [Bool.eq_iff_iff, beq_iff_eq, beq_iff_eq, ← UInt8.toNat_inj]
    omega
  unfold oneL
  simp only [e]
  rfl

theorem ref_sign1 (l : List UInt8) (i : Nat) (c : UInt8) (h : l.drop i = [c]) (hm : l.length ≤ 9000) (w : World) :
    Calls Tryd.prog 19 #[.string (tx l), .int .i64 (i : Int)] w fun e w' => e = .returned (.string (tx ([c].take (signL [c])))) ∧ w = w' := by
  obtain ⟨hc, hr, hi⟩ := drop_at h
  have hsz := tx_size l
  have hb := tx_at hc (by rw [hsz]; exact hi)
  have hlen : l.length = i + 1 := by
    have := congrArg List.length hr
    simp only [List.length_drop, List.length_nil] at this
    omega
  have s1 := slice_tx (l := l) (i := i) (j := i + 1) (o := [c]) (by omega) (by omega) (by rw [h]; rw [show i + 1 - i = 1 by omega]; rfl) (a := (i : Int)) (b := (i : Int) + 1) rfl (by omega)
  have hS : [c].take (signL [c]) = if oneL c = true then [c] else [] := by
    show [c].take (if oneL c = true then 1 else 0) = _
    split <;> rfl
  rw [hS, oneL_int]
  obtain ⟨X, hX⟩ : ∃ X, X = tx (if (((c.toNat : Int) == 40) || ((c.toNat : Int) == 41) || ((c.toNat : Int) == 123) || ((c.toNat : Int) == 125) || ((c.toNat : Int) == 44) || ((c.toNat : Int) == 59) || ((c.toNat : Int) == 58) || ((c.toNat : Int) == 46) || ((c.toNat : Int) == 61) || ((c.toNat : Int) == 60) || ((c.toNat : Int) == 43) || ((c.toNat : Int) == 45) || ((c.toNat : Int) == 42) || ((c.toNat : Int) == 47) || ((c.toNat : Int) == 37) || ((c.toNat : Int) == 33)) = true then [c] else []) := ⟨_, rfl⟩
  rw [← hX]
  have H := Lib.hid (And.intro h hr)
  have HX := Lib.hid hX
  clear h hr hS hX
  go_enter Tryd.func19, Tryd.ntmps19
  go_wp2_with fail
  all_goals (go_ret; refine ⟨?_, rfl⟩; rw [HX.out]; simp_all; try rfl)
theorem twoL_list (c d : UInt8) : twoL c d = (([c, d] == [61, 61]) || ([c, d] == [60, 61]) || ([c, d] == [45, 62])) := by
  unfold twoL
  simp [List.cons_beq_cons]

theorem ref_sign2 (l : List UInt8) (i : Nat) (c d : UInt8) (r : List UInt8) (h : l.drop i = c :: d :: r) (hm : l.length ≤ 9000) (w : World) :
    Calls Tryd.prog 19 #[.string (tx l), .int .i64 (i : Int)] w fun e w' => e = .returned (.string (tx ((c :: d :: r).take (signL (c :: d :: r))))) ∧ w = w' := by
  obtain ⟨hc, hr, hi⟩ := drop_at h
  have hsz := tx_size l
  have hb := tx_at hc (by rw [hsz]; exact hi)
  have hi2 := (drop_at hr).2.2
  have hlen : ((i : Int) + 1 < (l.length : Int)) := by omega
  have hlt : (tx [c, d]).toList = [c, d] := tx_list _
  have s1 := slice_tx (l := l) (i := i) (j := i + 1) (o := [c]) (by omega) (by omega) (by rw [h]; rw [show i + 1 - i = 1 by omega]; rfl) (a := (i : Int)) (b := (i : Int) + 1) rfl (by omega)
  have s2 := slice_tx (l := l) (i := i) (j := i + 2) (o := [c, d]) (by omega) (by omega) (by rw [h]; rw [show i + 2 - i = 2 by omega]; rfl) (a := (i : Int)) (b := (i : Int) + 2) rfl (by omega)
  have hS : (c :: d :: r).take (signL (c :: d :: r)) = if twoL c d = true then [c, d] else if oneL c = true then [c] else [] := by
    show (c :: d :: r).take (if twoL c d = true then 2 else if oneL c = true then 1 else 0) = _
    split
    · rfl
    · split <;> rfl
  rw [hS, oneL_int, twoL_list]
  obtain ⟨b1, q1⟩ : ∃ b, ([c, d] == [61, 61]) = b := ⟨_, rfl⟩
  obtain ⟨b2, q2⟩ : ∃ b, ([c, d] == [60, 61]) = b := ⟨_, rfl⟩
  obtain ⟨b3, q3⟩ : ∃ b, ([c, d] == [45, 62]) = b := ⟨_, rfl⟩
  rw [q1, q2, q3]
  obtain ⟨X, hX⟩ : ∃ X, X = tx (if (b1 || b2 || b3) = true then [c, d] else if (((c.toNat : Int) == 40) || ((c.toNat : Int) == 41) || ((c.toNat : Int) == 123) || ((c.toNat : Int) == 125) || ((c.toNat : Int) == 44) || ((c.toNat : Int) == 59) || ((c.toNat : Int) == 58) || ((c.toNat : Int) == 46) || ((c.toNat : Int) == 61) || ((c.toNat : Int) == 60) || ((c.toNat : Int) == 43) || ((c.toNat : Int) == 45) || ((c.toNat : Int) == 42) || ((c.toNat : Int) == 47) || ((c.toNat : Int) == 37) || ((c.toNat : Int) == 33)) = true then [c] else []) := ⟨_, rfl⟩
  rw [← hX]
  have H := Lib.hid (And.intro h hr)
  have HX := Lib.hid hX
  clear h hr hS hX
  go_enter Tryd.func19, Tryd.ntmps19
  go_wp2_with fail
  all_goals (clear q1 q2 q3; go_ret; refine ⟨?_, rfl⟩; rw [HX.out]; simp_all; try rfl)
theorem ref_sign (l : List UInt8) (i : Nat) (c : UInt8) (r : List UInt8) (h : l.drop i = c :: r) (hm : l.length ≤ 9000) (w : World) :
    Calls Tryd.prog 19 #[.string (tx l), .int .i64 (i : Int)] w fun e w' => e = .returned (.string (tx ((c :: r).take (signL (c :: r))))) ∧ w = w' := by
  cases r with
  | nil => exact ref_sign1 l i c h hm w
  | cons d r => exact ref_sign2 l i c d r h hm w

end Go.Proofs.YtcefcfipomfpkaaDoor
