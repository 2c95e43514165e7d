/- Decode and its closures. Numbers and types by name. -/
import Derived.Test.YtnfehpienhlfpaaNbs
namespace Go.Proofs.Ytnfehpienhlfpaa
open Go.RowKit Go.Lib

/-- The cells that the closures hold: the bytes, the place, the closure itself. -/
structure Held (w : World) (pb pa : Nat) (v : Value) (k : Nat) : Prop where
  b : w.cell? ⟨pb, 0, none⟩ = some v
  a : w.cell? ⟨pa, 0, none⟩ = some (.int .i64 k)
  fz : w.frozen? ⟨pa, 0, none⟩ = false

theorem number_ok (pb pa : Nat) (v : Value) (m k : Nat) (l : List UInt8) (w : World) (hh : Held w pb pa v k) (hr : Reads w v (bv l)) (hm : m = l.length) (hl : Hid (m ≤ 1000000000)) (hk : k + 4 ≤ m) :
    Calls Try.prog 20 #[.pointer (some ⟨pb, 0, none⟩), .pointer (some ⟨pa, 0, none⟩)] w fun e w' =>
      e = .returned (.tuple #[.int .i64 (numOf ((l.drop k).take 4)), .bool true]) ∧ w' = w.setCell ⟨pa, 0, none⟩ (.int .i64 ((k + 4 : Nat) : Int)) := by
  have c1 := hh.b
  have c2 := hh.a
  have c3 := hh.fz
  have hl' := hl.out
  have G := get_in v m l k w hr hm (Lib.hid (by unfold maxLen; omega)) hk
  have n4 : wrap64 ((k : Int) + 4) = ((k + 4 : Nat) : Int) := by rw [wrap64_id _ (by omega)]; omega
  clear hr hh hm
  go_enter Try.func20, Try.ntmps20
  go_wp2_with (go_at_call 10; refine G.mono ?_; rintro e w' ⟨rfl, rfl⟩)
  go_ret2
  exact ⟨rfl, by simp⟩

theorem number_no (pb pa : Nat) (v : Value) (m k : Nat) (l : List UInt8) (w : World) (hh : Held w pb pa v k) (hr : Reads w v (bv l)) (hm : m = l.length) (hl : Hid (m ≤ 1000000000)) (hk : ¬ k + 4 ≤ m) :
    Calls Try.prog 20 #[.pointer (some ⟨pb, 0, none⟩), .pointer (some ⟨pa, 0, none⟩)] w fun e w' =>
      e = .returned (.tuple #[.int .i64 0, .bool false]) ∧ w' = w := by
  have c1 := hh.b
  have c2 := hh.a
  have hl' := hl.out
  have G := get_out v m l k w hr hm (Lib.hid (by unfold maxLen; omega)) (by omega)
  clear hr hh hm
  go_enter Try.func20, Try.ntmps20
  go_wp2_with (go_at_call 10; refine G.mono ?_; rintro e w' ⟨rfl, rfl⟩)
  go_ret2
  exact ⟨rfl, rfl⟩

theorem Held.set {w : World} {pb pa : Nat} {v : Value} {k : Nat} (h : Held w pb pa v k) (hne : pb ≠ pa) (k' : Nat) : Held (w.setCell ⟨pa, 0, none⟩ (.int .i64 (k' : Int))) pb pa v k' := by
  have e1 : (⟨pa, 0, none⟩ : Addr) ≠ ⟨pb, 0, none⟩ := by intro e; cases e; exact hne rfl
  exact ⟨(World.cell?_setCell_other w _ _ _ e1).trans h.b, World.cell?_setCell_same w _ _ h.a, by rw [World.frozen?_setCell]; exact h.fz⟩

theorem text_no1 (pf pb pa : Nat) (v : Value) (m k : Nat) (l : List UInt8) (w : World) (hf : w.cell? ⟨pf, 0, none⟩ = some (.func (.func 20) #[] #[.pointer (some ⟨pb, 0, none⟩), .pointer (some ⟨pa, 0, none⟩)])) (hh : Held w pb pa v k) (hr : Reads w v (bv l)) (hm : m = l.length) (hl : Hid (m ≤ 1000000000)) (hk : ¬ k + 4 ≤ m) :
    Calls Try.prog 21 #[.pointer (some ⟨pf, 0, none⟩), .pointer (some ⟨pb, 0, none⟩), .pointer (some ⟨pa, 0, none⟩)] w fun e w' =>
      e = .returned (.tuple #[.string ⟨#[]⟩, .bool false]) ∧ w' = w := by
  have G := number_no pb pa v m k l w hh hr hm hl hk
  go_enter Try.func21, Try.ntmps21
  go_wp2_with (go_at_call 20; refine G.mono ?_; rintro e w' ⟨rfl, rfl⟩)
  go_ret2
  exact ⟨rfl, rfl⟩

theorem text_yes (pf pb pa : Nat) (v : Value) (m k q : Nat) (l : List UInt8) (w : World) (hf : w.cell? ⟨pf, 0, none⟩ = some (.func (.func 20) #[] #[.pointer (some ⟨pb, 0, none⟩), .pointer (some ⟨pa, 0, none⟩)])) (hh : Held w pb pa v k) (hr : Reads w v (bv l)) (hm : m = l.length) (hl : Hid (m ≤ 1000000000)) (hq : q = k + 4) (hk : q ≤ m) (hne : pb ≠ pa) (n : Nat) (hn : numOf ((l.drop k).take 4) = n) (hv : ∀ a n c, v = .slice (some a) n c → a.block ≠ pa) :
    Calls Try.prog 21 #[.pointer (some ⟨pf, 0, none⟩), .pointer (some ⟨pb, 0, none⟩), .pointer (some ⟨pa, 0, none⟩)] w fun e w' =>
      (n ≤ m - q ∧ e = .returned (.tuple #[.string ⟨((l.drop q).take n).toArray⟩, .bool true]) ∧ w' = (w.setCell ⟨pa, 0, none⟩ (.int .i64 (q : Int))).setCell ⟨pa, 0, none⟩ (.int .i64 ((q + n : Nat) : Int))) ∨
      (¬ n ≤ m - q ∧ e = .returned (.tuple #[.string ⟨#[]⟩, .bool false]) ∧ w' = w.setCell ⟨pa, 0, none⟩ (.int .i64 (q : Int))) := by
  have G := number_ok pb pa v m k l w hh hr hm hl (by omega)
  rw [hn, ← hq] at G
  have hH := hh.set hne q
  have c1 := hH.b
  have c2 := hH.a
  have c3 := hH.fz
  have hl' := hl.out
  obtain ⟨ao, c, hv'⟩ : ∃ ao c, v = .slice ao m c := by obtain ⟨ao, c, rfl, _⟩ := hr; exact ⟨ao, c, by rw [bv_length, hm]⟩
  subst hv'
  generalize hw1 : w.setCell ⟨pa, 0, none⟩ (.int .i64 (q : Int)) = w1 at *
  have hr1 : ∀ x, Reads (w1.setCell ⟨pa, 0, none⟩ x) (.slice ao m c) (bv l) := fun x => by
    rw [← hw1]
    exact hr.grown (grown_set (grown_set (grown_refl w (some pa)) 0 _) 0 _) (by intro a n c e; have := hv a n c e; simpa using this)
  have hq4 : 4 ≤ q := by omega
  clear hr hw1 hv hH hh hq hn
  have n1 : wrap64 ((m : Int) - (q : Int)) = ((m - q : Nat) : Int) := by rw [wrap64_id _ (by omega)]; omega
  by_cases hle : n ≤ m - q
  · have h3 : ¬ ((m - q : Nat) : Int) < (n : Int) := by omega
    have n2 : wrap64 ((q : Int) + (n : Int)) = ((q + n : Nat) : Int) := by rw [wrap64_id _ (by omega)]; omega
    have n3 : wrap64 (((q + n : Nat) : Int) - (n : Int)) = (q : Int) := by rw [wrap64_id _ (by omega)]; omega
    obtain ⟨a, rfl⟩ : ∃ a, ao = some a := by
      cases ao with
      | some a => exact ⟨a, rfl⟩
      | none =>
        obtain ⟨ao', c', e, _, hn0, _⟩ := hr1 (.bool true)
        simp only [Value.slice.injEq] at e
        have := (hn0 e.1.symm).1
        have : l = [] := by simpa [bv] using this
        subst this; simp at hm; omega
    have hmc : m ≤ c := by
      obtain ⟨ao', c', e, h0, _⟩ := hr1 (.bool true)
      simp only [Value.slice.injEq] at e
      rw [bv_length] at h0
      omega
    have hcell : ∀ x j u, l[j]? = some u → (w1.setCell ⟨pa, 0, none⟩ x).cell? (a.add j) = some (.int .u8 (u.toNat : Int)) := fun x j u hj => by
      obtain ⟨ao', c', e, _, _, h2⟩ := hr1 x
      simp only [Value.slice.injEq] at e
      exact h2 a e.1.symm j _ (by simp [bv, hj])
    have hcv : ∀ x c', (convert 22 9 (.slice (some (a.add q)) n c')).run Try.prog (w1.setCell ⟨pa, 0, none⟩ x) = .ok (.string ⟨((l.drop q).take n).toArray⟩) (w1.setCell ⟨pa, 0, none⟩ x) := fun x c' => by
      have hlen : ((l.drop q).take n).length = n := by simp; omega
      have := run_convert_bytes_back (P := Try.prog) (w1.setCell ⟨pa, 0, none⟩ x) 22 9 5 (a.add q) c' ((l.drop q).take n) Try.underlying22 Try.underlying5 Try.underlying9 (fun j hj => by
        rw [Addr.add_add]
        refine hcell x (q + j) _ ?_
        rw [← List.getElem?_drop, ← List.getElem?_take_of_lt (by omega : j < n)]
        exact List.getElem?_eq_getElem hj)
      rw [hlen] at this
      exact this
    have HM := Lib.hid hm
    clear hcell hr1 hm
    by_cases hc : c = q
    · obtain rfl : n = 0 := by omega
      have hcv0 : ∀ x, (convert 22 9 (.slice (some a) 0 0)).run Try.prog (w1.setCell ⟨pa, 0, none⟩ x) = .ok (.string ⟨#[]⟩) (w1.setCell ⟨pa, 0, none⟩ x) := fun x =>
        run_convert_bytes_back (P := Try.prog) (w1.setCell ⟨pa, 0, none⟩ x) 22 9 5 a 0 [] Try.underlying22 Try.underlying5 Try.underlying9 (fun j hj => by simp at hj)
      clear hcv
      subst hc
      go_enter Try.func21, Try.ntmps21
      go_wp2_with (go_at_call 20; refine G.mono ?_; rintro e w' ⟨rfl, rfl⟩)
      go_ret2
      exact .inl ⟨by omega, rfl, rfl⟩
    · have hc2 : ¬ c = q := hc
      have x1 : ((q + n : Nat) : Int) ≤ (c : Int) := by omega
      have x2 : q ≤ q + n := by omega
      have x3 : q + n ≤ c := by omega
      go_enter Try.func21, Try.ntmps21
      go_wp2_with (go_at_call 20; refine G.mono ?_; rintro e w' ⟨rfl, rfl⟩)
      go_ret2
      exact .inl ⟨hle, rfl, by simp⟩
  · have h3 : ((m - q : Nat) : Int) < (n : Int) := by omega
    clear hr1 hm
    go_enter Try.func21, Try.ntmps21
    go_wp2_with (go_at_call 20; refine G.mono ?_; rintro e w' ⟨rfl, rfl⟩)
    go_ret2
    exact .inr ⟨hle, rfl, rfl⟩

theorem num_drop {l : List UInt8} {k : Nat} (h : k + 4 ≤ l.length) : num? (l.drop k) = some ((numOf ((l.drop k).take 4)).toNat, l.drop (k + 4)) := by
  unfold num?
  rw [if_pos (by simp; omega), List.drop_drop]
theorem num_drop_no {l : List UInt8} {k : Nat} (h : ¬ k + 4 ≤ l.length) : num? (l.drop k) = none := by
  unfold num?
  rw [if_neg (by simp; omega)]

/-- What the closure leaves. -/
def TextDone (w : World) (pb pa : Nat) (v : Value) (l : List UInt8) (k : Nat) (e : Ending) (w' : World) : Prop :=
  w.grownBy w' (some pa) ∧
  ((∃ t k', text? (l.drop k) = some (t, l.drop k') ∧ k' ≤ l.length ∧ e = .returned (.tuple #[.string ⟨t.toArray⟩, .bool true]) ∧ Held w' pb pa v k') ∨
   (text? (l.drop k) = none ∧ e = .returned (.tuple #[.string ⟨#[]⟩, .bool false])))

theorem text_any (pf pb pa : Nat) (v : Value) (m k : Nat) (l : List UInt8) (w : World) (hf : w.cell? ⟨pf, 0, none⟩ = some (.func (.func 20) #[] #[.pointer (some ⟨pb, 0, none⟩), .pointer (some ⟨pa, 0, none⟩)])) (hh : Held w pb pa v k) (hr : Reads w v (bv l)) (hm : m = l.length) (hl : Hid (m ≤ 1000000000)) (hne : pb ≠ pa) (hv : ∀ a n c, v = .slice (some a) n c → a.block ≠ pa) :
    Calls Try.prog 21 #[.pointer (some ⟨pf, 0, none⟩), .pointer (some ⟨pb, 0, none⟩), .pointer (some ⟨pa, 0, none⟩)] w (TextDone w pb pa v l k) := by
  by_cases hk : k + 4 ≤ m
  · obtain ⟨n, hn⟩ : ∃ n : Nat, numOf ((l.drop k).take 4) = n := ⟨_, (Int.toNat_of_nonneg (numOf_bound _).1).symm⟩
    have hnum := num_drop (l := l) (k := k) (by omega)
    rw [hn, Int.toNat_natCast] at hnum
    have g1 : w.grownBy (w.setCell ⟨pa, 0, none⟩ (.int .i64 ((k + 4 : Nat) : Int))) (some pa) := grown_set (grown_refl w (some pa)) 0 _
    refine (text_yes pf pb pa v m k (k + 4) l w hf hh hr hm hl rfl hk hne n hn hv).mono ?_
    rintro e w' (⟨hle, rfl, rfl⟩ | ⟨hle, rfl, rfl⟩)
    · refine ⟨grown_set g1 0 _, .inl ⟨_, k + 4 + n, ?_, by omega, rfl, (hh.set hne (k + 4)).set hne (k + 4 + n)⟩⟩
      unfold text?
      rw [hnum]
      simp only
      rw [if_pos (by simp; omega), List.drop_drop]
    · refine ⟨g1, .inr ⟨?_, rfl⟩⟩
      unfold text?
      rw [hnum]
      simp only
      rw [if_neg (by simp; omega)]
  · refine (text_no1 pf pb pa v m k l w hf hh hr hm hl hk).mono ?_
    rintro e w' ⟨rfl, rfl⟩
    refine ⟨grown_refl _ _, .inr ⟨?_, rfl⟩⟩
    unfold text?
    rw [num_drop_no (by omega)]

end Go.Proofs.Ytnfehpienhlfpaa
