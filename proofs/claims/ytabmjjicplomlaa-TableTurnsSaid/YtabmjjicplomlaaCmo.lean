/- Ops compared by their keys: table's own closure. Numbers and types by name. -/
import Derived.Test.YtabmjjicplomlaaBas
import Derived.Lib.Bytealg
import Derived.Sort.Grow
import Derived.Test.YtabmjjicplomlaaSwt
/- Texts compared: strings.Compare. Numbers and types by name. -/
namespace Go.Proofs.Ytabmjjicplomlaa
open Go.RowKit Go.Lib Go.Sort

theorem cmp_lt : ∀ a b : List UInt8, compareBytes a b < 0 ↔ a < b
  | [], [] => by simp [compareBytes]
  | [], _ :: _ => by simp [compareBytes]
  | _ :: _, [] => by simp [compareBytes]
  | x :: a, y :: b => by
    unfold compareBytes
    rw [List.cons_lt_cons_iff]
    by_cases h1 : x < y
    · simp [h1]
    · by_cases h2 : y < x
      · have h3 : x ≠ y := fun e => by subst e; exact h1 h2
        simp [h1, h2, h3]
      · have h3 : x = y := by
          refine Decidable.byContradiction fun h => ?_
          rcases UInt8.lt_or_lt_of_ne h with h | h
          · exact h1 h
          · exact h2 h
        subst h3
        simp [UInt8.lt_irrefl, cmp_lt a b]
theorem cmp_eq0 : ∀ a b : List UInt8, compareBytes a b = 0 ↔ a = b
  | [], [] => by simp [compareBytes]
  | [], _ :: _ => by simp [compareBytes]
  | _ :: _, [] => by simp [compareBytes]
  | x :: a, y :: b => by
    unfold compareBytes
    by_cases h1 : x < y
    · have h3 : x ≠ y := fun e => by subst e; exact UInt8.lt_irrefl _ h1
      simp [h1, h3]
    · by_cases h2 : y < x
      · have h3 : x ≠ y := fun e => by subst e; exact UInt8.lt_irrefl _ h2
        simp [h1, h2, h3]
      · have h3 : x = y := by
          refine Decidable.byContradiction fun h => ?_
          rcases UInt8.lt_or_lt_of_ne h with h | h
          · exact h1 h
          · exact h2 h
        subst h3
        simp [UInt8.lt_irrefl, cmp_eq0 a b]

theorem bytealg_cmp (a b : ByteArray) (w : World) :
    Calls Try.prog 61 #[.string a, .string b] w fun e w' => e = .returned (.int .i64 (compareBytes a.data.toList b.data.toList)) ∧ w' = w := by
  go_enter Try.func61, Try.ntmps61
  go_wp2_with fail
  rw [run_callFunc_extern Try.func65 (by kernel_rfl) (by kernel_rfl) (by kernel_rfl) (e := Extern.BytealgCompare.compare) (by kernel_rfl), Lib.run_compareString]
  simp only [Result.andThen]
  rw [Oper.upon_value]
  go_wp2_with fail
  go_ret
  exact ⟨rfl, rfl⟩

theorem strings_cmp (a b : ByteArray) (w : World) :
    Calls Try.prog 54 #[.string a, .string b] w fun e w' => e = .returned (.int .i64 (compareBytes a.data.toList b.data.toList)) ∧ w' = w := by
  have H := Lib.hid (bytealg_cmp a b w)
  go_enter Try.func54, Try.ntmps54
  go_wp2_with (go_at_call 61; refine H.out.mono ?_; rintro e w' ⟨rfl, rfl⟩)
  go_ret
  exact ⟨rfl, rfl⟩

end Go.Proofs.Ytabmjjicplomlaa

namespace Go.Proofs.Ytabmjjicplomlaa
open Go.RowKit Go.Lib Go.Sort

def kO (o : Opm) : List UInt8 := o.key.data.toList

/-- What the closure tells; it may lay blocks. -/
def Cmps (x y : Opm) (w : World) (e : Ending) (w' : World) : Prop := e = .returned (.int .i64 (compareBytes (kO x) (kO y))) ∧ ∃ q os, w' = grow (w.drewN q) os

theorem cmp_ops (x y : Opm) (w : World) : Calls Try.prog 53 #[.agg #[.bool x.del, .string x.key, .string x.val], .agg #[.bool y.del, .string y.key, .string y.val]] w (Cmps x y w) := by
  obtain ⟨xd, xk, xv⟩ := x
  obtain ⟨yd, yk, yv⟩ := y
  simp only
  have H := Lib.hid (strings_cmp xk yk)
  have hb1 := heap_alloc_new w (.cells #[.bool xd, .string xk, .string xv] 45)
  have hb2 := heap_alloc_new (w.alloc (.cells #[.bool xd, .string xk, .string xv] 45)) (.cells #[.bool yd, .string yk, .string yv] 45)
  have HW : Hid ((w.alloc (.cells #[.bool xd, .string xk, .string xv] 45)).alloc (.cells #[.bool yd, .string yk, .string yv] 45) = grow (w.drewN 0) #[.cells #[.bool xd, .string xk, .string xv] 45, .cells #[.bool yd, .string yk, .string yv] 45]) := Lib.hid (by rw [alloc_eq_grow, alloc_eq_grow, grow_grow]; rfl)
  go_enter Try.func53, Try.ntmps53
  go_wp2_with (go_at_call 54; refine (H.out _).mono ?_; rintro e w' ⟨rfl, rfl⟩)
  go_ret
  exact ⟨rfl, 0, _, HW.out⟩

theorem cmp_as {x y : Opm} {c : Int} (h : compareBytes (kO x) (kO y) = c) (w : World) : Calls Try.prog 53 #[.agg #[.bool x.del, .string x.key, .string x.val], .agg #[.bool y.del, .string y.key, .string y.val]] w fun e w' => e = .returned (.int .i64 c) ∧ ∃ q os, w' = grow (w.drewN q) os := by
  subst h
  exact cmp_ops x y w

end Go.Proofs.Ytabmjjicplomlaa
