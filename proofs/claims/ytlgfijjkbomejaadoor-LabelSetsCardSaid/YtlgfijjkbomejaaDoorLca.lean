/- THE CODE's lexer: classes of bytes, spans, key words, what a word or a number is. Numbers and types by name. -/
import Derived.Test.YtlgfijjkbomejaaDoorChg
import Derived.Deep.Cut
import Derived.Deep.CutBlock
import Derived.Deep.CutRange
/- The reference's lexer: its loop's body, and what holds between two tokens. Numbers and types by name. -/
namespace Go.Proofs.YtlgfijjkbomejaaDoor
open Go.RowKit Go.Lib
set_option maxRecDepth 100000

/-- What a lexer leaves. -/
def LexTold (w : World) (R : LexR) (e : Ending) (w' : World) : Prop :=
  ∃ ao n c, e = .returned (.tuple #[.slice ao n c, .int .i64 R.e, .int .i64 (R.pos : Int)]) ∧ Tkr w' (.slice ao n c) n R.l ∧ Below w.heap.size w w'

theorem runL_at (p : UInt8 → Bool) (q : List UInt8) : (∀ j, j < runL p q → ∃ d, q[j]? = some d ∧ p d = true) ∧ (q.length = runL p q ∨ ∃ d, q[runL p q]? = some d ∧ p d = false) := by
  have hle := runL_le p q
  obtain ⟨h1, h2⟩ := runL_take p q
  refine ⟨fun j hj => ?_, ?_⟩
  · have hx : q[j]? = some (q[j]'(by omega)) := List.getElem?_eq_getElem (by omega)
    refine ⟨_, hx, h1 _ ?_⟩
    rw [List.mem_take_iff_getElem]
    exact ⟨j, by omega, rfl⟩
  · rcases h2 with h2 | ⟨c, l, h2, h3⟩
    · left
      have := congrArg List.length h2
      simp only [List.length_drop, List.length_nil] at this
      omega
    · right
      refine ⟨c, ?_, h3⟩
      have : (q.drop (runL p q))[0]? = some c := by rw [h2]; rfl
      rwa [List.getElem?_drop, Nat.add_zero] at this
theorem spc_int (c : UInt8) : isSpc c = (((c.toNat : Int) == 32) || ((c.toNat : Int) == 9) || ((c.toNat : Int) == 10) || ((c.toNat : Int) == 13)) := by
  have e : ∀ d : UInt8, (c == d) = ((c.toNat : Int) == (d.toNat : Int)) := fun d => by
    rw [Bool.eq_iff_iff, beq_iff_eq, beq_iff_eq, ← UInt8.toNat_inj]
    omega
  unfold isSpc
  simp only [e]
  rfl
theorem ne_int {c d : UInt8} (h : c ≠ d) : ((c.toNat : Int) == (d.toNat : Int)) = false := by
  rw [beq_eq_false_iff_ne]
  intro h'
  exact h (UInt8.toNat_inj.1 (by omega))
theorem us_one (d : UInt8) : (isLet d || d == 95) = (isLet d || ((d.toNat : Int) == 95)) := by
  have e : (d == 95) = ((d.toNat : Int) == 95) := by
    rw [Bool.eq_iff_iff, beq_iff_eq, beq_iff_eq, ← UInt8.toNat_inj]
    have : (95 : UInt8).toNat = 95 := rfl
    omega
  rw [e]
theorem us_int (d : UInt8) : isWrd d = (isLet d || isDig d || ((d.toNat : Int) == 95)) := by
  have e : (d == 95) = ((d.toNat : Int) == 95) := by
    rw [Bool.eq_iff_iff, beq_iff_eq, beq_iff_eq, ← UInt8.toNat_inj]
    have : (95 : UInt8).toNat = 95 := rfl
    omega
  unfold isWrd
  rw [e]

/-- Between two tokens. -/
def LexAt (w wr : World) (l : List UInt8) (R : LexR) (k : Nat) (v : Value) (n : Nat) : Prop :=
  ∃ acc, OwnT wr w.heap.size v n acc ∧ Below w.heap.size w wr ∧ appL acc (lexA k (l.drop k)) = R ∧ acc.length ≤ k
theorem LexAt.skip {w wr : World} {l : List UInt8} {R : LexR} {k n : Nat} {v : Value} {c : UInt8} {r : List UInt8} {m : Nat} (h : LexAt w wr l R k v n) (hd : l.drop k = c :: r) (hs : stepL (c :: r) = .skip m) : LexAt w wr l R (k + m) v n := by
  obtain ⟨acc, h1, h2, h3, h4⟩ := h
  rw [hd, lexA_skip hs, ← hd, List.drop_drop] at h3
  exact ⟨acc, h1, h2, h3, by omega⟩

theorem LexAt.tok {w wr w6 : World} {l : List UInt8} {R : LexR} {k n N : Nat} {v v6 : Value} {c : UInt8} {r : List UInt8} {q : Int} {acc : List Tk} (h : OwnT wr w.heap.size v n acc ∧ Below w.heap.size w wr ∧ appL acc (lexA k (l.drop k)) = R ∧ acc.length ≤ k) (hd : l.drop k = c :: r) (hs : stepL (c :: r) = .tok q N)
    (ho : w6.ownsRow w.heap.size 80 3 v6 (n + 1) (tvs acc ++ tv ⟨q, (c :: r).take N, k⟩)) {o : Obj} (hb : Below w.heap.size (wr.alloc o) w6) : LexAt w w6 l R (k + N) v6 (n + 1) := by
  obtain ⟨h1, h2, h3, h4⟩ := h
  have hN := (stepL_n (c := c) (r := r)).2 q N hs
  refine ⟨acc ++ [⟨q, (c :: r).take N, k⟩], ⟨by rw [List.length_append, ← h1.1]; rfl, ?_⟩, (h2.alloc h2.size o).trans hb, ?_, by rw [List.length_append, List.length_singleton]; omega⟩
  · rw [tvs_snoc]
    exact ho
  · rw [appL_cons, ← List.drop_drop, hd, ← lexA_tok hs, ← hd]
    exact h3
theorem LexAt.bad {w wr : World} {l : List UInt8} {R : LexR} {k n : Nat} {v : Value} {c : UInt8} {r : List UInt8} {e : Int} (h : LexAt w wr l R k v n) (hd : l.drop k = c :: r) (hs : stepL (c :: r) = .bad e) : R = ⟨[], e, k⟩ ∧ Below w.heap.size w wr := by
  obtain ⟨acc, h1, h2, h3, h4⟩ := h
  rw [hd, lexA_bad hs] at h3
  refine ⟨h3.symm.trans ?_, h2⟩
  unfold appL
  rw [if_neg]
  rcases stepL_bad hs with rfl | rfl <;> simp
/-- The first loop of a function's body. -/
def firstLoop : Code → Option Code
  | .loop c => some c
  | .seq a b => match firstLoop a with
    | some c => some c
    | none => firstLoop b
  | .block _ c => firstLoop c
  | .scope c => firstLoop c
  | .cond _ a b => match firstLoop a with
    | some c => some c
    | none => firstLoop b
  | _ => none
end Go.Proofs.YtlgfijjkbomejaaDoor

/- The reference's lexer: blanks, remarks. Numbers and types by name. -/
namespace Go.Proofs.YtlgfijjkbomejaaDoor
open Go.RowKit Go.Lib
set_option maxRecDepth 100000

end Go.Proofs.YtlgfijjkbomejaaDoor

/- The reference's lexer: words. Numbers and types by name. -/
namespace Go.Proofs.YtlgfijjkbomejaaDoor
open Go.RowKit Go.Lib
set_option maxRecDepth 100000

end Go.Proofs.YtlgfijjkbomejaaDoor

/- The reference's lexer: numbers. Numbers and types by name. -/
namespace Go.Proofs.YtlgfijjkbomejaaDoor
open Go.RowKit Go.Lib
set_option maxRecDepth 100000

end Go.Proofs.YtlgfijjkbomejaaDoor

/- The reference's lexer: signs. Numbers and types by name. -/
namespace Go.Proofs.YtlgfijjkbomejaaDoor
open Go.RowKit Go.Lib
set_option maxRecDepth 100000

end Go.Proofs.YtlgfijjkbomejaaDoor

/- The reference's lexer, whole. Numbers and types by name. -/
namespace Go.Proofs.YtlgfijjkbomejaaDoor
open Go.RowKit Go.Lib
set_option maxRecDepth 100000

end Go.Proofs.YtlgfijjkbomejaaDoor

namespace Go.Proofs.YtlgfijjkbomejaaDoor
open Go.RowKit Go.Lib
set_option maxRecDepth 100000

theorem code_space (c : UInt8) (w : World) : Calls Tryd.prog 47 #[.int .u8 (c.toNat : Int)] w fun e w' => e = .returned (.bool (isSpc c)) ∧ w = w' := by
  rw [spc_int]
  generalize c.toNat = k
  obtain ⟨b1, q1⟩ : ∃ b, ((k : Int) == 32) = b := ⟨_, rfl⟩
  obtain ⟨b2, q2⟩ : ∃ b, ((k : Int) == 9) = b := ⟨_, rfl⟩
  obtain ⟨b3, q3⟩ : ∃ b, ((k : Int) == 10) = b := ⟨_, rfl⟩
  obtain ⟨b4, q4⟩ : ∃ b, ((k : Int) == 13) = b := ⟨_, rfl⟩
  rw [q1, q2, q3, q4]
  go_enter Tryd.func47, Tryd.ntmps47
  cases b1 <;> cases b2 <;> cases b3 <;> cases b4 <;> (go_wp2_with fail; go_ret; exact ⟨rfl, rfl⟩)
theorem code_line (c : UInt8) (w : World) : Calls Tryd.prog 46 #[.int .u8 (c.toNat : Int)] w fun e w' => e = .returned (.bool (c != 10)) ∧ w = w' := by
  have e1 : (c != 10) = ((c.toNat : Int) != 10) := by
    rw [bne, bne]
    congr 1
    rw [Bool.eq_iff_iff, beq_iff_eq, beq_iff_eq, ← UInt8.toNat_inj]
    have : (10 : UInt8).toNat = 10 := rfl
    omega
  rw [e1]
  generalize c.toNat = k
  go_enter Tryd.func46, Tryd.ntmps46
  go_wp2_with fail
  go_ret
  exact ⟨rfl, rfl⟩
theorem code_letter (c : UInt8) (w : World) : Calls Tryd.prog 48 #[.int .u8 (c.toNat : Int)] w fun e w' => e = .returned (.bool (isLet c)) ∧ w = w' := by
  unfold isLet
  generalize c.toNat = k
  by_cases h1 : 97 ≤ k
  · have h2 : (97 : Int) ≤ (k : Int) := by omega
    by_cases h3 : k ≤ 122
    · have h4 : (k : Int) ≤ (122 : Int) := by omega
      go_enter Tryd.func48, Tryd.ntmps48
      go_wp2_with fail
      go_ret
      exact ⟨by simp [h1, h3], rfl⟩
    · have h4 : ¬ (k : Int) ≤ (122 : Int) := by omega
      go_enter Tryd.func48, Tryd.ntmps48
      go_wp2_with fail
      go_ret
      exact ⟨by simp [h3], rfl⟩
  · have h2 : ¬ (97 : Int) ≤ (k : Int) := by omega
    go_enter Tryd.func48, Tryd.ntmps48
    go_wp2_with fail
    go_ret
    exact ⟨by simp [h1], rfl⟩
theorem code_digit (c : UInt8) (w : World) : Calls Tryd.prog 50 #[.int .u8 (c.toNat : Int)] w fun e w' => e = .returned (.bool (isDig c)) ∧ w = w' := by
  unfold isDig
  generalize c.toNat = k
  by_cases h1 : 48 ≤ k
  · have h2 : (48 : Int) ≤ (k : Int) := by omega
    by_cases h3 : k ≤ 57
    · have h4 : (k : Int) ≤ (57 : Int) := by omega
      go_enter Tryd.func50, Tryd.ntmps50
      go_wp2_with fail
      go_ret
      exact ⟨by simp [h1, h3], rfl⟩
    · have h4 : ¬ (k : Int) ≤ (57 : Int) := by omega
      go_enter Tryd.func50, Tryd.ntmps50
      go_wp2_with fail
      go_ret
      exact ⟨by simp [h3], rfl⟩
  · have h2 : ¬ (48 : Int) ≤ (k : Int) := by omega
    go_enter Tryd.func50, Tryd.ntmps50
    go_wp2_with fail
    go_ret
    exact ⟨by simp [h1], rfl⟩
theorem code_wordB (c : UInt8) (w : World) : Calls Tryd.prog 54 #[.int .u8 (c.toNat : Int)] w fun e w' => e = .returned (.bool (isWrd c)) ∧ w = w' := by
  rw [us_int]
  have L := code_letter c
  have D := code_digit c
  obtain ⟨b1, q1⟩ : ∃ b, isLet c = b := ⟨_, rfl⟩
  obtain ⟨b2, q2⟩ : ∃ b, isDig c = b := ⟨_, rfl⟩
  rw [q1, q2]
  rw [q1] at L
  rw [q2] at D
  clear q1 q2
  generalize c.toNat = k at *
  obtain ⟨b3, q3⟩ : ∃ b, ((k : Int) == 95) = b := ⟨_, rfl⟩
  rw [q3]
  go_enter Tryd.func54, Tryd.ntmps54
  cases b1 <;> cases b2 <;> cases b3 <;>
  · go_wp2_with (first | (go_at_call 48; refine (L _).mono ?_; rintro e w' ⟨rfl, rfl⟩) | (go_at_call 50; refine (D _).mono ?_; rintro e w' ⟨rfl, rfl⟩))
    go_ret
    exact ⟨rfl, rfl⟩

theorem code_key (l : List UInt8) (w : World) : Calls Tryd.prog 55 #[.string (tx l)] w fun e w' => e = .returned (.bool (keysL.contains l)) ∧ w = w' := by
  have hl := tx_list l
  go_enter Tryd.func55, Tryd.ntmps55
  go_wp2_with fail
  all_goals first
    | (rename_i h1 h2
       rw [h1] at h2
       exact absurd h2 (by decide))
    | (rename_i h1
       obtain rfl := eq_of_beq h1
       go_ret
       exact ⟨rfl, rfl⟩)
    | (rename_i h1 h2
       obtain rfl := eq_of_beq h1
       go_ret
       exact ⟨rfl, rfl⟩)
    | (go_ret
       refine ⟨?_, rfl⟩
       simp_all [keysL])
theorem code_keyB {l : List UInt8} {B : Bool} (h : keysL.contains l = B) (w : World) : Calls Tryd.prog 55 #[.string (tx l)] w fun e w' => e = .returned (.bool B) ∧ w = w' := h ▸ code_key l w

theorem runL_of {p : UInt8 → Bool} {q : List UInt8} {k : Nat} (h1 : ∀ j, j < k → ∃ d, q[j]? = some d ∧ p d = true) (h2 : q.length = k ∨ ∃ d, q[k]? = some d ∧ p d = false) : runL p q = k := by
  obtain ⟨h3, h4⟩ := runL_at p q
  rcases Nat.lt_trichotomy (runL p q) k with h | h | h
  · obtain ⟨d, hd, hp⟩ := h1 _ h
    rcases h4 with h4 | ⟨d', hd', hp'⟩
    · rw [List.getElem?_eq_none (by omega)] at hd
      cases hd
    · rw [hd] at hd'
      cases hd'
      rw [hp] at hp'
      cases hp'
  · exact h
  · obtain ⟨d, hd, hp⟩ := h3 _ h
    rcases h2 with h2 | ⟨d', hd', hp'⟩
    · rw [List.getElem?_eq_none (by omega)] at hd
      cases hd
    · rw [hd] at hd'
      cases hd'
      rw [hp] at hp'
      cases hp'
/-- How many bytes of a class stand at the beginning. -/
theorem code_span (g : Nat) (p : UInt8 → Bool) (hg : ∀ (c : UInt8) (w : World), Calls Tryd.prog g #[.int .u8 (c.toNat : Int)] w fun e w' => e = .returned (.bool (p c)) ∧ w = w') (hent : ∀ (args : Array Value) (w : World), (callFunc g args).run Tryd.prog w = .ok (.enter g args) w) (l : List UInt8) (hm : l.length ≤ 9000) (w : World) :
    Calls Tryd.prog 45 #[.string (tx l), .func (.func g) #[] #[]] w fun e w' => e = .returned (.int .i64 (runL p l : Nat)) ∧ w = w' := by
  have hsz := tx_size l
  have HG := Lib.hid hg
  have HP := Lib.hid (fun k => @runL_of p l k)
  clear hg
  go_enter Tryd.func45, Tryd.ntmps45
  go_wp2_with fail
  go_loopw [8] (fun i wr => ∃ k : Nat, k ≤ l.length ∧ i = .int .i64 k ∧ Hid (∀ j, j < k → ∃ d, l[j]? = some d ∧ p d = true) ∧ w = wr)
    (fun i _ => l.length - (RowKit.intOf i).toNat)
  case atStart => exact ⟨0, Nat.zero_le _, rfl, Lib.hid (fun j hj => absurd hj (Nat.not_lt_zero _)), rfl⟩
  case round =>
    obtain ⟨k, hk, rfl, hs, rfl⟩ := hrel
    by_cases hlt : k < l.length
    · have h3 : (k : Int) < (l.length : Int) := by omega
      obtain ⟨c, hc⟩ : ∃ c, l[k]? = some c := ⟨_, List.getElem?_eq_getElem hlt⟩
      have hb := tx_at hc (by rw [hsz]; exact hlt)
      have hgc := HG.out c
      have hwr : wrap64 ((k : Int) + 1) = (k : Int) + 1 := wrap64_id _ (by omega)
      obtain ⟨b, hpb⟩ : ∃ b, p c = b := ⟨_, rfl⟩
      rw [hpb] at hgc
      have HC := Lib.hid (And.intro hc hpb)
      clear hc hpb
      cases b with
      | true =>
        go_wp2_with fail
        refine (hgc _).mono ?_
        rintro e w' ⟨rfl, rfl⟩
        go_wp2_with fail
        refine ⟨⟨k + 1, by omega, by go_num, Lib.hid fun j hj => ?_, by first | rfl | trivial⟩, by simp [RowKit.intOf]; omega⟩
        rcases Nat.lt_or_ge j k with h | h
        · exact hs.out j h
        · obtain rfl : j = k := by omega
          exact ⟨c, HC.out.1, HC.out.2⟩
      | false =>
        go_wp2_with fail
        refine (hgc _).mono ?_
        rintro e w' ⟨rfl, rfl⟩
        go_wp2_with fail
        go_ret
        exact ⟨by rw [HP.out k hs.out (.inr ⟨c, HC.out.1, HC.out.2⟩)]; rfl, rfl⟩
    · have h3 : ¬ (k : Int) < (l.length : Int) := by omega
      obtain rfl : k = l.length := by omega
      go_wp2_with fail
      go_ret
      exact ⟨by rw [HP.out _ hs.out (.inl rfl)]; rfl, rfl⟩

end Go.Proofs.YtlgfijjkbomejaaDoor
