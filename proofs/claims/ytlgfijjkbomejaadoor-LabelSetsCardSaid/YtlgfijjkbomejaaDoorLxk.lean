/- What is asked of the code's lexer; the document's example; lists of tokens compared. Numbers and types by name. -/
import Derived.Test.YtlgfijjkbomejaaDoorSgn
import Derived.ChangeKeysEq
import Derived.Test.YtlgfijjkbomejaaDoorLca
/- THE CODE's lexer: signs, and what stands first. Numbers and types by name. -/
namespace Go.Proofs.YtlgfijjkbomejaaDoor
open Go.RowKit Go.Lib
set_option maxRecDepth 100000

/-- Does the one text begin the other? -/
def begL (t l : List UInt8) : Bool := l.take t.length == t
theorem code_prefix0 (l t : List UInt8) (hm : l.length ≤ 9000) (ht : t.length ≤ 9000) (w : World) :
    Calls Tryd.prog 57 #[.string (tx l), .string (tx t)] w fun e w' => e = .returned (.bool (begL t l)) ∧ w = w' := by
  have hz1 := tx_size l
  have hz2 := tx_size t
  unfold begL
  by_cases h : t.length ≤ l.length
  · have h1 : (t.length : Int) ≤ (l.length : Int) := by omega
    have s1 := slice_tx0 (l := l) (j := t.length) (o := l.take t.length) h rfl (b := (t.length : Int)) rfl
    have q1 := tx_list (l.take t.length)
    have q2 := tx_list t
    obtain ⟨B, hB⟩ : ∃ B, (l.take t.length == t) = B := ⟨_, rfl⟩
    rw [hB]
    generalize l.take t.length = o at *
    have hBp : (o = t) = (B = true) := by rw [← hB]; simp
    cases B with
    | true =>
      obtain rfl : o = t := eq_of_beq hB
      clear hBp
      go_enter Tryd.func57, Tryd.ntmps57
      go_wp2_with fail
      go_ret
      exact ⟨by first | rfl | simp, rfl⟩
    | false =>
      have hne : ¬ o = t := by rw [hBp]; simp
      go_enter Tryd.func57, Tryd.ntmps57
      go_wp2_with fail
      go_ret
      exact ⟨by first | rfl | simp_all, rfl⟩
  · have h1 : ¬ (t.length : Int) ≤ (l.length : Int) := by omega
    have hB : (l.take t.length == t) = false := by
      rw [beq_eq_false_iff_ne]
      intro hh
      have := congrArg List.length hh
      rw [List.length_take] at this
      omega
    rw [hB]
    go_enter Tryd.func57, Tryd.ntmps57
    go_wp2_with fail
    go_ret
    exact ⟨rfl, rfl⟩
theorem code_prefix (l t : List UInt8) (B : Bool) (hB : begL t l = B) (hm : l.length ≤ 9000) (ht : t.length ≤ 9000) (w : World) :
    Calls Tryd.prog 56 #[.string (tx l), .string (tx t)] w fun e w' => e = .returned (.bool B) ∧ w = w' := by
  have P := code_prefix0 l t hm ht
  rw [hB] at P
  go_enter Tryd.func56, Tryd.ntmps56
  go_wp2_with (go_at_call 57; refine (P _).mono ?_; rintro e w' ⟨rfl, rfl⟩)
  go_ret
  exact ⟨rfl, rfl⟩

/-- The first sign of the list that a text begins with is the one that stands there. -/
theorem sign_first (c : UInt8) (r : List UInt8) : signL (c :: r) = match signs19.find? (fun t => begL t (c :: r)) with | some t => t.length | none => 0 := by
  have e1 : ∀ d : UInt8, begL [d] (c :: r) = (c == d) := fun d => by
    unfold begL
    simp [List.cons_beq_cons]
  cases r with
  | nil =>
    have e2 : ∀ d f : UInt8, begL [d, f] [c] = false := fun d f => by
      unfold begL
      simp [List.cons_beq_cons]
    show (if oneL c = true then 1 else 0) = _
    unfold signs19 oneL
    simp only [List.find?, e1, e2]
    cases c == 40 <;> cases c == 41 <;> cases c == 123 <;> cases c == 125 <;> cases c == 44 <;> cases c == 59 <;> cases c == 58 <;> cases c == 46 <;> try rfl
    all_goals (cases c == 61 <;> cases c == 60 <;> cases c == 43 <;> cases c == 45 <;> cases c == 42 <;> cases c == 47 <;> cases c == 37 <;> cases c == 33 <;> rfl)
  | cons d r =>
    have e2 : ∀ f g : UInt8, begL [f, g] (c :: d :: r) = (c == f && d == g) := fun f g => by
      unfold begL
      simp [List.cons_beq_cons]
    show (if twoL c d = true then 2 else if oneL c = true then 1 else 0) = _
    unfold signs19 twoL oneL
    simp only [List.find?, e1, e2]
    cases (c == 61 && d == 61) <;> cases (c == 60 && d == 61) <;> cases (c == 45 && d == 62) <;> try rfl
    cases c == 40 <;> cases c == 41 <;> cases c == 123 <;> cases c == 125 <;> cases c == 44 <;> cases c == 59 <;> cases c == 58 <;> cases c == 46 <;> try rfl
    all_goals (cases c == 61 <;> cases c == 60 <;> cases c == 43 <;> cases c == 45 <;> cases c == 42 <;> cases c == 47 <;> cases c == 37 <;> cases c == 33 <;> rfl)
theorem find_at {α : Type} {p : α → Bool} : ∀ {l : List α} {k : Nat} {x : α}, l[k]? = some x → p x = true → (∀ (j : Nat) y, j < k → l[j]? = some y → p y = false) → l.find? p = some x
  | [], _, _, h, _, _ => by simp at h
  | y :: l, 0, x, h, hp, _ => by
    simp only [List.getElem?_cons_zero, Option.some.injEq] at h
    subst h
    rw [List.find?_cons, hp]
  | y :: l, k + 1, x, h, hp, hn => by
    rw [List.find?_cons, hn 0 y (by omega) rfl]
    rw [List.getElem?_cons_succ] at h
    exact find_at h hp fun j z hj hz => hn (j + 1) z (by omega) (by rw [List.getElem?_cons_succ]; exact hz)
theorem find_no {α : Type} {p : α → Bool} {l : List α} (h : ∀ (j : Nat) y, l[j]? = some y → p y = false) : l.find? p = none := by
  rw [List.find?_eq_none]
  intro x hx
  obtain ⟨j, hj⟩ := List.getElem?_of_mem hx
  rw [h j x hj]
  simp

def signS (l : List UInt8) : LStep := if signL l = 0 then .bad 10 else .tok 4 (signL l)
theorem signs_row {w : World} (h : SgW w) : ∃ (cs : Array Value) (t : TypeId) (fr : Nat × Nat), w.heap[0]? = some (.cells cs t fr) ∧ cs.size = 19 ∧ ∀ (j : Nat) t, signs19[j]? = some t → cs[j]? = some (Value.string (tx t)) := by
  unfold SgW World.var? at h
  rw [show Tryd.prog.globalNamed "aquifer/lex.signs" = some 0 by kernel_rfl] at h
  simp only [Option.bind_some] at h
  cases hx : w.heap[0]? with
  | none => rw [hx] at h; cases h
  | some o =>
    rw [hx] at h
    cases o with
    | cells cs t fr =>
      have hcs : cs = (signs19.map fun z => Value.string (tx z)).toArray := by simpa using h
      refine ⟨cs, t, fr, rfl, by rw [hcs]; rfl, fun j t hj => ?_⟩
      clear h
      rw [hcs]
      have e : ((signs19.map fun z => Value.string (tx z)).toArray)[j]? = (signs19.map fun z => Value.string (tx z))[j]? := by simp
      rw [e, List.getElem?_map, hj]
      rfl
    | _ => simp at h
theorem sign_index (cs : Array Value) (k : Nat) (t : List UInt8) (hc : cs[k]? = some (.string (tx t))) (hk : k < 19) (w : World) :
    Sem.run Tryd.prog (Instr.index 90 (.agg cs) (.int .i64 (k : Int))) w = .ok (.string (tx t)) w := by
  have h1 : (0 : Int) ≤ (k : Int) ∧ (k : Int) < 19 := by omega
  have h2 : (part 9 cs k).run Tryd.prog w = .ok (.string (tx t)) w := run_part_plain w (by kernel_rfl) hc
  have h3 : (sizeOf 9).run Tryd.prog w = .ok 1 w := by go_simp
  simp [Instr.index, asIntOf, run_underlying Tryd.underlying90, h1, h2, h3, Sem.run_bind]
  omega
theorem code_sign (c : UInt8) (r : List UInt8) (hm : (c :: r).length ≤ 9000) (w : World) (ht : SgW w) :
    Calls Tryd.prog 52 #[.string (tx (c :: r))] w fun e w' => FirstT (signS (c :: r)) e ∧ w = w' := by
  obtain ⟨cs, t0, fr0, hx, hcs, hcv⟩ := signs_row ht
  have HV := Lib.hid hcv
  have HS := Lib.hid (sign_first c r)
  have HL := Lib.hid hm
  clear ht hcv hm
  generalize c :: r = l at *
  go_enter Tryd.func52, Tryd.ntmps52
  have hcs2 : (Tryd.prog.info? 90).map (·.size) = some cs.size := by rw [hcs]; kernel_rfl
  go_wp2_with (refine wpList_load_row rfl 90 (.global 0) rfl 0 rfl t0 cs fr0 _ hx Tryd.underlying90 rfl hcs2 ?_)
  clear hx hcs2
  go_loopw [8] (fun i wr => ∃ k : Nat, k ≤ 19 ∧ i = .int .i64 k ∧ Hid (∀ j y, j < k → signs19[j]? = some y → begL y l = false) ∧ w = wr)
    (fun i _ => 19 - (RowKit.intOf i).toNat)
  case atStart => exact ⟨0, Nat.zero_le _, rfl, Lib.hid (fun j y hj => absurd hj (Nat.not_lt_zero _)), rfl⟩
  case round =>
    obtain ⟨k, hk, rfl, hs, rfl⟩ := hrel
    by_cases hlt : k < 19
    · have h3 : (k : Int) < 19 := by omega
      obtain ⟨t, ht⟩ : ∃ t, signs19[k]? = some t := ⟨_, List.getElem?_eq_getElem (by show k < 19; exact hlt)⟩
      have hc := sign_index cs k t (HV.out k t ht) hlt
      have hwr : wrap64 ((k : Int) + 1) = (k : Int) + 1 := wrap64_id _ (by omega)
      obtain ⟨b, hb⟩ : ∃ b, begL t l = b := ⟨_, rfl⟩
      have htl : t.length ≤ 2 ∧ t.length ≠ 0 := by
        have := List.mem_of_getElem? ht
        revert this
        exact fun h => (by decide : ∀ t ∈ signs19, t.length ≤ 2 ∧ t.length ≠ 0) t h
      have P1 := code_prefix l t b hb HL.out (by omega)
      have hz := tx_size t
      have HT := Lib.hid (And.intro ht (And.intro hb htl))
      clear ht hb htl
      cases b with
      | true =>
        go_wp2_with (go_at_call 56; refine (P1 _).mono ?_; rintro e w' ⟨rfl, rfl⟩)
        go_ret3
        refine ⟨?_, rfl⟩
        have e := find_at (p := fun t => begL t l) HT.out.1 HT.out.2.1 hs.out
        have e2 := HS.out
        rw [e] at e2
        simp only at e2
        unfold signS
        rw [e2, if_neg HT.out.2.2.2]
        rfl
      | false =>
        go_wp2_with (go_at_call 56; refine (P1 _).mono ?_; rintro e w' ⟨rfl, rfl⟩)
        refine ⟨⟨k + 1, by omega, by go_num, Lib.hid fun j y hj hy => ?_, by first | rfl | trivial⟩, by simp [RowKit.intOf]; omega⟩
        rcases Nat.lt_or_ge j k with h | h
        · exact hs.out j y h hy
        · obtain rfl : j = k := by omega
          rw [HT.out.1] at hy
          cases hy
          exact HT.out.2.1
    · have h3 : ¬ (k : Int) < 19 := by omega
      obtain rfl : k = 19 := by omega
      go_wp2_with fail
      go_ret3
      refine ⟨?_, rfl⟩
      have e := find_no (p := fun t => begL t l) (l := signs19) fun j y hy => hs.out j y (List.getElem?_eq_some_iff.1 hy).1 hy
      have e2 := HS.out
      rw [e] at e2
      unfold signS
      rw [e2]
      rfl

/-- What stands first, where no blank and no remark does. -/
theorem code_first (c : UInt8) (r : List UInt8) (h1 : isSpc c = false) (h2 : c ≠ 35) (hm : (c :: r).length ≤ 9000) (w : World) (ht : SgW w) :
    Calls Tryd.prog 40 #[.string (tx (c :: r))] w fun e w' => FirstT (stepL (c :: r)) e ∧ w = w' := by
  have g0 : (c :: r)[0]? = some c := rfl
  have h0 : (0 : Nat) < (c :: r).length := by simp
  have L1 := code_letter c
  have D1 := code_digit c
  have e : stepL (c :: r) = if isLet c = true then wordS c r else if isDig c = true then numS c r else signS (c :: r) := by
    show stepC c r = _
    unfold stepC
    rw [h1, if_neg (by simp), if_neg h2]
    rfl
  rw [e]
  have hw := fun h => code_word c r h hm
  have hn := fun h => code_number c r h hm
  have hs := code_sign c r hm w ht
  clear e h1 h2 ht
  generalize wordS c r = S1 at *
  generalize numS c r = S2 at *
  generalize signS (c :: r) = S3 at *
  generalize isLet c = B1 at *
  generalize isDig c = B2 at *
  have hF : ∀ S e, FirstT S e → ∃ a b d, e = .returned (.tuple #[.int .i64 a, .int .i64 b, .int .i64 d]) := fun S e h => by
    cases S with
    | skip n => exact h.elim
    | tok k n => exact ⟨_, _, _, h⟩
    | bad x => exact ⟨_, _, _, h⟩
  have HF := Lib.hid hF
  clear hF
  generalize c :: r = l at *
  have hsz := tx_size l
  have hb := tx_at g0 (by rw [hsz]; exact h0)
  clear g0
  cases B1 with
  | true =>
    have P1 := hw rfl
    rw [if_pos rfl]
    clear hw hn hs
    go_enter Tryd.func40, Tryd.ntmps40
    go_wp2_with (first | (go_at_call 48; refine (L1 _).mono ?_; rintro e w' ⟨rfl, rfl⟩) | (go_at_call 49; refine (P1 _).mono ?_; rintro e w' ⟨hx, rfl⟩; obtain ⟨a, b, d, rfl⟩ := HF.out _ _ hx; have HX := Lib.hid hx; clear hx))
    go_ret3
    exact ⟨HX.out, rfl⟩
  | false =>
    rw [if_neg (by simp)]
    cases B2 with
    | true =>
      have P1 := hn rfl
      rw [if_pos rfl]
      clear hw hn hs
      go_enter Tryd.func40, Tryd.ntmps40
      go_wp2_with (first | (go_at_call 48; refine (L1 _).mono ?_; rintro e w' ⟨rfl, rfl⟩) | (go_at_call 50; refine (D1 _).mono ?_; rintro e w' ⟨rfl, rfl⟩) | (go_at_call 51; refine (P1 _).mono ?_; rintro e w' ⟨hx, rfl⟩; obtain ⟨a, b, d, rfl⟩ := HF.out _ _ hx; have HX := Lib.hid hx; clear hx))
      go_ret3
      exact ⟨HX.out, rfl⟩
    | false =>
      rw [if_neg (by simp)]
      clear hw hn
      go_enter Tryd.func40, Tryd.ntmps40
      go_wp2_with (first | (go_at_call 48; refine (L1 _).mono ?_; rintro e w' ⟨rfl, rfl⟩) | (go_at_call 50; refine (D1 _).mono ?_; rintro e w' ⟨rfl, rfl⟩) | (go_at_call 52; refine hs.mono ?_; rintro e w' ⟨hx, rfl⟩; obtain ⟨a, b, d, rfl⟩ := HF.out _ _ hx; have HX := Lib.hid hx; clear hx))
      go_ret3
      exact ⟨HX.out, rfl⟩

end Go.Proofs.YtlgfijjkbomejaaDoor

namespace Go.Proofs.YtlgfijjkbomejaaDoor
open Go.RowKit Go.Lib
set_option maxRecDepth 100000

/-- What is asked of the code's lexer. -/
structure LexK : Prop where
  lex : ∀ (l : List UInt8) (w : World), SgW w → Calls Tryd.prog 32 #[.string (tx l)] w (LexTold w (lexP l))

theorem lnum_at (k : Int) (w : World) : Calls Tryd.prog 6 #[.int .i64 k] w fun e w' => e = .returned (.int .i64 k) ∧ w = w' := by
  go_enter Tryd.func6, Tryd.ntmps6
  go_wp2_with fail
  go_ret
  exact ⟨rfl, rfl⟩

theorem lex_ex : lexP [120, 61, 49, 59] = ⟨[⟨1, [120], 0⟩, ⟨4, [61], 1⟩, ⟨2, [49], 2⟩, ⟨4, [59], 3⟩, ⟨0, [], 4⟩], 0, 0⟩ := by decide
/-- What same tells. -/
def SameT (ps qs : List Tk) (w : World) (e : Ending) (w' : World) : Prop := ∃ k, e = .returned (.bool (decide (ps = qs))) ∧ w' = w.drewN k
end Go.Proofs.YtlgfijjkbomejaaDoor
