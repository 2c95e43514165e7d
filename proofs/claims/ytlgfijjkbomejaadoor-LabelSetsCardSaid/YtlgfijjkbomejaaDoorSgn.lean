/- The table of signs, as the program's text lays it. Numbers and types by name. -/
import Derived.Test.YtlgfijjkbomejaaDoorLca
import Derived.Test.YtlgfijjkbomejaaDoorCel
import Derived.Lib.LaidTab
/- THE CODE's lexer: what stands between tokens, words, numbers. Numbers and types by name. -/
namespace Go.Proofs.YtlgfijjkbomejaaDoor
open Go.RowKit Go.Lib
set_option maxRecDepth 100000

theorem ent_line (args : Array Value) (w : World) : (callFunc 46 args).run Tryd.prog w = .ok (.enter 46 args) w := by go_simp
theorem ent_space (args : Array Value) (w : World) : (callFunc 47 args).run Tryd.prog w = .ok (.enter 47 args) w := by go_simp
theorem ent_word (args : Array Value) (w : World) : (callFunc 54 args).run Tryd.prog w = .ok (.enter 54 args) w := by go_simp
theorem ent_digit (args : Array Value) (w : World) : (callFunc 50 args).run Tryd.prog w = .ok (.enter 50 args) w := by go_simp

theorem slice_tx0 {l : List UInt8} {j : Nat} {o : List UInt8} (h2 : j ≤ l.length) (ho : l.take j = o) {b : Int} (hb : b = j) (w : World) :
    Sem.run Tryd.prog (Instr.slice 9 (.string (tx l)) none (some (.int .i64 b)) none) w = .ok (.string (tx o)) w := by
  subst hb
  rw [run_slice_string_to_if w _ _ _ _ (by kernel_rfl), if_pos ⟨by omega, by rw [tx_size]; omega⟩, tx_cut]
  rw [Int.toNat_natCast, List.drop_zero, Nat.sub_zero, ho]
theorem slice_txF {l : List UInt8} {i : Nat} (h2 : i ≤ l.length) {a : Int} (ha : a = i) (w : World) :
    Sem.run Tryd.prog (Instr.slice 9 (.string (tx l)) (some (.int .i64 a)) none none) w = .ok (.string (tx (l.drop i))) w := by
  subst ha
  rw [run_slice_string_from_if w _ _ _ _ (by kernel_rfl), if_pos ⟨by omega, by rw [tx_size]; omega⟩, tx_cut]
  rw [Int.toNat_natCast, tx_size, List.take_of_length_le (by rw [List.length_drop]; omega)]

/-- How many bytes stand ahead of a token: a remark's, or blanks'. -/
def gapL : List UInt8 → Nat
  | [] => 0
  | c :: r => if c = 35 then runL (fun x => x != 10) (c :: r) else runL isSpc (c :: r)
theorem code_gap (c : UInt8) (r : List UInt8) (hm : (c :: r).length ≤ 9000) (w : World) :
    Calls Tryd.prog 39 #[.string (tx (c :: r))] w fun e w' => e = .returned (.int .i64 (gapL (c :: r) : Nat)) ∧ w = w' := by
  have g0 : (c :: r)[0]? = some c := rfl
  have P1 := code_span _ _ code_line ent_line (c :: r) hm
  have P2 := code_span _ _ code_space ent_space (c :: r) hm
  show Calls _ _ _ _ fun e w' => e = .returned (.int .i64 ((if c = 35 then runL (fun x => x != 10) (c :: r) else runL isSpc (c :: r) : Nat) : Int)) ∧ w = w'
  have h0 : (0 : Nat) < (c :: r).length := by simp
  generalize runL (fun x => x != 10) (c :: r) = n1 at *
  generalize runL isSpc (c :: r) = n2 at *
  generalize c :: r = l at *
  have hsz := tx_size l
  have hb := tx_at g0 (by rw [hsz]; exact h0)
  clear g0
  by_cases h35 : c = 35
  · rw [if_pos h35]
    subst h35
    go_enter Tryd.func39, Tryd.ntmps39
    go_wp2_with (go_at_call 45; refine (P1 _).mono ?_; rintro e w' ⟨rfl, rfl⟩)
    go_ret
    exact ⟨rfl, rfl⟩
  · rw [if_neg h35]
    have h36 : ((c.toNat : Int) == 35) = false := ne_int h35
    go_enter Tryd.func39, Tryd.ntmps39
    go_wp2_with (go_at_call 45; refine (P2 _).mono ?_; rintro e w' ⟨rfl, rfl⟩)
    go_ret
    exact ⟨rfl, rfl⟩

/-- What first tells of the token that stands there. -/
def FirstT (S : LStep) (e : Ending) : Prop :=
  match S with
  | .skip _ => False
  | .tok k n => e = .returned (.tuple #[.int .i64 k, .int .i64 (n : Nat), .int .i64 0])
  | .bad x => e = .returned (.tuple #[.int .i64 0, .int .i64 0, .int .i64 x])
theorem runL_cons {p : UInt8 → Bool} {c : UInt8} (h : p c = true) (r : List UInt8) : runL p (c :: r) = 1 + runL p r := by
  unfold runL
  rw [List.takeWhile_cons, if_pos h, List.length_cons, Nat.add_comm]
theorem let_wrd {c : UInt8} (h : isLet c = true) : isWrd c = true := by
  unfold isWrd
  rw [h]
  rfl
def wordS (c : UInt8) (r : List UInt8) : LStep := if 20 < 1 + runL isWrd r then .bad 9 else .tok (if keysL.contains ((c :: r).take (1 + runL isWrd r)) = true then 3 else 1) (1 + runL isWrd r)
theorem code_word (c : UInt8) (r : List UInt8) (h : isLet c = true) (hm : (c :: r).length ≤ 9000) (w : World) :
    Calls Tryd.prog 49 #[.string (tx (c :: r))] w fun e w' => FirstT (wordS c r) e ∧ w = w' := by
  have P1 := code_span _ _ code_wordB ent_word (c :: r) hm
  rw [runL_cons (let_wrd h)] at P1
  have hle := runL_le isWrd r
  have s1 := slice_tx0 (l := c :: r) (j := 1 + runL isWrd r) (o := (c :: r).take (1 + runL isWrd r)) (by simp; omega) rfl (b := ((1 + runL isWrd r : Nat) : Int)) rfl
  have hlen : 1 + runL isWrd r ≤ (c :: r).length := by simp; omega
  obtain ⟨B, hB⟩ : ∃ B, keysL.contains ((c :: r).take (1 + runL isWrd r)) = B := ⟨_, rfl⟩
  have K1 := code_keyB hB
  unfold wordS
  rw [hB]
  clear hB hle
  generalize 1 + runL isWrd r = n at *
  generalize (c :: r).take n = t at *
  generalize c :: r = l at *
  by_cases h20 : 20 < n
  · have h21 : (20 : Int) < (n : Int) := by omega
    rw [if_pos h20]
    go_enter Tryd.func49, Tryd.ntmps49
    go_wp2_with (go_at_call 45; refine (P1 _).mono ?_; rintro e w' ⟨rfl, rfl⟩)
    go_ret3
    exact ⟨rfl, rfl⟩
  · have h21 : ¬ (20 : Int) < (n : Int) := by omega
    rw [if_neg h20]
    cases B <;>
    · go_enter Tryd.func49, Tryd.ntmps49
      go_wp2_with (first | (go_at_call 45; refine (P1 _).mono ?_; rintro e w' ⟨rfl, rfl⟩) | (go_at_call 55; refine (K1 _).mono ?_; rintro e w' ⟨rfl, rfl⟩))
      go_ret3
      exact ⟨rfl, rfl⟩

def numS (c : UInt8) (r : List UInt8) : LStep :=
  if 9 < 1 + runL isDig r then .bad 9
  else if (1 < 1 + runL isDig r ∧ c = 48) ∨ afterL (r.drop (runL isDig r)) = true then .bad 10 else .tok 2 (1 + runL isDig r)
theorem code_number (c : UInt8) (r : List UInt8) (h : isDig c = true) (hm : (c :: r).length ≤ 9000) (w : World) :
    Calls Tryd.prog 51 #[.string (tx (c :: r))] w fun e w' => FirstT (numS c r) e ∧ w = w' := by
  have g0 : (c :: r)[0]? = some c := rfl
  have P1 := code_span _ _ code_digit ent_digit (c :: r) hm
  rw [runL_cons h] at P1
  have hle := runL_le isDig r
  have hlen : 1 + runL isDig r ≤ (c :: r).length := by simp; omega
  -- what stands behind the digits
  have hbeh : (afterL (r.drop (runL isDig r)) = false ∧ (c :: r).length = 1 + runL isDig r) ∨ ∃ d, (c :: r)[1 + runL isDig r]? = some d ∧ isWrd d = afterL (r.drop (runL isDig r)) := by
    rcases (runL_take isDig r).2 with h2 | ⟨d, l, h2, h3⟩
    · left
      rw [h2]
      refine ⟨rfl, ?_⟩
      have := congrArg List.length h2
      simp only [List.length_drop, List.length_nil] at this
      simp only [List.length_cons]
      omega
    · right
      refine ⟨d, ?_, ?_⟩
      · have : (r.drop (runL isDig r))[0]? = some d := by rw [h2]; rfl
        rw [List.getElem?_drop, Nat.add_zero] at this
        rw [Nat.add_comm, List.getElem?_cons_succ]
        exact this
      · rw [h2]
        show isWrd d = (isLet d || d == 95)
        unfold isWrd
        rw [h3, Bool.or_false]
  unfold numS
  generalize afterL (r.drop (runL isDig r)) = A at *
  clear hle
  generalize 1 + runL isDig r = n at *
  have h0 : (0 : Nat) < (c :: r).length := by simp
  generalize c :: r = l at *
  have hsz := tx_size l
  have hb := tx_at g0 (by rw [hsz]; exact h0)
  clear g0
  by_cases h9 : 9 < n
  · have h10 : (9 : Int) < (n : Int) := by omega
    rw [if_pos h9]
    clear hbeh
    go_enter Tryd.func51, Tryd.ntmps51
    go_wp2_with (go_at_call 45; refine (P1 _).mono ?_; rintro e w' ⟨rfl, rfl⟩)
    go_ret3
    exact ⟨rfl, rfl⟩
  have h10 : ¬ (9 : Int) < (n : Int) := by omega
  rw [if_neg h9]
  by_cases h1 : 1 < n ∧ c = 48
  · obtain ⟨h2, rfl⟩ := h1
    have h3 : (1 : Int) < (n : Int) := by omega
    rw [if_pos (.inl ⟨h2, rfl⟩)]
    clear hbeh
    go_enter Tryd.func51, Tryd.ntmps51
    go_wp2_with (go_at_call 45; refine (P1 _).mono ?_; rintro e w' ⟨rfl, rfl⟩)
    go_ret3
    exact ⟨rfl, rfl⟩
  have hor : (¬ (1 : Int) < (n : Int)) ∨ ((1 : Int) < (n : Int) ∧ ((c.toNat : Int) == 48) = false) := by
    by_cases h2 : 1 < n
    · exact .inr ⟨by omega, ne_int fun h3 => h1 ⟨h2, h3⟩⟩
    · exact .inl (by omega)
  rw [show (if (1 < n ∧ c = 48) ∨ A = true then LStep.bad 10 else LStep.tok 2 n) = cond A (LStep.bad 10) (LStep.tok 2 n) by cases A <;> simp [h1]]
  clear h1
  rcases hbeh with ⟨rfl, hn⟩ | ⟨d, hd, hA⟩
  · have h4 : ¬ (n : Int) < (l.length : Int) := by omega
    show Calls _ _ _ _ fun e w' => FirstT (LStep.tok 2 n) e ∧ w = w'
    rcases hor with h2 | ⟨h2, h3⟩ <;>
    · go_enter Tryd.func51, Tryd.ntmps51
      go_wp2_with (go_at_call 45; refine (P1 _).mono ?_; rintro e w' ⟨rfl, rfl⟩)
      go_ret3
      exact ⟨rfl, rfl⟩
  · have hnl : n < l.length := (List.getElem?_eq_some_iff.1 hd).1
    have h4 : (n : Int) < (l.length : Int) := by omega
    have hb2 := tx_at hd (by rw [hsz]; exact hnl)
    have W1 := code_wordB d
    rw [hA] at W1
    clear hA hd
    cases A with
    | false =>
      show Calls _ _ _ _ fun e w' => FirstT (LStep.tok 2 n) e ∧ w = w'
      rcases hor with h2 | ⟨h2, h3⟩ <;>
      · go_enter Tryd.func51, Tryd.ntmps51
        go_wp2_with (first | (go_at_call 45; refine (P1 _).mono ?_; rintro e w' ⟨rfl, rfl⟩) | (go_at_call 54; refine (W1 _).mono ?_; rintro e w' ⟨rfl, rfl⟩))
        go_ret3
        exact ⟨rfl, rfl⟩
    | true =>
      show Calls _ _ _ _ fun e w' => FirstT (LStep.bad 10) e ∧ w = w'
      rcases hor with h2 | ⟨h2, h3⟩ <;>
      · go_enter Tryd.func51, Tryd.ntmps51
        go_wp2_with (first | (go_at_call 45; refine (P1 _).mono ?_; rintro e w' ⟨rfl, rfl⟩) | (go_at_call 54; refine (W1 _).mono ?_; rintro e w' ⟨rfl, rfl⟩))
        go_ret3
        exact ⟨rfl, rfl⟩

end Go.Proofs.YtlgfijjkbomejaaDoor

namespace Go.Proofs.YtlgfijjkbomejaaDoor
open Go.RowKit Go.Lib
set_option maxRecDepth 100000

def signs19 : List (List UInt8) := [[61, 61], [60, 61], [45, 62], [40], [41], [123], [125], [44], [59], [58], [46], [61], [60], [43], [45], [42], [47], [37], [33]]
def txData {H : Type} (zs : List (List UInt8)) : DataW H := .agg (zs.map fun z => .lit (.string z))
theorem tx_of {s : ByteArray} {z : List UInt8} (h : s.data.toList = z) : s = tx z := by
  subst h
  rfl
theorem cells_of_txs {H : Type} {enc : TypeId × Value → H} {P : Program} {w : World} {base : Nat} {sp : Nat → Bool} {held : Bool} {fuel : Nat} {t e : TypeId} {n : Nat} {cs : List Value} {zs : List (List UInt8)} {p : List MemPlace}
    (ht : P.underlying t = some (.array n e)) (he : P.underlying e = some .string) (hce : P.cellsOf e = 1) (hct : P.cellsOf t = n)
    (h : DataW.trod enc P w base sp held fuel t cs = some (txData zs, p)) : cs = zs.map fun z => Value.string (tx z) := by
  cases fuel with
  | zero => simp [DataW.trod] at h
  | succ fuel =>
    simp only [DataW.trod, ht, hce, hct, Nat.mul_one] at h
    split at h
    · rename_i hl
      obtain ⟨xs, hm, hx⟩ := Option.map_eq_some_iff.1 h
      have hxs : xs.map (·.1) = zs.map fun z => (DataW.lit (.string z) : DataW H) := by
        have := congrArg Prod.fst hx
        simpa [txData] using this
      have hxl : xs.length = n := by simpa using mapM_length hm
      have hzl : zs.length = n := by
        have := congrArg List.length hxs
        simp at this
        omega
      apply List.ext_getElem?
      intro i
      by_cases hi : i < n
      · obtain ⟨b, hb, hf⟩ := mapM_at hm i i (by simp [hi])
        obtain ⟨z, hc, rfl, _⟩ := DataW.trod_string he hf
        have h1 : cs[i]? = some (.string z) := by
          have := congrArg (·[0]?) hc
          simpa [List.getElem?_take, List.getElem?_drop] using this
        have h2 : (xs.map (·.1))[i]? = some (DataW.lit (.string z.data.toList) : DataW H) := by simp [hb]
        rw [hxs] at h2
        simp only [List.getElem?_map, Option.map_eq_some_iff, DataW.lit.injEq, Lit.string.injEq] at h2
        obtain ⟨z', hz', h3⟩ := h2
        rw [h1, List.getElem?_map, hz', Option.map_some, tx_of h3.symm]
      · rw [List.getElem?_eq_none (by omega), List.getElem?_eq_none (by simp; omega)]
    · cases h

/-- The signs lie as the program's text lays them. -/
def SgW (w : World) : Prop := w.var? Tryd.prog "aquifer/lex.signs" = some (signs19.map fun z => Value.string (tx z)).toArray
theorem SgW.later {w w' : World} (h : SgW w) (hg : Grow w w') : SgW w' := by
  unfold SgW World.var? at *
  generalize Tryd.prog.globalNamed "aquifer/lex.signs" = og at *
  cases og with
  | none => cases h
  | some g =>
    simp only [Option.bind_some] at h ⊢
    cases hx : w.heap[g]? with
    | none => rw [hx] at h; cases h
    | some o =>
      have hlt : g < w.heap.size := (Array.getElem?_eq_some_iff.1 hx).1
      rw [hg.block g hlt]
      exact h
theorem sgW_of_head {W : World} {rest : List (String × DataW Unit)} {g : Nat} {t e : TypeId} {n : Nat}
    (hg : Tryd.prog.globalNamed "aquifer/lex.signs" = some g) (hty : (Tryd.prog.globals[g]?).map (·.type) = some t) (ht : Tryd.prog.underlying t = some (.array n e)) (he : Tryd.prog.underlying e = some .string) (hce : Tryd.prog.cellsOf e = 1) (hct : Tryd.prog.cellsOf t = n)
    (h : laidMet Tryd.prog (("aquifer/lex.signs", txData signs19) :: rest) W) : SgW W := by
  obtain ⟨ps, ⟨g', t', cs, fuel, p, q, hg', ht', hvar, hd, _, _⟩, _⟩ := h
  obtain rfl := Option.some.inj (hg.symm.trans hg')
  obtain rfl := Option.some.inj (hty.symm.trans ht')
  unfold SgW
  rw [hvar, ← cells_of_txs ht he hce hct hd]

end Go.Proofs.YtlgfijjkbomejaaDoor
