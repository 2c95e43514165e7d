/- What is asked of the code's lexer; the document's example; lists of tokens compared. Numbers and types by name. -/
import Derived.Test.YtejaikpnfhhmnaaDoorLca
import Derived.Test.YtejaikpnfhhmnaaDoorCel
import Derived.Lib.LaidTab
import Derived.ChangeKeysEq
/- THE CODE's lexer: what stands between tokens, words, numbers. Numbers and types by name. -/
namespace Go.Proofs.YtejaikpnfhhmnaaDoor
open Go.RowKit Go.Lib
set_option maxRecDepth 100000

theorem ent_line (args : Array Value) (w : World) : (callFunc 91 args).run Tryd.prog w = .ok (.enter 91 args) w := by go_simp
theorem ent_space (args : Array Value) (w : World) : (callFunc 92 args).run Tryd.prog w = .ok (.enter 92 args) w := by go_simp
theorem ent_word (args : Array Value) (w : World) : (callFunc 100 args).run Tryd.prog w = .ok (.enter 100 args) w := by go_simp
theorem ent_digit (args : Array Value) (w : World) : (callFunc 95 args).run Tryd.prog w = .ok (.enter 95 args) w := by go_simp

theorem slice_tx0 {l : List UInt8} {j : Nat} {o : List UInt8} (h2 : j ≤ l.length) (ho : l.take j = o) {b : Int} (hb : b = j) (w : World) :
    Sem.run Tryd.prog (Instr.slice 9 (.string (tx l)) none (some (.int .i64 b)) none) w = .ok (.string (tx o)) w := by
  subst hb
  rw [run_slice_string_to_if w _ _ _ _ (by kernel_rfl), if_pos ⟨by omega, by rw [tx_size]; omega⟩, tx_cut]
  rw [Int.toNat_natCast, List.drop_zero, Nat.sub_zero, ho]
theorem slice_txF {l : List UInt8} {i : Nat} (h2 : i ≤ l.length) {a : Int} (ha : a = i) (w : World) :
    Sem.run Tryd.prog (Instr.slice 9 (.string (tx l)) (some (.int .i64 a)) none none) w = .ok (.string (tx (l.drop i))) w := by
  subst ha
  rw [run_slice_string_from_if w _ _ _ _ (by kernel_rfl), if_pos ⟨by omega, by rw [tx_size]; omega⟩, tx_cut]
  rw [Int.toNat_natCast, tx_size, List.take_of_length_le (by rw [List.length_drop]; omega)]

/-- How many bytes stand ahead of a token: a remark's, or blanks'. -/
def gapL : List UInt8 → Nat
  | [] => 0
  | c :: r => if c = 35 then runL (fun x => x != 10) (c :: r) else runL isSpc (c :: r)
theorem code_gap (c : UInt8) (r : List UInt8) (hm : (c :: r).length ≤ 9000) (w : World) :
    Calls Tryd.prog 83 #[.string (tx (c :: r))] w fun e w' => e = .returned (.int .i64 (gapL (c :: r) : Nat)) ∧ w = w' := by
  have g0 : (c :: r)[0]? = some c := rfl
  have P1 := code_span _ _ code_line ent_line (c :: r) hm
  have P2 := code_span _ _ code_space ent_space (c :: r) hm
  show Calls _ _ _ _ fun e w' => e = .returned (.int .i64 ((if c = 35 then runL (fun x => x != 10) (c :: r) else runL isSpc (c :: r) : Nat) : Int)) ∧ w = w'
  have h0 : (0 : Nat) < (c :: r).length := by simp
  generalize runL (fun x => x != 10) (c :: r) = n1 at *
  generalize runL isSpc (c :: r) = n2 at *
  generalize c :: r = l at *
  have hsz := tx_size l
  have hb := tx_at g0 (by rw [hsz]; exact h0)
  clear g0
  by_cases h35 : c = 35
  · rw [if_pos h35]
    subst h35
    go_enter Tryd.func83, Tryd.ntmps83
    go_wp2_with (go_at_call 90; refine (P1 _).mono ?_; rintro e w' ⟨rfl, rfl⟩)
    go_ret
    exact ⟨rfl, rfl⟩
  · rw [if_neg h35]
    have h36 : ((c.toNat : Int) == 35) = false := ne_int h35
    go_enter Tryd.func83, Tryd.ntmps83
    go_wp2_with (go_at_call 90; refine (P2 _).mono ?_; rintro e w' ⟨rfl, rfl⟩)
    go_ret
    exact ⟨rfl, rfl⟩

/-- What first tells of the token that stands there. -/
def FirstT (S : LStep) (e : Ending) : Prop :=
  match S with
  | .skip _ => False
  | .tok k n => e = .returned (.tuple #[.int .i64 k, .int .i64 (n : Nat), .int .i64 0])
  | .bad x => e = .returned (.tuple #[.int .i64 0, .int .i64 0, .int .i64 x])
theorem runL_cons {p : UInt8 → Bool} {c : UInt8} (h : p c = true) (r : List UInt8) : runL p (c :: r) = 1 + runL p r := by
  unfold runL
  rw [List.takeWhile_cons, if_pos h, List.length_cons, Nat.add_comm]
theorem let_wrd {c : UInt8} (h : isLet c = true) : isWrd c = true := by
  unfold isWrd
  rw [h]
  rfl
def wordS (c : UInt8) (r : List UInt8) : LStep := if 20 < 1 + runL isWrd r then .bad 9 else .tok (if keysL.contains ((c :: r).take (1 + runL isWrd r)) = true then 3 else 1) (1 + runL isWrd r)
theorem code_word (c : UInt8) (r : List UInt8) (h : isLet c = true) (hm : (c :: r).length ≤ 9000) (w : World) :
    Calls Tryd.prog 94 #[.string (tx (c :: r))] w fun e w' => FirstT (wordS c r) e ∧ w = w' := by
  have P1 := code_span _ _ code_wordB ent_word (c :: r) hm
  rw [runL_cons (let_wrd h)] at P1
  have hle := runL_le isWrd r
  have s1 := slice_tx0 (l := c :: r) (j := 1 + runL isWrd r) (o := (c :: r).take (1 + runL isWrd r)) (by simp; omega) rfl (b := ((1 + runL isWrd r : Nat) : Int)) rfl
  have hlen : 1 + runL isWrd r ≤ (c :: r).length := by simp; omega
  obtain ⟨B, hB⟩ : ∃ B, keysL.contains ((c :: r).take (1 + runL isWrd r)) = B := ⟨_, rfl⟩
  have K1 := code_keyB hB
  unfold wordS
  rw [hB]
  clear hB hle
  generalize 1 + runL isWrd r = n at *
  generalize (c :: r).take n = t at *
  generalize c :: r = l at *
  by_cases h20 : 20 < n
  · have h21 : (20 : Int) < (n : Int) := by omega
    rw [if_pos h20]
    go_enter Tryd.func94, Tryd.ntmps94
    go_wp2_with (go_at_call 90; refine (P1 _).mono ?_; rintro e w' ⟨rfl, rfl⟩)
    go_ret3
    exact ⟨rfl, rfl⟩
  · have h21 : ¬ (20 : Int) < (n : Int) := by omega
    rw [if_neg h20]
    cases B <;>
    · go_enter Tryd.func94, Tryd.ntmps94
      go_wp2_with (first | (go_at_call 90; refine (P1 _).mono ?_; rintro e w' ⟨rfl, rfl⟩) | (go_at_call 101; refine (K1 _).mono ?_; rintro e w' ⟨rfl, rfl⟩))
      go_ret3
      exact ⟨rfl, rfl⟩

def numS (c : UInt8) (r : List UInt8) : LStep :=
  if 9 < 1 + runL isDig r then .bad 9
  else if (1 < 1 + runL isDig r ∧ c = 48) ∨ afterL (r.drop (runL isDig r)) = true then .bad 10 else .tok 2 (1 + runL isDig r)
theorem code_number (c : UInt8) (r : List UInt8) (h : isDig c = true) (hm : (c :: r).length ≤ 9000) (w : World) :
    Calls Tryd.prog 96 #[.string (tx (c :: r))] w fun e w' => FirstT (numS c r) e ∧ w = w' := by
  have g0 : (c :: r)[0]? = some c := rfl
  have P1 := code_span _ _ code_digit ent_digit (c :: r) hm
  rw [runL_cons h] at P1
  have hle := runL_le isDig r
  have hlen : 1 + runL isDig r ≤ (c :: r).length := by simp; omega
  -- what stands behind the digits
  have hbeh : (afterL (r.drop (runL isDig r)) = false ∧ (c :: r).length = 1 + runL isDig r) ∨ ∃ d, (c :: r)[1 + runL isDig r]? = some d ∧ isWrd d = afterL (r.drop (runL isDig r)) := by
    rcases (runL_take isDig r).2 with h2 | ⟨d, l, h2, h3⟩
    · left
      rw [h2]
      refine ⟨rfl, ?_⟩
      have := congrArg List.length h2
      simp only [List.length_drop, List.length_nil] at this
      simp only [List.length_cons]
      omega
    · right
      refine ⟨d, ?_, ?_⟩
      · have : (r.drop (runL isDig r))[0]? = some d := by rw [h2]; rfl
        rw [List.getElem?_drop, Nat.add_zero] at this
        rw [Nat.add_comm, List.getElem?_cons_succ]
        exact this
      · rw [h2]
        show isWrd d = (isLet d || d == 95)
        unfold isWrd
        rw [h3, Bool.or_false]
  unfold numS
  generalize afterL (r.drop (runL isDig r)) = A at *
  clear hle
  generalize 1 + runL isDig r = n at *
  have h0 : (0 : Nat) < (c :: r).length := by simp
  generalize c :: r = l at *
  have hsz := tx_size l
  have hb := tx_at g0 (by rw [hsz]; exact h0)
  clear g0
  by_cases h9 : 9 < n
  · have h10 : (9 : Int) < (n : Int) := by omega
    rw [if_pos h9]
    clear hbeh
    go_enter Tryd.func96, Tryd.ntmps96
    go_wp2_with (go_at_call 90; refine (P1 _).mono ?_; rintro e w' ⟨rfl, rfl⟩)
    go_ret3
    exact ⟨rfl, rfl⟩
  have h10 : ¬ (9 : Int) < (n : Int) := by omega
  rw [if_neg h9]
  by_cases h1 : 1 < n ∧ c = 48
  · obtain ⟨h2, rfl⟩ := h1
    have h3 : (1 : Int) < (n : Int) := by omega
    rw [if_pos (.inl ⟨h2, rfl⟩)]
    clear hbeh
    go_enter Tryd.func96, Tryd.ntmps96
    go_wp2_with (go_at_call 90; refine (P1 _).mono ?_; rintro e w' ⟨rfl, rfl⟩)
    go_ret3
    exact ⟨rfl, rfl⟩
  have hor : (¬ (1 : Int) < (n : Int)) ∨ ((1 : Int) < (n : Int) ∧ ((c.toNat : Int) == 48) = false) := by
    by_cases h2 : 1 < n
    · exact .inr ⟨by omega, ne_int fun h3 => h1 ⟨h2, h3⟩⟩
    · exact .inl (by omega)
  rw [show (if (1 < n ∧ c = 48) ∨ A = true then LStep.bad 10 else LStep.tok 2 n) = cond A (LStep.bad 10) (LStep.tok 2 n) by cases A <;> simp [h1]]
  clear h1
  rcases hbeh with ⟨rfl, hn⟩ | ⟨d, hd, hA⟩
  · have h4 : ¬ (n : Int) < (l.length : Int) := by omega
    show Calls _ _ _ _ fun e w' => FirstT (LStep.tok 2 n) e ∧ w = w'
    rcases hor with h2 | ⟨h2, h3⟩ <;>
    · go_enter Tryd.func96, Tryd.ntmps96
      go_wp2_with (go_at_call 90; refine (P1 _).mono ?_; rintro e w' ⟨rfl, rfl⟩)
      go_ret3
      exact ⟨rfl, rfl⟩
  · have hnl : n < l.length := (List.getElem?_eq_some_iff.1 hd).1
    have h4 : (n : Int) < (l.length : Int) := by omega
    have hb2 := tx_at hd (by rw [hsz]; exact hnl)
    have W1 := code_wordB d
    rw [hA] at W1
    clear hA hd
    cases A with
    | false =>
      show Calls _ _ _ _ fun e w' => FirstT (LStep.tok 2 n) e ∧ w = w'
      rcases hor with h2 | ⟨h2, h3⟩ <;>
      · go_enter Tryd.func96, Tryd.ntmps96
        go_wp2_with (first | (go_at_call 90; refine (P1 _).mono ?_; rintro e w' ⟨rfl, rfl⟩) | (go_at_call 100; refine (W1 _).mono ?_; rintro e w' ⟨rfl, rfl⟩))
        go_ret3
        exact ⟨rfl, rfl⟩
    | true =>
      show Calls _ _ _ _ fun e w' => FirstT (LStep.bad 10) e ∧ w = w'
      rcases hor with h2 | ⟨h2, h3⟩ <;>
      · go_enter Tryd.func96, Tryd.ntmps96
        go_wp2_with (first | (go_at_call 90; refine (P1 _).mono ?_; rintro e w' ⟨rfl, rfl⟩) | (go_at_call 100; refine (W1 _).mono ?_; rintro e w' ⟨rfl, rfl⟩))
        go_ret3
        exact ⟨rfl, rfl⟩

end Go.Proofs.YtejaikpnfhhmnaaDoor

/- The table of signs, as the program's text lays it. Numbers and types by name. -/
namespace Go.Proofs.YtejaikpnfhhmnaaDoor
open Go.RowKit Go.Lib
set_option maxRecDepth 100000

def signs19 : List (List UInt8) := [[61, 61], [60, 61], [45, 62], [40], [41], [123], [125], [44], [59], [58], [46], [61], [60], [43], [45], [42], [47], [37], [33]]
def txData {H : Type} (zs : List (List UInt8)) : DataW H := .agg (zs.map fun z => .lit (.string z))
theorem tx_of {s : ByteArray} {z : List UInt8} (h : s.data.toList = z) : s = tx z := by
  subst h
  rfl
theorem cells_of_txs {H : Type} {enc : TypeId × Value → H} {P : Program} {w : World} {base : Nat} {sp : Nat → Bool} {held : Bool} {fuel : Nat} {t e : TypeId} {n : Nat} {cs : List Value} {zs : List (List UInt8)} {p : List MemPlace}
    (ht : P.underlying t = some (.array n e)) (he : P.underlying e = some .string) (hce : P.cellsOf e = 1) (hct : P.cellsOf t = n)
    (h : DataW.trod enc P w base sp held fuel t cs = some (txData zs, p)) : cs = zs.map fun z => Value.string (tx z) := by
  cases fuel with
  | zero => simp [DataW.trod] at h
  | succ fuel =>
    simp only [DataW.trod, ht, hce, hct, Nat.mul_one] at h
    split at h
    · rename_i hl
      obtain ⟨xs, hm, hx⟩ := Option.map_eq_some_iff.1 h
      have hxs : xs.map (·.1) = zs.map fun z => (DataW.lit (.string z) : DataW H) := by
        have := congrArg Prod.fst hx
        simpa [txData] using this
      have hxl : xs.length = n := by simpa using mapM_length hm
      have hzl : zs.length = n := by
        have := congrArg List.length hxs
        simp at this
        omega
      apply List.ext_getElem?
      intro i
      by_cases hi : i < n
      · obtain ⟨b, hb, hf⟩ := mapM_at hm i i (by simp [hi])
        obtain ⟨z, hc, rfl, _⟩ := DataW.trod_string he hf
        have h1 : cs[i]? = some (.string z) := by
          have := congrArg (·[0]?) hc
          simpa [List.getElem?_take, List.getElem?_drop] using this
        have h2 : (xs.map (·.1))[i]? = some (DataW.lit (.string z.data.toList) : DataW H) := by simp [hb]
        rw [hxs] at h2
        simp only [List.getElem?_map, Option.map_eq_some_iff, DataW.lit.injEq, Lit.string.injEq] at h2
        obtain ⟨z', hz', h3⟩ := h2
        rw [h1, List.getElem?_map, hz', Option.map_some, tx_of h3.symm]
      · rw [List.getElem?_eq_none (by omega), List.getElem?_eq_none (by simp; omega)]
    · cases h

/-- The signs lie as the program's text lays them. -/
def SgW (w : World) : Prop := w.var? Tryd.prog "aquifer/lex.signs" = some (signs19.map fun z => Value.string (tx z)).toArray
theorem SgW.later {w w' : World} (h : SgW w) (hg : Grow w w') : SgW w' := by
  unfold SgW World.var? at *
  generalize Tryd.prog.globalNamed "aquifer/lex.signs" = og at *
  cases og with
  | none => cases h
  | some g =>
    simp only [Option.bind_some] at h ⊢
    cases hx : w.heap[g]? with
    | none => rw [hx] at h; cases h
    | some o =>
      have hlt : g < w.heap.size := (Array.getElem?_eq_some_iff.1 hx).1
      rw [hg.block g hlt]
      exact h
theorem sgW_of_head {W : World} {rest : List (String × DataW Unit)} {g : Nat} {t e : TypeId} {n : Nat}
    (hg : Tryd.prog.globalNamed "aquifer/lex.signs" = some g) (hty : (Tryd.prog.globals[g]?).map (·.type) = some t) (ht : Tryd.prog.underlying t = some (.array n e)) (he : Tryd.prog.underlying e = some .string) (hce : Tryd.prog.cellsOf e = 1) (hct : Tryd.prog.cellsOf t = n)
    (h : laidMet Tryd.prog (("aquifer/lex.signs", txData signs19) :: rest) W) : SgW W := by
  obtain ⟨ps, ⟨g', t', cs, fuel, p, q, hg', ht', hvar, hd, _, _⟩, _⟩ := h
  obtain rfl := Option.some.inj (hg.symm.trans hg')
  obtain rfl := Option.some.inj (hty.symm.trans ht')
  unfold SgW
  rw [hvar, ← cells_of_txs ht he hce hct hd]

end Go.Proofs.YtejaikpnfhhmnaaDoor

/- THE CODE's lexer: signs, and what stands first. Numbers and types by name. -/
namespace Go.Proofs.YtejaikpnfhhmnaaDoor
open Go.RowKit Go.Lib
set_option maxRecDepth 100000

/-- Does the one text begin the other? -/
def begL (t l : List UInt8) : Bool := l.take t.length == t
theorem code_prefix0 (l t : List UInt8) (hm : l.length ≤ 9000) (ht : t.length ≤ 9000) (w : World) :
    Calls Tryd.prog 103 #[.string (tx l), .string (tx t)] w fun e w' => e = .returned (.bool (begL t l)) ∧ w = w' := by
  have hz1 := tx_size l
  have hz2 := tx_size t
  unfold begL
  by_cases h : t.length ≤ l.length
  · have h1 : (t.length : Int) ≤ (l.length : Int) := by omega
    have s1 := slice_tx0 (l := l) (j := t.length) (o := l.take t.length) h rfl (b := (t.length : Int)) rfl
    have q1 := tx_list (l.take t.length)
    have q2 := tx_list t
    obtain ⟨B, hB⟩ : ∃ B, (l.take t.length == t) = B := ⟨_, rfl⟩
    rw [hB]
    generalize l.take t.length = o at *
    have hBp : (o = t) = (B = true) := by rw [← hB]; simp
    cases B with
    | true =>
      obtain rfl : o = t := eq_of_beq hB
      clear hBp
      go_enter Tryd.func103, Tryd.ntmps103
      go_wp2_with fail
      go_ret
      exact ⟨by first | rfl | simp, rfl⟩
    | false =>
      have hne : ¬ o = t := by rw [hBp]; simp
      go_enter Tryd.func103, Tryd.ntmps103
      go_wp2_with fail
      go_ret
      exact ⟨by first | rfl | simp_all, rfl⟩
  · have h1 : ¬ (t.length : Int) ≤ (l.length : Int) := by omega
    have hB : (l.take t.length == t) = false := by
      rw [beq_eq_false_iff_ne]
      intro hh
      have := congrArg List.length hh
      rw [List.length_take] at this
      omega
    rw [hB]
    go_enter Tryd.func103, Tryd.ntmps103
    go_wp2_with fail
    go_ret
    exact ⟨rfl, rfl⟩
theorem code_prefix (l t : List UInt8) (B : Bool) (hB : begL t l = B) (hm : l.length ≤ 9000) (ht : t.length ≤ 9000) (w : World) :
    Calls Tryd.prog 102 #[.string (tx l), .string (tx t)] w fun e w' => e = .returned (.bool B) ∧ w = w' := by
  have P := code_prefix0 l t hm ht
  rw [hB] at P
  go_enter Tryd.func102, Tryd.ntmps102
  go_wp2_with (go_at_call 103; refine (P _).mono ?_; rintro e w' ⟨rfl, rfl⟩)
  go_ret
  exact ⟨rfl, rfl⟩

/-- The first sign of the list that a text begins with is the one that stands there. -/
theorem sign_first (c : UInt8) (r : List UInt8) : signL (c :: r) = match signs19.find? (fun t => begL t (c :: r)) with | some t => t.length | none => 0 := by
  have e1 : ∀ d : UInt8, begL [d] (c :: r) = (c == d) := fun d => by
    unfold begL
    simp [List.cons_beq_cons]
  cases r with
  | nil =>
    have e2 : ∀ d f : UInt8, begL [d, f] [c] = false := fun d f => by
      unfold begL
      simp [List.cons_beq_cons]
    show (if oneL c = true then 1 else 0) = _
    unfold signs19 oneL
    simp only [List.find?, e1, e2]
    cases c == 40 <;> cases c == 41 <;> cases c == 123 <;> cases c == 125 <;> cases c == 44 <;> cases c == 59 <;> cases c == 58 <;> cases c == 46 <;> try rfl
    all_goals (cases c == 61 <;> cases c == 60 <;> cases c == 43 <;> cases c == 45 <;> cases c == 42 <;> cases c == 47 <;> cases c == 37 <;> cases c == 33 <;> rfl)
  | cons d r =>
    have e2 : ∀ f g : UInt8, begL [f, g] (c :: d :: r) = (c == f && d == g) := fun f g => by
      unfold begL
      simp [List.cons_beq_cons]
    show (if twoL c d = true then 2 else if oneL c = true then 1 else 0) = _
    unfold signs19 twoL oneL
    simp only [List.find?, e1, e2]
    cases (c == 61 && d == 61) <;> cases (c == 60 && d == 61) <;> cases (c == 45 && d == 62) <;> try rfl
    cases c == 40 <;> cases c == 41 <;> cases c == 123 <;> cases c == 125 <;> cases c == 44 <;> cases c == 59 <;> cases c == 58 <;> cases c == 46 <;> try rfl
    all_goals (cases c == 61 <;> cases c == 60 <;> cases c == 43 <;> cases c == 45 <;> cases c == 42 <;> cases c == 47 <;> cases c == 37 <;> cases c == 33 <;> rfl)
theorem find_at {α : Type} {p : α → Bool} : ∀ {l : List α} {k : Nat} {x : α}, l[k]? = some x → p x = true → (∀ (j : Nat) y, j < k → l[j]? = some y → p y = false) → l.find? p = some x
  | [], _, _, h, _, _ => by simp at h
  | y :: l, 0, x, h, hp, _ => by
    simp only [List.getElem?_cons_zero, Option.some.injEq] at h
    subst h
    rw [List.find?_cons, hp]
  | y :: l, k + 1, x, h, hp, hn => by
    rw [List.find?_cons, hn 0 y (by omega) rfl]
    rw [List.getElem?_cons_succ] at h
    exact find_at h hp fun j z hj hz => hn (j + 1) z (by omega) (by rw [List.getElem?_cons_succ]; exact hz)
theorem find_no {α : Type} {p : α → Bool} {l : List α} (h : ∀ (j : Nat) y, l[j]? = some y → p y = false) : l.find? p = none := by
  rw [List.find?_eq_none]
  intro x hx
  obtain ⟨j, hj⟩ := List.getElem?_of_mem hx
  rw [h j x hj]
  simp

def signS (l : List UInt8) : LStep := if signL l = 0 then .bad 10 else .tok 4 (signL l)
theorem signs_row {w : World} (h : SgW w) : ∃ (cs : Array Value) (t : TypeId) (fr : Nat × Nat), w.heap[0]? = some (.cells cs t fr) ∧ cs.size = 19 ∧ ∀ (j : Nat) t, signs19[j]? = some t → cs[j]? = some (Value.string (tx t)) := by
  unfold SgW World.var? at h
  rw [show Tryd.prog.globalNamed "aquifer/lex.signs" = some 0 by kernel_rfl] at h
  simp only [Option.bind_some] at h
  cases hx : w.heap[0]? with
  | none => rw [hx] at h; cases h
  | some o =>
    rw [hx] at h
    cases o with
    | cells cs t fr =>
      have hcs : cs = (signs19.map fun z => Value.string (tx z)).toArray := by simpa using h
      refine ⟨cs, t, fr, rfl, by rw [hcs]; rfl, fun j t hj => ?_⟩
      clear h
      rw [hcs]
      have e : ((signs19.map fun z => Value.string (tx z)).toArray)[j]? = (signs19.map fun z => Value.string (tx z))[j]? := by simp
      rw [e, List.getElem?_map, hj]
      rfl
    | _ => simp at h
theorem sign_index (cs : Array Value) (k : Nat) (t : List UInt8) (hc : cs[k]? = some (.string (tx t))) (hk : k < 19) (w : World) :
    Sem.run Tryd.prog (Instr.index 123 (.agg cs) (.int .i64 (k : Int))) w = .ok (.string (tx t)) w := by
  have h1 : (0 : Int) ≤ (k : Int) ∧ (k : Int) < 19 := by omega
  have h2 : (part 9 cs k).run Tryd.prog w = .ok (.string (tx t)) w := run_part_plain w (by kernel_rfl) hc
  have h3 : (sizeOf 9).run Tryd.prog w = .ok 1 w := by go_simp
  simp [Instr.index, asIntOf, run_underlying Tryd.underlying123, h1, h2, h3, Sem.run_bind]
  omega
theorem code_sign (c : UInt8) (r : List UInt8) (hm : (c :: r).length ≤ 9000) (w : World) (ht : SgW w) :
    Calls Tryd.prog 97 #[.string (tx (c :: r))] w fun e w' => FirstT (signS (c :: r)) e ∧ w = w' := by
  obtain ⟨cs, t0, fr0, hx, hcs, hcv⟩ := signs_row ht
  have HV := Lib.hid hcv
  have HS := Lib.hid (sign_first c r)
  have HL := Lib.hid hm
  clear ht hcv hm
  generalize c :: r = l at *
  go_enter Tryd.func97, Tryd.ntmps97
  have hcs2 : (Tryd.prog.info? 123).map (·.size) = some cs.size := by rw [hcs]; kernel_rfl
  go_wp2_with (refine wpList_load_row rfl 123 (.global 0) rfl 0 rfl t0 cs fr0 _ hx Tryd.underlying123 rfl hcs2 ?_)
  clear hx hcs2
  go_loopw [8] (fun i wr => ∃ k : Nat, k ≤ 19 ∧ i = .int .i64 k ∧ Hid (∀ j y, j < k → signs19[j]? = some y → begL y l = false) ∧ w = wr)
    (fun i _ => 19 - (RowKit.intOf i).toNat)
  case atStart => exact ⟨0, Nat.zero_le _, rfl, Lib.hid (fun j y hj => absurd hj (Nat.not_lt_zero _)), rfl⟩
  case round =>
    obtain ⟨k, hk, rfl, hs, rfl⟩ := hrel
    by_cases hlt : k < 19
    · have h3 : (k : Int) < 19 := by omega
      obtain ⟨t, ht⟩ : ∃ t, signs19[k]? = some t := ⟨_, List.getElem?_eq_getElem (by show k < 19; exact hlt)⟩
      have hc := sign_index cs k t (HV.out k t ht) hlt
      have hwr : wrap64 ((k : Int) + 1) = (k : Int) + 1 := wrap64_id _ (by omega)
      obtain ⟨b, hb⟩ : ∃ b, begL t l = b := ⟨_, rfl⟩
      have htl : t.length ≤ 2 ∧ t.length ≠ 0 := by
        have := List.mem_of_getElem? ht
        revert this
        exact fun h => (by decide : ∀ t ∈ signs19, t.length ≤ 2 ∧ t.length ≠ 0) t h
      have P1 := code_prefix l t b hb HL.out (by omega)
      have hz := tx_size t
      have HT := Lib.hid (And.intro ht (And.intro hb htl))
      clear ht hb htl
      cases b with
      | true =>
        go_wp2_with (go_at_call 102; refine (P1 _).mono ?_; rintro e w' ⟨rfl, rfl⟩)
        go_ret3
        refine ⟨?_, rfl⟩
        have e := find_at (p := fun t => begL t l) HT.out.1 HT.out.2.1 hs.out
        have e2 := HS.out
        rw [e] at e2
        simp only at e2
        unfold signS
        rw [e2, if_neg HT.out.2.2.2]
        rfl
      | false =>
        go_wp2_with (go_at_call 102; refine (P1 _).mono ?_; rintro e w' ⟨rfl, rfl⟩)
        refine ⟨⟨k + 1, by omega, by go_num, Lib.hid fun j y hj hy => ?_, by first | rfl | trivial⟩, by simp [RowKit.intOf]; omega⟩
        rcases Nat.lt_or_ge j k with h | h
        · exact hs.out j y h hy
        · obtain rfl : j = k := by omega
          rw [HT.out.1] at hy
          cases hy
          exact HT.out.2.1
    · have h3 : ¬ (k : Int) < 19 := by omega
      obtain rfl : k = 19 := by omega
      go_wp2_with fail
      go_ret3
      refine ⟨?_, rfl⟩
      have e := find_no (p := fun t => begL t l) (l := signs19) fun j y hy => hs.out j y (List.getElem?_eq_some_iff.1 hy).1 hy
      have e2 := HS.out
      rw [e] at e2
      unfold signS
      rw [e2]
      rfl

/-- What stands first, where no blank and no remark does. -/
theorem code_first (c : UInt8) (r : List UInt8) (h1 : isSpc c = false) (h2 : c ≠ 35) (hm : (c :: r).length ≤ 9000) (w : World) (ht : SgW w) :
    Calls Tryd.prog 84 #[.string (tx (c :: r))] w fun e w' => FirstT (stepL (c :: r)) e ∧ w = w' := by
  have g0 : (c :: r)[0]? = some c := rfl
  have h0 : (0 : Nat) < (c :: r).length := by simp
  have L1 := code_letter c
  have D1 := code_digit c
  have e : stepL (c :: r) = if isLet c = true then wordS c r else if isDig c = true then numS c r else signS (c :: r) := by
    show stepC c r = _
    unfold stepC
    rw [h1, if_neg (by simp), if_neg h2]
    rfl
  rw [e]
  have hw := fun h => code_word c r h hm
  have hn := fun h => code_number c r h hm
  have hs := code_sign c r hm w ht
  clear e h1 h2 ht
  generalize wordS c r = S1 at *
  generalize numS c r = S2 at *
  generalize signS (c :: r) = S3 at *
  generalize isLet c = B1 at *
  generalize isDig c = B2 at *
  have hF : ∀ S e, FirstT S e → ∃ a b d, e = .returned (.tuple #[.int .i64 a, .int .i64 b, .int .i64 d]) := fun S e h => by
    cases S with
    | skip n => exact h.elim
    | tok k n => exact ⟨_, _, _, h⟩
    | bad x => exact ⟨_, _, _, h⟩
  have HF := Lib.hid hF
  clear hF
  generalize c :: r = l at *
  have hsz := tx_size l
  have hb := tx_at g0 (by rw [hsz]; exact h0)
  clear g0
  cases B1 with
  | true =>
    have P1 := hw rfl
    rw [if_pos rfl]
    clear hw hn hs
    go_enter Tryd.func84, Tryd.ntmps84
    go_wp2_with (first | (go_at_call 93; refine (L1 _).mono ?_; rintro e w' ⟨rfl, rfl⟩) | (go_at_call 94; refine (P1 _).mono ?_; rintro e w' ⟨hx, rfl⟩; obtain ⟨a, b, d, rfl⟩ := HF.out _ _ hx; have HX := Lib.hid hx; clear hx))
    go_ret3
    exact ⟨HX.out, rfl⟩
  | false =>
    rw [if_neg (by simp)]
    cases B2 with
    | true =>
      have P1 := hn rfl
      rw [if_pos rfl]
      clear hw hn hs
      go_enter Tryd.func84, Tryd.ntmps84
      go_wp2_with (first | (go_at_call 93; refine (L1 _).mono ?_; rintro e w' ⟨rfl, rfl⟩) | (go_at_call 95; refine (D1 _).mono ?_; rintro e w' ⟨rfl, rfl⟩) | (go_at_call 96; refine (P1 _).mono ?_; rintro e w' ⟨hx, rfl⟩; obtain ⟨a, b, d, rfl⟩ := HF.out _ _ hx; have HX := Lib.hid hx; clear hx))
      go_ret3
      exact ⟨HX.out, rfl⟩
    | false =>
      rw [if_neg (by simp)]
      clear hw hn
      go_enter Tryd.func84, Tryd.ntmps84
      go_wp2_with (first | (go_at_call 93; refine (L1 _).mono ?_; rintro e w' ⟨rfl, rfl⟩) | (go_at_call 95; refine (D1 _).mono ?_; rintro e w' ⟨rfl, rfl⟩) | (go_at_call 97; refine hs.mono ?_; rintro e w' ⟨hx, rfl⟩; obtain ⟨a, b, d, rfl⟩ := HF.out _ _ hx; have HX := Lib.hid hx; clear hx))
      go_ret3
      exact ⟨HX.out, rfl⟩

end Go.Proofs.YtejaikpnfhhmnaaDoor

namespace Go.Proofs.YtejaikpnfhhmnaaDoor
open Go.RowKit Go.Lib
set_option maxRecDepth 100000

/-- What is asked of the code's lexer. -/
structure LexK : Prop where
  lex : ∀ (l : List UInt8) (w : World), SgW w → Calls Tryd.prog 68 #[.string (tx l)] w (LexTold w (lexP l))

theorem lnum_at (k : Int) (w : World) : Calls Tryd.prog 15 #[.int .i64 k] w fun e w' => e = .returned (.int .i64 k) ∧ w = w' := by
  go_enter Tryd.func15, Tryd.ntmps15
  go_wp2_with fail
  go_ret
  exact ⟨rfl, rfl⟩

theorem lex_ex : lexP [120, 61, 49, 59] = ⟨[⟨1, [120], 0⟩, ⟨4, [61], 1⟩, ⟨2, [49], 2⟩, ⟨4, [59], 3⟩, ⟨0, [], 4⟩], 0, 0⟩ := by decide
/-- What same tells. -/
def SameT (ps qs : List Tk) (w : World) (e : Ending) (w' : World) : Prop := ∃ k, e = .returned (.bool (decide (ps = qs))) ∧ w' = w.drewN k
end Go.Proofs.YtejaikpnfhhmnaaDoor
