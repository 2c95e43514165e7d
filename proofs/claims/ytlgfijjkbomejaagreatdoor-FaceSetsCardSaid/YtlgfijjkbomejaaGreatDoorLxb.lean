/- The reference's lexer: blanks, remarks. Numbers and types by name. -/
import Derived.Test.YtlgfijjkbomejaaGreatDoorQpr
import Derived.Test.YtlgfijjkbomejaaGreatDoorPam
import Derived.Deep.Cut
import Derived.Deep.CutBlock
import Derived.Deep.CutRange
/- The code's line and labels. Made by wip/tools/genclab.py. Numbers and types by name. -/
namespace Go.Proofs.YtlgfijjkbomejaaGreatDoor
open Go.RowKit Go.Lib
set_option maxRecDepth 100000

/-- One line of labels. -/
def lineT (L : List Tk) (s : PS) : List Par × PS :=
  let r := lessLoop L (L.length + 1) (nameT L s).2 (nameT L s).1 (if isT L (nameT L s).2 [60] = true then [] else [⟨(nameT L s).1, [], (curT L s).pos⟩])
  (r.1, wantT L r.2 [59])
theorem less_acc {L : List Tk} : ∀ (n : Nat) (s : PS) (a : List UInt8) (acc : List Par), lessLoop L n s a acc = (acc ++ (lessLoop L n s a []).1, (lessLoop L n s a []).2)
  | 0, s, a, acc => by unfold lessLoop; simp
  | n + 1, s, a, acc => by
    unfold lessLoop
    split
    · simp only
      rw [less_acc n _ _ (acc ++ _), less_acc n _ _ ([] ++ _)]
      simp
    · simp
theorem less_goes {L : List Tk} (hL : TokL L) : ∀ (n : Nat) (s : PS) (a : List UInt8) (acc : List Par), Goes L s (lessLoop L n s a acc).2
  | 0, s, a, acc => Goes.refl L s
  | n + 1, s, a, acc => by
    unfold lessLoop
    split
    · rename_i h
      exact (is_goes hL h).trans ((name_goes hL _).trans (less_goes hL n _ _ _))
    · exact Goes.refl L s
theorem line_goes {L : List Tk} (hL : TokL L) (s : PS) : Goes L s (lineT L s).2 := (name_goes hL s).trans ((less_goes hL _ _ _ _).trans (want_goes hL _ _))
theorem lineLoop_step {L : List Tk} {n : Nat} {s : PS} {acc : List Par} {R : List Par × PS} (he : s.e = 0) (hk : (curT L s).kind ≠ 0) (h : lineLoop L (n + 1) s acc = R) : lineLoop L n (lineT L s).2 (acc ++ (lineT L s).1) = R := by
  unfold lineLoop at h
  rw [if_neg (by simp [he, hk])] at h
  simp only at h
  rw [less_acc] at h
  unfold lineT
  simp only
  by_cases h6 : isT L (nameT L s).2 [60] = true
  · rw [if_pos h6] at h ⊢
    rw [← h]
  · rw [if_neg h6] at h ⊢
    rw [less_acc _ _ _ [_]]
    rw [← h]
    simp
theorem lineLoop_stop {L : List Tk} {n : Nat} {s : PS} {acc : List Par} {R : List Par × PS} (hk : s.e ≠ 0 ∨ (curT L s).kind = 0) (h : lineLoop L n s acc = R) : R = (acc, s) := by
  cases n with
  | zero => exact h.symm
  | succ n =>
    unfold lineLoop at h
    rw [if_pos hk] at h
    exact h.symm
theorem ro_apart {wr : World} {base el size : Nat} {v : Value} {m : Nat} {cs : List Value} {T : Nat} {xs : Array Value} {t : TypeId} (h : wr.ownsRow base el size v m cs) (z : wr.heap[T]? = some (.cells xs t)) (hne : el ≠ t) : v.ownBlock ≠ some T := by
  rcases h.2 with ⟨rfl, rfl⟩ | ⟨g, cap, cur, rfl, _, hg, _⟩
  · simp [Value.ownBlock]
  · intro e
    simp only [Value.ownBlock, Option.some.injEq] at e
    subst e
    rw [z] at hg
    cases hg
    exact hne rfl
abbrev ParR : World → (Nat → Prop) → Par → List Value → Prop := fun _ _ p c => c = parV p
theorem monoPar : Mono ParR := fun _ _ _ _ _ h => h
/-- Of the last names of a line: what is left makes the whole. -/
def LessG (L : List Tk) (q : Nat) (s : PS) (a : List UInt8) (acc : List Par) (R : List Par × PS) : Prop := (lessLoop L q s a acc).1 = R.1 ∧ wantT L (lessLoop L q s a acc).2 [59] = R.2
theorem LessG.stop {L : List Tk} {q : Nat} {s : PS} {a : List UInt8} {acc : List Par} {R : List Par × PS} (hB : isT L s [60] = false) (h : LessG L q s a acc R) : R = (acc, wantT L s [59]) := by
  have e : lessLoop L q s a acc = (acc, s) := by
    cases q with
    | zero => rfl
    | succ q =>
      unfold lessLoop
      rw [hB, if_neg (by simp)]
  unfold LessG at h
  rw [e] at h
  exact Prod.ext h.1.symm h.2.symm
theorem LessG.more {L : List Tk} {q : Nat} {s : PS} {a : List UInt8} {acc : List Par} {R : List Par × PS} (hB : isT L s [60] = true) (h : LessG L (q + 1) s a acc R) : LessG L q (nameT L s.go).2 (nameT L s.go).1 (acc ++ [⟨a, (nameT L s.go).1, (curT L s.go).pos⟩]) R := by
  unfold LessG at h
  unfold lessLoop at h
  rw [if_pos hB] at h
  exact h
theorem LessG.fell {L : List Tk} {q : Nat} {s : PS} {a : List UInt8} {acc : List Par} {R : List Par × PS} (he : s.e ≠ 0) (h : LessG L q s a acc R) : R.2 = s := by
  rw [h.stop (isT_err he _)]
  exact want_err he _

/-- What an append leaves of a block of another type. -/
theorem grown_keeps {wr w7 : World} {base el size : Nat} {v : Value} {m : Nat} {cs : List Value} {T : Nat} {xs : Array Value} {t : TypeId} {o : Obj} (h : wr.ownsRow base el size v m cs) (hg : (wr.alloc o).grownBy w7 v.ownBlock) (z : wr.heap[T]? = some (.cells xs t)) (hne : el ≠ t) : w7.heap[T]? = some (.cells xs t) := by
  have hT := (Array.getElem?_eq_some_iff.1 z).1
  have c7' : Chg (rowF v) wr w7 := ((Chg.refl (rowF v) wr).alloc o).trans' (Chg.of_grown (F := rowF v) hg (fun k hk => rowF_mem.2 hk)) fun x hx => .inl hx
  exact (c7'.block T hT (fun hx => ro_apart h z hne (rowF_mem.1 hx))).trans z
theorem RoAt.set {α : Type} {w0 w wr : World} {b : Nat} {L : List Tk} {el : TypeId} {size : Nat} {R : α → List Value → Prop} {v : Value} {m : Nat} {s : PS} {acc : List α} {T : Nat} (H : RoAt w0 w wr b L el size (fun _ _ => R) v m s acc) (hb : b < T) (hn : w.heap.size ≤ T) (hv : v.ownBlock ≠ some T) (j : Nat) (x : Value) : RoAt w0 w (wr.setCell ⟨T, j, none⟩ x) b L el size (fun _ _ => R) v m s acc := by
  have hc : Chg [T] wr (wr.setCell ⟨T, j, none⟩ x) := (Chg.refl [T] wr).set (.inl (by simp)) j x
  obtain ⟨cs, h1, h2⟩ := H.o
  exact ⟨H.st.set hb hn j x, ⟨cs, owns_chg h1 hc (fun k hk hm => by rw [List.mem_singleton] at hm; subst hm; exact hv hk), h2⟩, H.em, H.bw⟩

theorem less_pot {L : List Tk} (hL : TokL L) : ∀ (n : Nat) (s : PS) (a : List UInt8) (acc : List Par), s.i < L.length → (lessLoop L n s a acc).1.length + remT L (lessLoop L n s a acc).2 ≤ acc.length + remT L s
  | 0, s, a, acc, _ => Nat.le_refl _
  | n + 1, s, a, acc, hi => by
    unfold lessLoop
    split
    · rename_i h
      have h1 := isT_more hL h hi
      have h2 := rem_go (L := L) (isT_e h).1 hi
      have h3 := (name_goes hL s.go).rem
      have h4 := less_pot hL n (nameT L s.go).2 (nameT L s.go).1 (acc ++ [⟨a, (nameT L s.go).1, (curT L s.go).pos⟩]) ((name_goes hL s.go).lt h1)
      rw [List.length_append] at h4
      simp only [List.length_singleton] at h4
      simp only
      omega
    · exact Nat.le_refl _
theorem line_pot {L : List Tk} (hL : TokL L) (s : PS) (he : s.e = 0) (hi : s.i < L.length) : (lineT L s).1.length + remT L (lineT L s).2 ≤ remT L s := by
  unfold lineT
  simp only
  have h1 := rem_name (L := L) he hi
  have h2 := less_pot hL (L.length + 1) (nameT L s).2 (nameT L s).1 (if isT L (nameT L s).2 [60] = true then [] else [⟨(nameT L s).1, [], (curT L s).pos⟩]) ((name_goes hL s).lt hi)
  have h3 := (want_goes hL (lessLoop L (L.length + 1) (nameT L s).2 (nameT L s).1 (if isT L (nameT L s).2 [60] = true then [] else [⟨(nameT L s).1, [], (curT L s).pos⟩])).2 [59]).rem
  have h4 : (if isT L (nameT L s).2 [60] = true then ([] : List Par) else [⟨(nameT L s).1, [], (curT L s).pos⟩]).length ≤ 1 := by split <;> simp
  omega
theorem Parts.append {α : Type} {size : Nat} {R : α → List Value → Prop} : ∀ {l k : List α} {cs ds : List Value}, Parts size R l cs → Parts size R k ds → Parts size R (l ++ k) (cs ++ ds)
  | [], _, cs, _, h, h2 => by
    change cs = [] at h
    subst h
    exact h2
  | a :: l, _, cs, _, ⟨c, d, e, h1, h2, h3⟩, hk => ⟨c, d ++ _, by rw [e, List.append_assoc], h1, h2, Parts.append h3 hk⟩
theorem RoAt.append {α : Type} {w0 w wr w5 w7 : World} {b : Nat} {L : List Tk} {el : TypeId} {size : Nat} {R : α → List Value → Prop} {v : Value} {m p : Nat} {s s5 : PS} {acc l2 : List α} {ao7 : Option Addr} {c7 : Nat} {cs cn : List Value} (H : RoAt w0 w wr b L el size (fun _ _ => R) v m s acc) (h1 : wr.ownsRow w.heap.size el size v m cs) (h2 : Parts size R acc cs)
    (r5 : Psr w0 w5 b L s5) (c5 : Chg [b] wr w5) (hn : Parts size R l2 cn) (hp : p = m + l2.length)
    (h7 : w7.ownsRow w.heap.size el size (.slice ao7 p c7) p (cs ++ cn)) (hg : w5.grownBy w7 v.ownBlock) : RoAt w0 w w7 b L el size (fun _ _ => R) (.slice ao7 p c7) p s5 (acc ++ l2) := by
  have hbw := H.bw
  have c7' : Chg (rowF v) w5 w7 := Chg.of_grown (F := rowF v) hg (fun k hk => rowF_mem.2 hk)
  have hv : ∀ k, v.ownBlock = some k → w.heap.size ≤ k ∧ k < wr.heap.size := fun k hk => h1.lt k hk
  have r7 : Psr w0 w7 b L s5 := r5.chg c7' (fun x hx => by have := (hv x (rowF_mem.1 hx)).1; omega)
  exact ⟨⟨r7, (H.st.c.trans c5).trans' c7' (fun x hx => .inr (hv x (rowF_mem.1 hx)).1)⟩, ⟨_, h7, h2.append hn⟩, by rw [List.length_append, ← H.em]; exact hp, hbw⟩
theorem par_one : ∀ {l : List Par} {cs : List Value}, Parts 3 (fun p c => c = parV p) l cs → ∀ u ∈ cs, u.oneCell' = true
  | [], cs, h, u, hu => by
    change cs = [] at h
    subst h
    cases hu
  | a :: l, cs, ⟨c, d, e, h1, h2, h3⟩, u, hu => by
    subst e
    rcases List.mem_append.1 hu with hu | hu
    · rw [h2] at hu
      exact parV_one a u hu
    · exact par_one h3 u hu

end Go.Proofs.YtlgfijjkbomejaaGreatDoor

/- The reference's lexer: its loop's body, and what holds between two tokens. Numbers and types by name. -/
namespace Go.Proofs.YtlgfijjkbomejaaGreatDoor
open Go.RowKit Go.Lib
set_option maxRecDepth 100000

/-- What a lexer leaves. -/
def LexTold (w : World) (R : LexR) (e : Ending) (w' : World) : Prop :=
  ∃ ao n c, e = .returned (.tuple #[.slice ao n c, .int .i64 R.e, .int .i64 (R.pos : Int)]) ∧ Tkr w' (.slice ao n c) n R.l ∧ Below w.heap.size w w'

theorem runL_at (p : UInt8 → Bool) (q : List UInt8) : (∀ j, j < runL p q → ∃ d, q[j]? = some d ∧ p d = true) ∧ (q.length = runL p q ∨ ∃ d, q[runL p q]? = some d ∧ p d = false) := by
  have hle := runL_le p q
  obtain ⟨h1, h2⟩ := runL_take p q
  refine ⟨fun j hj => ?_, ?_⟩
  · have hx : q[j]? = some (q[j]'(by omega)) := List.getElem?_eq_getElem (by omega)
    refine ⟨_, hx, h1 _ ?_⟩
    rw [List.mem_take_iff_getElem]
    exact ⟨j, by omega, rfl⟩
  · rcases h2 with h2 | ⟨c, l, h2, h3⟩
    · left
      have := congrArg List.length h2
      simp only [List.length_drop, List.length_nil] at this
      omega
    · right
      refine ⟨c, ?_, h3⟩
      have : (q.drop (runL p q))[0]? = some c := by rw [h2]; rfl
      rwa [List.getElem?_drop, Nat.add_zero] at this
theorem spc_int (c : UInt8) : isSpc c = (((c.toNat : Int) == 32) || ((c.toNat : Int) == 9) || ((c.toNat : Int) == 10) || ((c.toNat : Int) == 13)) := by
  have e : ∀ d : UInt8, (c == d) = ((c.toNat : Int) == (d.toNat : Int)) := fun d => by
    rw [Bool.eq_iff_iff, beq_iff_eq, beq_iff_eq, ← UInt8.toNat_inj]
    omega
  unfold isSpc
  simp only [e]
  rfl
theorem ne_int {c d : UInt8} (h : c ≠ d) : ((c.toNat : Int) == (d.toNat : Int)) = false := by
  rw [beq_eq_false_iff_ne]
  intro h'
  exact h (UInt8.toNat_inj.1 (by omega))
theorem us_one (d : UInt8) : (isLet d || d == 95) = (isLet d || ((d.toNat : Int) == 95)) := by
  have e : (d == 95) = ((d.toNat : Int) == 95) := by
    rw [Bool.eq_iff_iff, beq_iff_eq, beq_iff_eq, ← UInt8.toNat_inj]
    have : (95 : UInt8).toNat = 95 := rfl
    omega
  rw [e]
theorem us_int (d : UInt8) : isWrd d = (isLet d || isDig d || ((d.toNat : Int) == 95)) := by
  have e : (d == 95) = ((d.toNat : Int) == 95) := by
    rw [Bool.eq_iff_iff, beq_iff_eq, beq_iff_eq, ← UInt8.toNat_inj]
    have : (95 : UInt8).toNat = 95 := rfl
    omega
  unfold isWrd
  rw [e]

/-- Between two tokens. -/
def LexAt (w wr : World) (l : List UInt8) (R : LexR) (k : Nat) (v : Value) (n : Nat) : Prop :=
  ∃ acc, OwnT wr w.heap.size v n acc ∧ Below w.heap.size w wr ∧ appL acc (lexA k (l.drop k)) = R ∧ acc.length ≤ k
theorem LexAt.skip {w wr : World} {l : List UInt8} {R : LexR} {k n : Nat} {v : Value} {c : UInt8} {r : List UInt8} {m : Nat} (h : LexAt w wr l R k v n) (hd : l.drop k = c :: r) (hs : stepL (c :: r) = .skip m) : LexAt w wr l R (k + m) v n := by
  obtain ⟨acc, h1, h2, h3, h4⟩ := h
  rw [hd, lexA_skip hs, ← hd, List.drop_drop] at h3
  exact ⟨acc, h1, h2, h3, by omega⟩

theorem LexAt.tok {w wr w6 : World} {l : List UInt8} {R : LexR} {k n N : Nat} {v v6 : Value} {c : UInt8} {r : List UInt8} {q : Int} {acc : List Tk} (h : OwnT wr w.heap.size v n acc ∧ Below w.heap.size w wr ∧ appL acc (lexA k (l.drop k)) = R ∧ acc.length ≤ k) (hd : l.drop k = c :: r) (hs : stepL (c :: r) = .tok q N)
    (ho : w6.ownsRow w.heap.size 117 3 v6 (n + 1) (tvs acc ++ tv ⟨q, (c :: r).take N, k⟩)) {o : Obj} (hb : Below w.heap.size (wr.alloc o) w6) : LexAt w w6 l R (k + N) v6 (n + 1) := by
  obtain ⟨h1, h2, h3, h4⟩ := h
  have hN := (stepL_n (c := c) (r := r)).2 q N hs
  refine ⟨acc ++ [⟨q, (c :: r).take N, k⟩], ⟨by rw [List.length_append, ← h1.1]; rfl, ?_⟩, (h2.alloc h2.size o).trans hb, ?_, by rw [List.length_append, List.length_singleton]; omega⟩
  · rw [tvs_snoc]
    exact ho
  · rw [appL_cons, ← List.drop_drop, hd, ← lexA_tok hs, ← hd]
    exact h3
theorem LexAt.bad {w wr : World} {l : List UInt8} {R : LexR} {k n : Nat} {v : Value} {c : UInt8} {r : List UInt8} {e : Int} (h : LexAt w wr l R k v n) (hd : l.drop k = c :: r) (hs : stepL (c :: r) = .bad e) : R = ⟨[], e, k⟩ ∧ Below w.heap.size w wr := by
  obtain ⟨acc, h1, h2, h3, h4⟩ := h
  rw [hd, lexA_bad hs] at h3
  refine ⟨h3.symm.trans ?_, h2⟩
  unfold appL
  rw [if_neg]
  rcases stepL_bad hs with rfl | rfl <;> simp
/-- The first loop of a function's body. -/
def firstLoop : Code → Option Code
  | .loop c => some c
  | .seq a b => match firstLoop a with
    | some c => some c
    | none => firstLoop b
  | .block _ c => firstLoop c
  | .scope c => firstLoop c
  | .cond _ a b => match firstLoop a with
    | some c => some c
    | none => firstLoop b
  | _ => none
noncomputable def lexBody : Code := ((Tryz.f27.body.bind firstLoop).getD .skip)

end Go.Proofs.YtlgfijjkbomejaaGreatDoor

namespace Go.Proofs.YtlgfijjkbomejaaGreatDoor
open Go.RowKit Go.Lib
set_option maxRecDepth 100000

set_option maxRecDepth 1000000 in
set_option maxHeartbeats 4000000 in
theorem lexr_blank (l : List UInt8) (w wr : World) (R : LexR) (K : Act → World → Prop) (hbig : ¬ 8192 < l.length) (n c0 k : Nat) (ao : Option Addr) (hk : k ≤ l.length) (hG : Hid (LexAt w wr l R k (.slice ao n c0) n)) (hlt : k < l.length) (c : UInt8) (r : List UInt8) (hd : l.drop k = c :: r) (s1 : isSpc c = true)
    (u2 u3 u4 u7 u8 u9 u10 u11 u15 u16 u17 u18 u19 u20 u21 u22 u23 u24 u25 u26 u27 u28 u29 u30 u31 u32 u33 u34 u35 u36 u37 u38 u39 u40 u41 u42 u43 u44 u45 u46 u47 u48 u49 u50 u51 u52 u53 u54 u55 u56 u57 u58 u59 u60 u61 u62 u63 u64 u65 u66 u67 u68 u69 u70 u71 u72 u73 u74 u75 u76 u77 u78 u79 u80 u81 u82 u83 u84 u85 u86 u87 u88 u89 u90 u91 u92 u93 u94 u95 u96 u97 u98 u99 u100 u101 u102 u103 u104 u105 u106 u107 u108 u109 u110 u111 u112 u113 u114 u115 u116 u117 u118 u119 u120 u121 u122 u123 u124 u125 u126 u127 u128 u129 u130 u131 u132 u133 u134 u135 u136 u137 u138 u139 u140 u141 u142 u143 u144 u145 u146 u147 u148 u149 u150 u151 u152 u153 u154 u155 u156 u157 u158 u159 u160 u161 u162 u163 u164 u165 u166 u167 u168 u169 u170 u171 u172 u173 u174 u175 u176 : Value) : Code.wp Tryz.prog lexBody (Exit.then (fun a' w' => (∃ u2 u3 u4 u5 u6 u7 u8 u9 u10 u11 u15 u16 u17 u18 u19 u20 u21 u22 u23 u24 u25 u26 u27 u28 u29 u30 u31 u32 u33 u34 u35 u36 u37 u38 u39 u40 u41 u42 u43 u44 u45 u46 u47 u48 u49 u50 u51 u52 u53 u54 u55 u56 u57 u58 u59 u60 u61 u62 u63 u64 u65 u66 u67 u68 u69 u70 u71 u72 u73 u74 u75 u76 u77 u78 u79 u80 u81 u82 u83 u84 u85 u86 u87 u88 u89 u90 u91 u92 u93 u94 u95 u96 u97 u98 u99 u100 u101 u102 u103 u104 u105 u106 u107 u108 u109 u110 u111 u112 u113 u114 u115 u116 u117 u118 u119 u120 u121 u122 u123 u124 u125 u126 u127 u128 u129 u130 u131 u132 u133 u134 u135 u136 u137 u138 u139 u140 u141 u142 u143 u144 u145 u146 u147 u148 u149 u150 u151 u152 u153 u154 u155 u156 u157 u158 u159 u160 u161 u162 u163 u164 u165 u166 u167 u168 u169 u170 u171 u172 u173 u174 u175 u176 : Value, (∃ (n c k : Nat) (ao : Option Addr), k ≤ l.length ∧ u6 = .int .i64 (k : Int) ∧ u5 = .slice ao n c ∧ Hid (LexAt w w' l R k (.slice ao n c) n)) ∧ a' = ⟨#[.string (tx l), undef, u2, u3, u4, u5, u6, u7, u8, u9, u10, u11, .string (tx l), .int .i64 (l.length : Int), .bool false, u15, u16, u17, u18, u19, u20, u21, u22, u23, u24, u25, u26, u27, u28, u29, u30, u31, u32, u33, u34, u35, u36, u37, u38, u39, u40, u41, u42, u43, u44, u45, u46, u47, u48, u49, u50, u51, u52, u53, u54, u55, u56, u57, u58, u59, u60, u61, u62, u63, u64, u65, u66, u67, u68, u69, u70, u71, u72, u73, u74, u75, u76, u77, u78, u79, u80, u81, u82, u83, u84, u85, u86, u87, u88, u89, u90, u91, u92, u93, u94, u95, u96, u97, u98, u99, u100, u101, u102, u103, u104, u105, u106, u107, u108, u109, u110, u111, u112, u113, u114, u115, u116, u117, u118, u119, u120, u121, u122, u123, u124, u125, u126, u127, u128, u129, u130, u131, u132, u133, u134, u135, u136, u137, u138, u139, u140, u141, u142, u143, u144, u145, u146, u147, u148, u149, u150, u151, u152, u153, u154, u155, u156, u157, u158, u159, u160, u161, u162, u163, u164, u165, u166, u167, u168, u169, u170, u171, u172, u173, u174, u175, u176, undef, undef, undef, undef, undef, undef], []⟩) ∧ l.length - (RowKit.intOf (a'.tmps.getD 6 undef)).toNat < l.length - (RowKit.intOf ((#[.string (tx l), undef, u2, u3, u4, .slice ao n c0, .int .i64 (k : Int), u7, u8, u9, u10, u11, .string (tx l), .int .i64 (l.length : Int), .bool false, u15, u16, u17, u18, u19, u20, u21, u22, u23, u24, u25, u26, u27, u28, u29, u30, u31, u32, u33, u34, u35, u36, u37, u38, u39, u40, u41, u42, u43, u44, u45, u46, u47, u48, u49, u50, u51, u52, u53, u54, u55, u56, u57, u58, u59, u60, u61, u62, u63, u64, u65, u66, u67, u68, u69, u70, u71, u72, u73, u74, u75, u76, u77, u78, u79, u80, u81, u82, u83, u84, u85, u86, u87, u88, u89, u90, u91, u92, u93, u94, u95, u96, u97, u98, u99, u100, u101, u102, u103, u104, u105, u106, u107, u108, u109, u110, u111, u112, u113, u114, u115, u116, u117, u118, u119, u120, u121, u122, u123, u124, u125, u126, u127, u128, u129, u130, u131, u132, u133, u134, u135, u136, u137, u138, u139, u140, u141, u142, u143, u144, u145, u146, u147, u148, u149, u150, u151, u152, u153, u154, u155, u156, u157, u158, u159, u160, u161, u162, u163, u164, u165, u166, u167, u168, u169, u170, u171, u172, u173, u174, u175, u176, undef, undef, undef, undef, undef, undef] : Array Value).getD 6 undef)).toNat) (Exit.inBlock 0 (Exit.then K (bodyPost Tryz.prog Tryz.f27 (LexTold w R))))) ⟨#[.string (tx l), undef, u2, u3, u4, .slice ao n c0, .int .i64 (k : Int), u7, u8, u9, u10, u11, .string (tx l), .int .i64 (l.length : Int), .bool false, u15, u16, u17, u18, u19, u20, u21, u22, u23, u24, u25, u26, u27, u28, u29, u30, u31, u32, u33, u34, u35, u36, u37, u38, u39, u40, u41, u42, u43, u44, u45, u46, u47, u48, u49, u50, u51, u52, u53, u54, u55, u56, u57, u58, u59, u60, u61, u62, u63, u64, u65, u66, u67, u68, u69, u70, u71, u72, u73, u74, u75, u76, u77, u78, u79, u80, u81, u82, u83, u84, u85, u86, u87, u88, u89, u90, u91, u92, u93, u94, u95, u96, u97, u98, u99, u100, u101, u102, u103, u104, u105, u106, u107, u108, u109, u110, u111, u112, u113, u114, u115, u116, u117, u118, u119, u120, u121, u122, u123, u124, u125, u126, u127, u128, u129, u130, u131, u132, u133, u134, u135, u136, u137, u138, u139, u140, u141, u142, u143, u144, u145, u146, u147, u148, u149, u150, u151, u152, u153, u154, u155, u156, u157, u158, u159, u160, u161, u162, u163, u164, u165, u166, u167, u168, u169, u170, u171, u172, u173, u174, u175, u176, undef, undef, undef, undef, undef, undef], []⟩ wr := by
  conv => arg 2; whnf
  have hsz := tx_size l
  have hb : ¬ (8192 : Int) < (l.length : Int) := by omega
  have HL := Lib.hid hbig
  have h3 : (k : Int) < (l.length : Int) := by omega
  obtain ⟨hc, hr, _⟩ := drop_at hd
  have hb1 := tx_at hc (by rw [hsz]; exact hlt)
  have HD := Lib.hid (And.intro hd (And.intro hc hr))
  clear hd hc hr
  have HS := Lib.hid s1
  have HN : Hid (LexAt w wr l R (k + 1) (.slice ao n c0) n) := Lib.hid (hG.out.skip HD.out.1 (if_pos s1))
  clear s1 hG
  go_wp2_with fail
  all_goals first
    | (exfalso
       have := HS.out
       rw [spc_int] at this
       simp_all
       done)
    | exact ⟨⟨n, c0, k + 1, ao, by omega, by go_num, rfl, HN⟩, by simp [RowKit.intOf]; omega⟩

set_option maxRecDepth 1000000 in
set_option maxHeartbeats 4000000 in
theorem lexr_remark (l : List UInt8) (w wr : World) (R : LexR) (K : Act → World → Prop) (hbig : ¬ 8192 < l.length) (n c0 k : Nat) (ao : Option Addr) (hk : k ≤ l.length) (hG : Hid (LexAt w wr l R k (.slice ao n c0) n)) (hlt : k < l.length) (c : UInt8) (r : List UInt8) (hd : l.drop k = c :: r) (s1 : ¬ isSpc c = true) (s2 : c = 35)
    (u2 u3 u4 u7 u8 u9 u10 u11 u15 u16 u17 u18 u19 u20 u21 u22 u23 u24 u25 u26 u27 u28 u29 u30 u31 u32 u33 u34 u35 u36 u37 u38 u39 u40 u41 u42 u43 u44 u45 u46 u47 u48 u49 u50 u51 u52 u53 u54 u55 u56 u57 u58 u59 u60 u61 u62 u63 u64 u65 u66 u67 u68 u69 u70 u71 u72 u73 u74 u75 u76 u77 u78 u79 u80 u81 u82 u83 u84 u85 u86 u87 u88 u89 u90 u91 u92 u93 u94 u95 u96 u97 u98 u99 u100 u101 u102 u103 u104 u105 u106 u107 u108 u109 u110 u111 u112 u113 u114 u115 u116 u117 u118 u119 u120 u121 u122 u123 u124 u125 u126 u127 u128 u129 u130 u131 u132 u133 u134 u135 u136 u137 u138 u139 u140 u141 u142 u143 u144 u145 u146 u147 u148 u149 u150 u151 u152 u153 u154 u155 u156 u157 u158 u159 u160 u161 u162 u163 u164 u165 u166 u167 u168 u169 u170 u171 u172 u173 u174 u175 u176 : Value) : Code.wp Tryz.prog lexBody (Exit.then (fun a' w' => (∃ u2 u3 u4 u5 u6 u7 u8 u9 u10 u11 u15 u16 u17 u18 u19 u20 u21 u22 u23 u24 u25 u26 u27 u28 u29 u30 u31 u32 u33 u34 u35 u36 u37 u38 u39 u40 u41 u42 u43 u44 u45 u46 u47 u48 u49 u50 u51 u52 u53 u54 u55 u56 u57 u58 u59 u60 u61 u62 u63 u64 u65 u66 u67 u68 u69 u70 u71 u72 u73 u74 u75 u76 u77 u78 u79 u80 u81 u82 u83 u84 u85 u86 u87 u88 u89 u90 u91 u92 u93 u94 u95 u96 u97 u98 u99 u100 u101 u102 u103 u104 u105 u106 u107 u108 u109 u110 u111 u112 u113 u114 u115 u116 u117 u118 u119 u120 u121 u122 u123 u124 u125 u126 u127 u128 u129 u130 u131 u132 u133 u134 u135 u136 u137 u138 u139 u140 u141 u142 u143 u144 u145 u146 u147 u148 u149 u150 u151 u152 u153 u154 u155 u156 u157 u158 u159 u160 u161 u162 u163 u164 u165 u166 u167 u168 u169 u170 u171 u172 u173 u174 u175 u176 : Value, (∃ (n c k : Nat) (ao : Option Addr), k ≤ l.length ∧ u6 = .int .i64 (k : Int) ∧ u5 = .slice ao n c ∧ Hid (LexAt w w' l R k (.slice ao n c) n)) ∧ a' = ⟨#[.string (tx l), undef, u2, u3, u4, u5, u6, u7, u8, u9, u10, u11, .string (tx l), .int .i64 (l.length : Int), .bool false, u15, u16, u17, u18, u19, u20, u21, u22, u23, u24, u25, u26, u27, u28, u29, u30, u31, u32, u33, u34, u35, u36, u37, u38, u39, u40, u41, u42, u43, u44, u45, u46, u47, u48, u49, u50, u51, u52, u53, u54, u55, u56, u57, u58, u59, u60, u61, u62, u63, u64, u65, u66, u67, u68, u69, u70, u71, u72, u73, u74, u75, u76, u77, u78, u79, u80, u81, u82, u83, u84, u85, u86, u87, u88, u89, u90, u91, u92, u93, u94, u95, u96, u97, u98, u99, u100, u101, u102, u103, u104, u105, u106, u107, u108, u109, u110, u111, u112, u113, u114, u115, u116, u117, u118, u119, u120, u121, u122, u123, u124, u125, u126, u127, u128, u129, u130, u131, u132, u133, u134, u135, u136, u137, u138, u139, u140, u141, u142, u143, u144, u145, u146, u147, u148, u149, u150, u151, u152, u153, u154, u155, u156, u157, u158, u159, u160, u161, u162, u163, u164, u165, u166, u167, u168, u169, u170, u171, u172, u173, u174, u175, u176, undef, undef, undef, undef, undef, undef], []⟩) ∧ l.length - (RowKit.intOf (a'.tmps.getD 6 undef)).toNat < l.length - (RowKit.intOf ((#[.string (tx l), undef, u2, u3, u4, .slice ao n c0, .int .i64 (k : Int), u7, u8, u9, u10, u11, .string (tx l), .int .i64 (l.length : Int), .bool false, u15, u16, u17, u18, u19, u20, u21, u22, u23, u24, u25, u26, u27, u28, u29, u30, u31, u32, u33, u34, u35, u36, u37, u38, u39, u40, u41, u42, u43, u44, u45, u46, u47, u48, u49, u50, u51, u52, u53, u54, u55, u56, u57, u58, u59, u60, u61, u62, u63, u64, u65, u66, u67, u68, u69, u70, u71, u72, u73, u74, u75, u76, u77, u78, u79, u80, u81, u82, u83, u84, u85, u86, u87, u88, u89, u90, u91, u92, u93, u94, u95, u96, u97, u98, u99, u100, u101, u102, u103, u104, u105, u106, u107, u108, u109, u110, u111, u112, u113, u114, u115, u116, u117, u118, u119, u120, u121, u122, u123, u124, u125, u126, u127, u128, u129, u130, u131, u132, u133, u134, u135, u136, u137, u138, u139, u140, u141, u142, u143, u144, u145, u146, u147, u148, u149, u150, u151, u152, u153, u154, u155, u156, u157, u158, u159, u160, u161, u162, u163, u164, u165, u166, u167, u168, u169, u170, u171, u172, u173, u174, u175, u176, undef, undef, undef, undef, undef, undef] : Array Value).getD 6 undef)).toNat) (Exit.inBlock 0 (Exit.then K (bodyPost Tryz.prog Tryz.f27 (LexTold w R))))) ⟨#[.string (tx l), undef, u2, u3, u4, .slice ao n c0, .int .i64 (k : Int), u7, u8, u9, u10, u11, .string (tx l), .int .i64 (l.length : Int), .bool false, u15, u16, u17, u18, u19, u20, u21, u22, u23, u24, u25, u26, u27, u28, u29, u30, u31, u32, u33, u34, u35, u36, u37, u38, u39, u40, u41, u42, u43, u44, u45, u46, u47, u48, u49, u50, u51, u52, u53, u54, u55, u56, u57, u58, u59, u60, u61, u62, u63, u64, u65, u66, u67, u68, u69, u70, u71, u72, u73, u74, u75, u76, u77, u78, u79, u80, u81, u82, u83, u84, u85, u86, u87, u88, u89, u90, u91, u92, u93, u94, u95, u96, u97, u98, u99, u100, u101, u102, u103, u104, u105, u106, u107, u108, u109, u110, u111, u112, u113, u114, u115, u116, u117, u118, u119, u120, u121, u122, u123, u124, u125, u126, u127, u128, u129, u130, u131, u132, u133, u134, u135, u136, u137, u138, u139, u140, u141, u142, u143, u144, u145, u146, u147, u148, u149, u150, u151, u152, u153, u154, u155, u156, u157, u158, u159, u160, u161, u162, u163, u164, u165, u166, u167, u168, u169, u170, u171, u172, u173, u174, u175, u176, undef, undef, undef, undef, undef, undef], []⟩ wr := by
  conv => arg 2; whnf
  have hsz := tx_size l
  have hb : ¬ (8192 : Int) < (l.length : Int) := by omega
  have HL := Lib.hid hbig
  have h3 : (k : Int) < (l.length : Int) := by omega
  obtain ⟨hc, hr, _⟩ := drop_at hd
  have hb1 := tx_at hc (by rw [hsz]; exact hlt)
  have HD := Lib.hid (And.intro hd (And.intro hc hr))
  clear hd hc hr
  have f1 := spc_int c
  have f0 : isSpc c = false := by simpa using s1
  obtain ⟨N, hN⟩ : ∃ N, N = runL (fun x => x != 10) r := ⟨_, rfl⟩
  have HN : Hid (LexAt w wr l R (k + (1 + N)) (.slice ao n c0) n) := Lib.hid (hG.out.skip HD.out.1 (by rw [hN]; exact (if_neg s1).trans (if_pos s2)))
  have hNr := runL_le (fun x => x != 10) r
  have hrl := congrArg List.length HD.out.2.2
  rw [List.length_drop] at hrl
  have HRN := Lib.hid (runL_at (fun x => x != 10) r)
  rw [← hN] at HRN hNr
  have hkN : k + (1 + N) ≤ l.length := by omega
  have HX := Lib.hid (And.intro hrl hkN)
  subst s2
  clear s1 f1 f0 hG hN hNr hrl hkN
  go_wp2_with fail
  go_loopw [6] (fun i wr2 => ∃ j : Nat, k ≤ j ∧ j ≤ k + (1 + N) ∧ i = .int .i64 j ∧ wr = wr2)
    (fun i _ => l.length - (RowKit.intOf i).toNat)
  case atStart => exact ⟨k, Nat.le_refl _, by omega, rfl, rfl⟩
  case round =>
    obtain ⟨j, hj1, hj2, rfl, rfl⟩ := hrel
    by_cases hj3 : j < k + (1 + N)
    · have h4 : (j : Int) < (l.length : Int) := by have := HX.out.2; omega
      obtain ⟨d, hd, hd2⟩ : ∃ d, l[j]? = some d ∧ d ≠ 10 := by
        by_cases hjk : j = k
        · exact ⟨35, by rw [hjk]; exact HD.out.2.1, by decide⟩
        · obtain ⟨d, h5, h6⟩ := HRN.out.1 (j - (k + 1)) (by omega)
          rw [← HD.out.2.2, List.getElem?_drop, show k + 1 + (j - (k + 1)) = j by omega] at h5
          exact ⟨d, h5, by simpa using h6⟩
      have hb2 := tx_at hd (by rw [hsz]; omega)
      have hd3 : ((d.toNat : Int) == 10) = false := ne_int hd2
      have hd4 : ((d.toNat : Int) != 10) = true := by simp [bne, hd3]
      clear hd hd2
      go_wp2_with fail
      exact ⟨⟨j + 1, by omega, by omega, by go_num, trivial⟩, by simp [RowKit.intOf]; omega⟩
    · obtain rfl : j = k + (1 + N) := by omega
      rcases HRN.out.2 with hq | ⟨d, hq, hq2⟩
      · have h4 : ¬ ((k + (1 + N) : Nat) : Int) < (l.length : Int) := by have := HX.out.1; omega
        go_wp2_with fail
        exact ⟨⟨n, c0, k + (1 + N), ao, HX.out.2, rfl, rfl, HN⟩, by simp [RowKit.intOf]; omega⟩
      · have h4 : ((k + (1 + N) : Nat) : Int) < (l.length : Int) := by
          have := (List.getElem?_eq_some_iff.1 hq).1
          have := HX.out.1
          omega
        rw [← HD.out.2.2, List.getElem?_drop, show k + 1 + N = k + (1 + N) by omega] at hq
        obtain rfl : d = 10 := by simpa using hq2
        have hb2 := tx_at hq (by rw [hsz]; omega)
        clear hq hq2
        go_wp2_with fail
        exact ⟨⟨n, c0, k + (1 + N), ao, HX.out.2, rfl, rfl, HN⟩, by simp [RowKit.intOf]; omega⟩

end Go.Proofs.YtlgfijjkbomejaaGreatDoor
