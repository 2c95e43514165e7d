/- The reference's reader in memory; here, is, take, fail, want, open, name, qname. Numbers and types by name. -/
import Derived.Test.YtfcfbdemfbkgmaaGreatDoorRdp
import Derived.Test.YtfcfbdemfbkgmaaGreatDoorLxr
import Derived.Test.YtfcfbdemfbkgmaaGreatDoorPan
/- Rows of whatever elements: what is read of them, append to own ones. Numbers and types by name. -/
namespace Go.Proofs.YtfcfbdemfbkgmaaGreatDoor
open Go.RowKit Go.Lib

/-- A slice value whose cells, some for each element, are xs. -/
def Cells (w : World) (v : Value) (size n : Nat) (xs : List Value) : Prop :=
  ∃ ao cap, v = .slice ao n cap ∧ xs.length = n * size ∧ n ≤ cap ∧ (ao = none → n = 0 ∧ cap = 0) ∧ ∀ a, ao = some a → ∀ j u, xs[j]? = some u → w.cell? (a.add j) = some u

theorem Cells.later {w w' : World} {v : Value} {size n : Nat} {xs : List Value} (h : Cells w v size n xs) (hg : Grow w w') : Cells w' v size n xs := by
  obtain ⟨ao, cap, rfl, h0, h1, h2, h3⟩ := h
  refine ⟨ao, cap, rfl, h0, h1, h2, fun a ha j u hj => ?_⟩
  have hc := h3 a ha j u hj
  rw [World.cell?_of_block (hg.block _ (World.block_lt_of_cell? w _ hc))]
  exact hc

/-- An element type: its slices, its nought, how many cells, how many bytes. -/
structure Elem (sl el : TypeId) (z : Value) (size bytes : Nat) : Prop where
  under : Tryz.prog.underlying sl = some (.slice el)
  info : (Tryz.prog.info? el).map (fun i => (i.zero, i.size, i.bytes)) = some (some z, size, bytes)
  cells : z.cells.size = size
  pos : 0 < size

theorem Cells.own {w : World} {base e size : Nat} {v : Value} {n : Nat} {xs : List Value} (h : w.ownsRow base e size v n xs) (hs : 0 < size) : Cells w v size n xs := by
  rcases h.2 with ⟨rfl, h0⟩ | ⟨g, cap, cur, rfl, _, hg, hc, _, hz, ht⟩
  · have hl := h.1
    subst h0
    exact ⟨none, 0, rfl, hl, Nat.le_refl _, fun _ => ⟨rfl, rfl⟩, fun a h => by cases h⟩
  · refine ⟨some ⟨g, 0, none⟩, cap, rfl, h.1, hc, (fun h => by cases h), fun a ha j u hj => ?_⟩
    cases ha
    have hlt : j < xs.length := (List.getElem?_eq_some_iff.1 hj).1
    have hx : xs[j]? = cur[j]? := by
      rw [← ht, List.getElem?_take, if_pos (by rw [h.1] at hlt; exact hlt)]
      simp
    show w.cell? ((⟨g, 0, none⟩ : Addr).add j) = some u
    rw [Addr.add_lit]
    simp only [World.cell?, hg, Nat.zero_add]
    rw [← hx, hj]
    simp

theorem Cells.lit (w : World) (xs : List Value) (t : TypeId) (fr : Nat × Nat) (size n : Nat) (hn : xs.length = n * size) : Cells (w.alloc (.cells xs.toArray t fr)) (.slice (some ⟨w.heap.size, 0, none⟩) n n) size n xs := by
  refine ⟨some ⟨w.heap.size, 0, none⟩, n, rfl, hn, Nat.le_refl _, (fun h => by cases h), fun a ha j u hj => ?_⟩
  cases ha
  rw [Addr.add_lit, World.cell?_alloc_mark]
  simpa using hj

theorem Cells.of_reads {w : World} {v : Value} {xs : List Value} (h : Reads w v xs) : Cells w v 1 xs.length xs := by
  obtain ⟨ao, cap, rfl, h0, h1, h2⟩ := h
  exact ⟨ao, cap, rfl, by simp, h0, fun e => by have := h1 e; rw [this.1]; exact ⟨rfl, this.2⟩, h2⟩
theorem Reads.of_cells {w : World} {v : Value} {n : Nat} {xs : List Value} (h : Cells w v 1 n xs) : Reads w v xs ∧ xs.length = n := by
  obtain ⟨ao, cap, rfl, h0, h1, h2, h3⟩ := h
  have hl : xs.length = n := by omega
  exact ⟨⟨ao, cap, by rw [hl], by omega, fun e => by have := h2 e; exact ⟨List.eq_nil_of_length_eq_zero (by omega), this.2⟩, h3⟩, hl⟩

/-- append of whatever can be read to an own row. -/
theorem run_append_gen {sl el : TypeId} {z : Value} {size bytes : Nat} (E : Elem sl el z size bytes) (ty : TypeId) (base : Nat) (v : Value) (n : Nat) (xs : List Value) (w : World) (hown : w.ownsRow base el size v n xs) (vb : Value) (m : Nat) (news : List Value) (hr : Cells w vb size m news) (h1 : ∀ u ∈ news, u.oneCell' = true)
    (h63 : n + m ≤ maxLen) (hbytes : (n + m) * bytes ≤ 140737488355328) (hbase : base ≤ w.heap.size) :
    ∃ ao c w', (Builtin.append_ #[sl, sl] ty #[v, vb]).run Tryz.prog w = .ok (.slice ao (n + m) c) w' ∧ w'.ownsRow base el size (.slice ao (n + m) c) (n + m) (xs ++ news) ∧ w.grownBy w' v.ownBlock ∧
      ((Value.slice ao (n + m) c).ownBlock = v.ownBlock ∨ (Value.slice ao (n + m) c).ownBlock = some w.heap.size) := by
  obtain ⟨i0, hi, hz0, hz1, hz2⟩ := info_parts E.info
  obtain ⟨ao, cap, rfl, hl, _, hn, hc⟩ := hr
  have shape : ∀ {w : World} {v : Value} {n : Nat} {xs : List Value}, w.ownsRow base el size v n xs → ∃ ao c, v = .slice ao n c := by
    intro w v n xs h
    rcases h.2 with ⟨rfl, rfl⟩ | ⟨g, cap, cur, rfl, _⟩
    · exact ⟨none, 0, rfl⟩
    · exact ⟨_, _, rfl⟩
  cases ao with
  | none =>
    obtain ⟨rfl, rfl⟩ := hn rfl
    obtain rfl : news = [] := List.eq_nil_of_length_eq_zero (by simpa using hl)
    obtain ⟨ao, c, rfl⟩ := shape hown
    have := run_append_owned_none (P := Tryz.prog) w base sl ty el i0 size E.under hi (.slice ao n c) n xs hown
    exact ⟨ao, c, w, this, by simpa using hown, grown_refl _ _, .inl rfl⟩
  | some a =>
    obtain ⟨v', w', hr, h2, h3, _, h5⟩ := run_append_own_at (P := Tryz.prog) w base sl ty el i0 z size bytes E.under hi hz0 hz1 hz2 E.cells E.pos v n xs hown a m cap news hl (hc a rfl) h1 h63 hbytes hbase
    obtain ⟨ao, c, rfl⟩ := shape h2
    exact ⟨ao, c, w', hr, h2, h3, h5⟩

theorem wpList_append_gen {sl el : TypeId} {z : Value} {size bytes : Nat} (E : Elem sl el z size bytes) {ops : Array Oper} {rest : List Oper} {o : Oper} {a : Act} {w : World} {Q : Exit → Act → World → Prop} (hgd : o.guard = none) (s x : Operand)
    (ho : o.op = .call { callee := .builtin .append, args := #[s, x], argTypes := #[sl, sl] })
    (base : Nat) (v : Value) (n : Nat) (xs : List Value) (hs : a.eval s = v) (hown : w.ownsRow base el size v n xs) (vb : Value) (m : Nat) (news : List Value) (hx : a.eval x = vb) (hr : Cells w vb size m news) (h1 : ∀ u ∈ news, u.oneCell' = true)
    (p : Nat) (hp : p = n + m) (h63 : Hid (p ≤ 1000000)) (hby : bytes ≤ 1000) (hbase : base ≤ w.heap.size)
    (h : ∀ ao c w', w'.ownsRow base el size (.slice ao p c) p (xs ++ news) → Below base w w' → w.grownBy w' v.ownBlock → ((Value.slice ao p c).ownBlock = v.ownBlock ∨ (Value.slice ao p c).ownBlock = some w.heap.size) → wpList Tryz.prog ops Q rest (a.put o.dst (.slice ao p c)) w') : wpList Tryz.prog ops Q (o :: rest) a w := by
  subst hp
  have hb := h63.out
  refine wpList_plain hgd fun K hK => ?_
  obtain ⟨ao, c, w', hr', h2, h3, h4⟩ := run_append_gen E o.type base v n xs w hown vb m news hr h1 (by unfold maxLen; omega) (Nat.le_trans (Nat.mul_le_mul hb hby) (by decide)) hbase
  unfold Oper.wp execOp
  simp only [ho, resolve, invoke, builtin, Sem.run_bind, Sem.run_pure, Result.andThen_ok, List.map_toArray, List.map_cons, List.map_nil, hs, hx, hr']
  exact hK _ _ (h ao c w' h2 (below_grown_own hown h3 hbase) h3 h4)

theorem step_append_gen {sl el : TypeId} {z : Value} {size bytes : Nat} (E : Elem sl el z size bytes) {ops : Array Oper} {o : Oper} {a : Act} {w : World} {K : Act → World → Prop} {Q : Exit → Act → World → Prop} {F : Prop} (hgd : o.guard = none) (s x : Operand)
    (ho : o.op = .call { callee := .builtin .append, args := #[s, x], argTypes := #[sl, sl] })
    (base : Nat) (v : Value) (n : Nat) (xs : List Value) (hs : a.eval s = v) (hown : w.ownsRow base el size v n xs) (vb : Value) (m : Nat) (news : List Value) (hx : a.eval x = vb) (hr : Cells w vb size m news) (h1 : ∀ u ∈ news, u.oneCell' = true)
    (p : Nat) (hp : p = n + m) (h63 : Hid (p ≤ 1000000)) (hby : bytes ≤ 1000) (hbase : base ≤ w.heap.size)
    (h : ∀ ao c w', w'.ownsRow base el size (.slice ao p c) p (xs ++ news) → Below base w w' → w.grownBy w' v.ownBlock → ((Value.slice ao p c).ownBlock = v.ownBlock ∨ (Value.slice ao p c).ownBlock = some w.heap.size) → K (a.put o.dst (.slice ao p c)) w') :
    if Region.wanted o (yielded ops a.tmps) = true then Oper.wp Tryz.prog o a w K Q else F := by
  subst hp
  have hb := h63.out
  have hw : Region.wanted o (yielded ops a.tmps) = true := by simp [Region.wanted, hgd]
  rw [if_pos hw]
  obtain ⟨ao, c, w', hr', h2, h3, h4⟩ := run_append_gen E o.type base v n xs w hown vb m news hr h1 (by unfold maxLen; omega) (Nat.le_trans (Nat.mul_le_mul hb hby) (by decide)) hbase
  unfold Oper.wp execOp
  simp only [ho, resolve, invoke, builtin, Sem.run_bind, Sem.run_pure, Result.andThen_ok, List.map_toArray, List.map_cons, List.map_nil, hs, hx, hr']
  exact h ao c w' h2 (below_grown_own hown h3 hbase) h3 h4

theorem own_empty (w : World) (base el size z : Nat) (hz : z = w.heap.size) (hb : base ≤ w.heap.size) : (w.alloc (.cells #[] el)).ownsRow base el size (.slice (some ⟨z, 0, none⟩) 0 0) 0 [] := by
  subst hz
  exact ⟨by simp, .inr ⟨w.heap.size, 0, #[], rfl, hb, heap_alloc_new w _, Nat.le_refl _, Nat.zero_le _, by simp, by simp⟩⟩


end Go.Proofs.YtfcfbdemfbkgmaaGreatDoor

/- Lists of tokens that are read, and own ones. Numbers and types by name. -/
namespace Go.Proofs.YtfcfbdemfbkgmaaGreatDoor
open Go.RowKit Go.Lib
set_option maxRecDepth 100000

def tv (o : Tk) : List Value := [.int .i64 o.kind, .string (tx o.text), .int .i64 (o.pos : Int)]
def tvs (L : List Tk) : List Value := L.flatMap tv
theorem tvs_length (L : List Tk) : (tvs L).length = L.length * 3 := by
  induction L with
  | nil => rfl
  | cons o L ih => simp only [tvs, List.flatMap_cons, List.length_append, List.length_cons] at *; rw [ih]; simp [tv]; omega
theorem tvs_snoc (L : List Tk) (o : Tk) : tvs (L ++ [o]) = tvs L ++ tv o := by simp [tvs]
theorem tvs_at {L : List Tk} {k : Nat} {o : Tk} (h : L[k]? = some o) (j : Nat) (hj : j < 3) : (tvs L)[k * 3 + j]? = (tv o)[j]? := by
  induction L generalizing k with
  | nil => cases h
  | cons p L ih =>
    have e : tvs (p :: L) = tv p ++ tvs L := by simp [tvs]
    cases k with
    | zero =>
      simp only [List.getElem?_cons_zero, Option.some.injEq] at h
      subst h
      rw [e, Nat.zero_mul, Nat.zero_add, List.getElem?_append_left (by simp [tv]; omega)]
    | succ k =>
      rw [List.getElem?_cons_succ] at h
      rw [e, List.getElem?_append_right (by simp [tv]; omega), ← ih h]
      congr 1
      simp [tv]; omega

/-- A list of tokens can be read. -/
def Tkr (w : World) (v : Value) (n : Nat) (L : List Tk) : Prop := n = L.length ∧ n ≤ 100000 ∧ Cells w v 3 n (tvs L)
theorem Tkr.shape {w : World} {v : Value} {n : Nat} {L : List Tk} (h : Tkr w v n L) : ∃ ao c, v = .slice ao n c := by
  obtain ⟨_, _, ao, c, rfl, _⟩ := h
  exact ⟨ao, c, rfl⟩
theorem Tkr.later {w w' : World} {v : Value} {n : Nat} {L : List Tk} (h : Tkr w v n L) (hg : Grow w w') : Tkr w' v n L := ⟨h.1, h.2.1, h.2.2.later hg⟩
theorem Tkr.nil (w : World) : Tkr w (.slice none 0 0) 0 [] := ⟨rfl, Nat.zero_le _, none, 0, rfl, rfl, Nat.le_refl _, fun _ => ⟨rfl, rfl⟩, fun a h => by cases h⟩
theorem Tkr.at {w : World} {ao : Option Addr} {n c : Nat} {L : List Tk} (h : Tkr w (.slice ao n c) n L) {k : Nat} (hk : k < n) :
    ∃ a o, ao = some a ∧ L[k]? = some o ∧ w.cell? (a.add (k * 3)) = some (.int .i64 o.kind) ∧ w.cell? ⟨(a.add (k * 3)).block, (a.add (k * 3)).off + 1, none⟩ = some (.string (tx o.text)) ∧ w.cell? ⟨(a.add (k * 3)).block, (a.add (k * 3)).off + 2, none⟩ = some (.int .i64 (o.pos : Int)) := by
  obtain ⟨h1, h2, ao', c', e, h0, hnc, hn, hc⟩ := h
  simp only [Value.slice.injEq] at e
  obtain ⟨rfl, _, rfl⟩ := e
  have hx : L[k]? = some (L[k]'(by omega)) := List.getElem?_eq_getElem (by omega)
  generalize L[k]'(by omega) = o at hx
  cases ao with
  | none => have := (hn rfl).1; omega
  | some a =>
    refine ⟨a, o, rfl, hx, ?_, ?_, ?_⟩
    · exact hc a rfl (k * 3) _ (by have := tvs_at hx 0 (by omega); rw [Nat.add_zero] at this; rw [this]; rfl)
    · have := hc a rfl _ _ (show (tvs L)[k * 3 + 1]? = some (.string (tx o.text)) by rw [tvs_at hx 1 (by omega)]; rfl)
      rw [← Addr.add_add] at this
      exact this
    · have := hc a rfl _ _ (show (tvs L)[k * 3 + 2]? = some (.int .i64 (o.pos : Int)) by rw [tvs_at hx 2 (by omega)]; rfl)
      rw [← Addr.add_add] at this
      exact this
theorem elemTok : Elem 48 52 (.agg #[.int .i64 0, .string ⟨#[]⟩, .int .i64 0]) 3 32 := ⟨Tryz.underlying48, by kernel_rfl, by decide, by decide⟩
/-- Tokens' own row. -/
def OwnT (w : World) (base : Nat) (v : Value) (n : Nat) (L : List Tk) : Prop := n = L.length ∧ w.ownsRow base 52 3 v n (tvs L)
theorem OwnT.nil (w : World) (base : Nat) : OwnT w base (.slice none 0 0) 0 [] := ⟨rfl, World.ownsRow_nil _ _ _ _⟩
theorem OwnT.read {w : World} {base : Nat} {v : Value} {n : Nat} {L : List Tk} (h : OwnT w base v n L) (hn : n ≤ 100000) : Tkr w v n L := ⟨h.1, hn, Cells.own h.2 (by decide)⟩
theorem tv_one (o : Tk) : ∀ u ∈ tv o, u.oneCell' = true := by
  intro u hu
  simp only [tv, List.mem_cons, List.not_mem_nil, or_false] at hu
  rcases hu with rfl | rfl | rfl <;> rfl
theorem tok_lit (w : World) (o : Tk) : Cells (w.alloc (.cells #[.int .i64 o.kind, .string (tx o.text), .int .i64 (o.pos : Int)] 52)) (.slice (some ⟨w.heap.size, 0, none⟩) 1 1) 3 1 (tv o) := Cells.lit w (tv o) 52 (0, 0) 3 1 rfl

end Go.Proofs.YtfcfbdemfbkgmaaGreatDoor

/- What is written: some blocks, and new ones. Numbers and types by name. -/
namespace Go.Proofs.YtfcfbdemfbkgmaaGreatDoor
open Go.RowKit Go.Lib

/-- w' is w with new blocks, and with writes to the blocks of F alone. -/
structure Chg (F : List Nat) (w w' : World) : Prop where
  os : w'.os = w.os
  tape : w'.tape = w.tape
  output : w'.output = w.output
  size : w.heap.size ≤ w'.heap.size
  block : ∀ k, k < w.heap.size → k ∉ F → w'.heap[k]? = w.heap[k]?
theorem Chg.refl (F : List Nat) (w : World) : Chg F w w := ⟨rfl, rfl, rfl, Nat.le_refl _, fun _ _ _ => rfl⟩
theorem Chg.of_grown {w w' : World} {row : Option Nat} {F : List Nat} (h : w.grownBy w' row) (hr : ∀ k, row = some k → k ∈ F) : Chg F w w' :=
  ⟨h.os, h.tape, h.output, h.size, fun k hk hn => h.block k hk (fun e => hn (hr k e.symm))⟩
theorem Chg.of_none {w w' : World} {F : List Nat} (h : w.grownBy w' none) : Chg F w w' := Chg.of_grown h (by intro k e; cases e)
/-- What is written in the second step is of F, or new since a. -/
theorem Chg.trans' {F G : List Nat} {a b c : World} (h : Chg F a b) (k : Chg G b c) (hG : ∀ x, x ∈ G → x ∈ F ∨ a.heap.size ≤ x) : Chg F a c :=
  ⟨k.os.trans h.os, k.tape.trans h.tape, k.output.trans h.output, Nat.le_trans h.size k.size, fun i hi hn =>
    (k.block i (Nat.lt_of_lt_of_le hi h.size) (fun hm => (hG i hm).elim hn (fun e => by omega))).trans (h.block i hi hn)⟩
theorem Chg.trans {F : List Nat} {a b c : World} (h : Chg F a b) (k : Chg F b c) : Chg F a c := h.trans' k fun _ hx => .inl hx
theorem Chg.mono {F G : List Nat} {a b : World} (h : Chg F a b) (hFG : ∀ x, x ∈ F → x ∈ G) : Chg G a b := ⟨h.os, h.tape, h.output, h.size, fun k hk hn => h.block k hk fun e => hn (hFG k e)⟩
theorem Chg.set {F : List Nat} {a w : World} (h : Chg F a w) {c : Nat} (hc : c ∈ F ∨ a.heap.size ≤ c) (j : Nat) (v : Value) : Chg F a (w.setCell ⟨c, j, none⟩ v) :=
  ⟨h.os, h.tape, h.output, by have := h.size; simpa [World.setCell] using this, fun i hi hn => (Below.heap_setCell _ _ _ _ (by show i ≠ c; rintro rfl; exact hc.elim hn (fun e => by omega))).trans (h.block i hi hn)⟩
theorem Chg.alloc {F : List Nat} {a w : World} (h : Chg F a w) (o : Obj) : Chg F a (w.alloc o) := h.trans (Chg.of_none (World.grownBy_alloc w o none))
theorem Chg.drew {F : List Nat} {a w : World} (h : Chg F a w) : Chg F a w.drew := ⟨h.os, h.tape, h.output, h.size, h.block⟩
theorem Chg.drewN {F : List Nat} {a w : World} (h : Chg F a w) (n : Nat) : Chg F a (w.drewN n) := ⟨h.os, h.tape, h.output, h.size, h.block⟩
theorem Chg.below {F : List Nat} {a w : World} (h : Chg F a w) {B : Nat} (hB : B ≤ a.heap.size) (hF : ∀ x, x ∈ F → B ≤ x) : Below B a w :=
  ⟨h.os, h.tape, h.output, h.size, fun k hk => h.block k (by omega) (fun e => by have := hF k e; omega)⟩
theorem Chg.of_below {F : List Nat} {a w : World} (h : Below a.heap.size a w) : Chg F a w := ⟨h.os, h.tape, h.output, h.size, fun k hk _ => h.block k hk⟩
theorem Chg.cell {F : List Nat} {a w : World} (h : Chg F a w) {x : Addr} {v : Value} (hv : a.cell? x = some v) (hn : x.block ∉ F) : w.cell? x = some v :=
  (World.cell?_of_block (h.block _ (World.block_lt_of_cell? a _ hv) hn)).trans hv
theorem Chg.frozen {F : List Nat} {a w : World} (h : Chg F a w) {x : Addr} {v : Value} (hv : a.cell? x = some v) (hn : x.block ∉ F) : w.frozen? x = a.frozen? x :=
  World.frozen?_of_block (h.block _ (World.block_lt_of_cell? a _ hv) hn)
theorem cellsN {w : World} {b : Nat} {cs : Array Value} {t : TypeId} (h : w.heap[b]? = some (.cells cs t (0, 0))) (j : Nat) (v : Value) (hj : cs[j]? = some v) : w.cell? ⟨b, j, none⟩ = some v := by
  simp only [World.cell?, h]
  simpa using hj

end Go.Proofs.YtfcfbdemfbkgmaaGreatDoor

namespace Go.Proofs.YtfcfbdemfbkgmaaGreatDoor
open Go.RowKit Go.Lib
set_option maxRecDepth 100000

/-- A reader's cells. -/
structure RdS (w : World) (b : Nat) (vl : Value) (s : PS) : Prop where
  c0 : w.cell? ⟨b, 0, none⟩ = some vl
  c1 : w.cell? ⟨b, 1, none⟩ = some (.int .i64 s.i)
  c2 : w.cell? ⟨b, 2, none⟩ = some (.int .i64 s.deep)
  c3 : w.cell? ⟨b, 3, none⟩ = some (.int .i64 s.e)
  c4 : w.cell? ⟨b, 4, none⟩ = some (.int .i64 s.pos)
  fz : ∀ k, w.frozen? ⟨b, k, none⟩ = false
theorem ne_off {b j k : Nat} (h : j ≠ k) : (⟨b, j, none⟩ : Addr) ≠ ⟨b, k, none⟩ := by intro e; cases e; exact h rfl
theorem RdS.set1 {w : World} {b : Nat} {vl : Value} {s : PS} (h : RdS w b vl s) (i : Nat) : RdS (w.setCell ⟨b, 1, none⟩ (.int .i64 (i : Int))) b vl { s with i := i } :=
  ⟨(World.cell?_setCell_other w _ _ _ (ne_off (by decide))).trans h.c0, World.cell?_setCell_same w _ _ h.c1, (World.cell?_setCell_other w _ _ _ (ne_off (by decide))).trans h.c2, (World.cell?_setCell_other w _ _ _ (ne_off (by decide))).trans h.c3, (World.cell?_setCell_other w _ _ _ (ne_off (by decide))).trans h.c4, fun k => by rw [World.frozen?_setCell]; exact h.fz k⟩
theorem RdS.set2 {w : World} {b : Nat} {vl : Value} {s : PS} (h : RdS w b vl s) (d : Nat) : RdS (w.setCell ⟨b, 2, none⟩ (.int .i64 (d : Int))) b vl { s with deep := d } :=
  ⟨(World.cell?_setCell_other w _ _ _ (ne_off (by decide))).trans h.c0, (World.cell?_setCell_other w _ _ _ (ne_off (by decide))).trans h.c1, World.cell?_setCell_same w _ _ h.c2, (World.cell?_setCell_other w _ _ _ (ne_off (by decide))).trans h.c3, (World.cell?_setCell_other w _ _ _ (ne_off (by decide))).trans h.c4, fun k => by rw [World.frozen?_setCell]; exact h.fz k⟩
theorem RdS.set3 {w : World} {b : Nat} {vl : Value} {s : PS} (h : RdS w b vl s) (e : Int) : RdS (w.setCell ⟨b, 3, none⟩ (.int .i64 e)) b vl { s with e := e } :=
  ⟨(World.cell?_setCell_other w _ _ _ (ne_off (by decide))).trans h.c0, (World.cell?_setCell_other w _ _ _ (ne_off (by decide))).trans h.c1, (World.cell?_setCell_other w _ _ _ (ne_off (by decide))).trans h.c2, World.cell?_setCell_same w _ _ h.c3, (World.cell?_setCell_other w _ _ _ (ne_off (by decide))).trans h.c4, fun k => by rw [World.frozen?_setCell]; exact h.fz k⟩
theorem RdS.set4 {w : World} {b : Nat} {vl : Value} {s : PS} (h : RdS w b vl s) (p : Nat) : RdS (w.setCell ⟨b, 4, none⟩ (.int .i64 (p : Int))) b vl { s with pos := p } :=
  ⟨(World.cell?_setCell_other w _ _ _ (ne_off (by decide))).trans h.c0, (World.cell?_setCell_other w _ _ _ (ne_off (by decide))).trans h.c1, (World.cell?_setCell_other w _ _ _ (ne_off (by decide))).trans h.c2, (World.cell?_setCell_other w _ _ _ (ne_off (by decide))).trans h.c3, World.cell?_setCell_same w _ _ h.c4, fun k => by rw [World.frozen?_setCell]; exact h.fz k⟩
theorem RdS.chg {w w' : World} {b : Nat} {vl : Value} {s : PS} {F : List Nat} (h : RdS w b vl s) (hc : Chg F w w') (hb : b ∉ F) : RdS w' b vl s :=
  ⟨hc.cell h.c0 hb, hc.cell h.c1 hb, hc.cell h.c2 hb, hc.cell h.c3 hb, hc.cell h.c4 hb, fun k => (World.frozen?_of_block (a := ⟨b, k, none⟩) (hc.block b (World.block_lt_of_cell? w _ h.c0) hb)).trans (h.fz k)⟩

/-- A reader over tokens that lie below it. -/
structure Rdr (w0 w : World) (b n : Nat) (vl : Value) (L : List Tk) (s : PS) : Prop where
  r : RdS w b vl s
  t : Tkr w0 vl n L
  lo : w0.heap.size ≤ b
  b : Below w0.heap.size w0 w
  lt : s.i < L.length
  ok : TokL L
  deep : s.deep ≤ 1000
theorem Rdr.chg {w0 w w' : World} {b n : Nat} {vl : Value} {L : List Tk} {s s' : PS} {F : List Nat} (h : Rdr w0 w b n vl L s) (hc : Chg F w w') (hF : ∀ x ∈ F, b ≤ x) (hr : RdS w' b vl s') (hl : s'.i < L.length) (hd : s'.deep ≤ 1000) : Rdr w0 w' b n vl L s' :=
  ⟨hr, h.t, h.lo, h.b.trans (hc.below (Nat.le_trans h.b.size (Nat.le_refl _)) fun x hx => Nat.le_trans h.lo (hF x hx)), hl, h.ok, hd⟩
theorem Rdr.blt {w0 w : World} {b n : Nat} {vl : Value} {L : List Tk} {s : PS} (h : Rdr w0 w b n vl L s) : b < w.heap.size := World.block_lt_of_cell? w _ h.r.c0
/-- The token that stands there. -/
theorem Rdr.cur {w0 w w1 : World} {b n : Nat} {vl : Value} {L : List Tk} {s : PS} (h : Rdr w0 w b n vl L s) (hg : Grow w w1) :
    ∃ a c, vl = .slice (some a) n c ∧ (s.i : Int) < (n : Int) ∧ w1.cell? (a.add (s.i * 3)) = some (.int .i64 (curT L s).kind) ∧ w1.cell? ⟨(a.add (s.i * 3)).block, (a.add (s.i * 3)).off + 1, none⟩ = some (.string (tx (curT L s).text)) ∧ w1.cell? ⟨(a.add (s.i * 3)).block, (a.add (s.i * 3)).off + 2, none⟩ = some (.int .i64 ((curT L s).pos : Int)) := by
  have ht := h.t
  obtain ⟨ao, c, rfl⟩ := ht.shape
  have hn := ht.1
  have hlt := h.lt
  obtain ⟨a, o, rfl, ho, c0, c1, c2⟩ := ((ht.later h.b).later hg).at (k := s.i) (by omega)
  obtain rfl : o = curT L s := by
    unfold curT
    rw [List.getD_eq_getElem?_getD, ho]
    rfl
  exact ⟨a, c, rfl, by omega, c0, c1, c2⟩

/-- The block of a token that is not laid yet. -/
abbrev tok0 : Obj := .cells #[.int .i64 0, .string ⟨#[]⟩, .int .i64 0] 52
/-- What a piece of the reader leaves: a value, the state, new memory. -/
def Rets (w0 w : World) (b n : Nat) (vl : Value) (L : List Tk) (s' : PS) (x : Ending) (e : Ending) (w' : World) : Prop := e = x ∧ Rdr w0 w' b n vl L s' ∧ Chg [b] w w'

theorem rdr_is (w0 w : World) (b n : Nat) (vl : Value) (L : List Tk) (s : PS) (t : List UInt8) (h : Rdr w0 w b n vl L s) :
    Calls Tryz.prog 35 #[.pointer (some ⟨b, 0, none⟩), .string (tx t)] w (Rets w0 w b n vl L s (.returned (.bool (isT L s t)))) := by
  have H := Lib.hid h
  obtain ⟨a, c, rfl, hin, d0, d1, d2⟩ := h.cur (Grow.refl w)
  obtain ⟨a', c', ea, _, f0, f1, f2⟩ := h.cur (w1 := w.alloc tok0) ((Below.refl _ w).alloc (Nat.le_refl _) _)
  simp only [Value.slice.injEq, Option.some.injEq] at ea
  obtain ⟨rfl, _, rfl⟩ := ea
  have r0 := h.r.c0
  have r1 := h.r.c1
  have r3 := h.r.c3
  have hb := h.blt
  obtain ⟨kd, hk⟩ : ∃ k, (curT L s).kind = k := ⟨_, rfl⟩
  obtain ⟨tt, htt⟩ : ∃ k, (curT L s).text = k := ⟨_, rfl⟩
  obtain ⟨BB, hBB⟩ : ∃ x, isT L s t = x := ⟨_, rfl⟩
  rw [hBB]
  have HB : Hid (BB = (s.e == 0 && (kd == 4 || kd == 3) && tt == t)) := Lib.hid (by rw [← hBB]; unfold isT; rw [hk, htt])
  clear hBB
  rw [hk] at d0 f0
  rw [htt] at d1 f1
  have y1 := tx_list tt
  have y2 := tx_list t
  obtain ⟨i, dp, e, p⟩ := s
  simp only at r1 r3 hin d0 d1 d2 f0 f1 f2 HB
  clear h hk htt
  go_enter Tryz.func35, Tryz.ntmps35
  go_wp2_with fail
  go_region
  have hC : Chg [] w (w.alloc (.cells #[.int .i64 kd, .string (tx tt), .int .i64 ((curT L { i := i, deep := dp, e := e, pos := p }).pos : Int)] 52)).drew := ((Chg.refl [] w).alloc _).drew
  have hnew := heap_alloc_new w (.cells #[.int .i64 kd, .string (tx tt), .int .i64 ((curT L { i := i, deep := dp, e := e, pos := p }).pos : Int)] 52)
  have m0 : (w.alloc (.cells #[.int .i64 kd, .string (tx tt), .int .i64 ((curT L { i := i, deep := dp, e := e, pos := p }).pos : Int)] 52)).drew.cell? ⟨w.heap.size, 0, none⟩ = _ := cellsN hnew 0 _ rfl
  have m1 : (w.alloc (.cells #[.int .i64 kd, .string (tx tt), .int .i64 ((curT L { i := i, deep := dp, e := e, pos := p }).pos : Int)] 52)).drew.cell? ⟨w.heap.size, 1, none⟩ = _ := cellsN hnew 1 _ rfl
  have H2 := Lib.hid (And.intro (H.out.r.chg hC (by simp)) hC)
  have r3' := H2.out.1.c3
  clear hC hnew r0 r1 r3 d0 d1 d2 f0 f1 f2 hin hb
  generalize (w.alloc (.cells #[.int .i64 kd, .string (tx tt), .int .i64 ((curT L { i := i, deep := dp, e := e, pos := p }).pos : Int)] 52)).drew = W at *
  have FIN : Hid (∀ B, B = BB → Rets w0 w b n (.slice (some a) n c) L { i := i, deep := dp, e := e, pos := p } (.returned (.bool BB)) (.returned (.bool B)) W) := Lib.hid fun B hB =>
    ⟨by rw [hB], H.out.chg H2.out.2 (fun x hx => by cases hx) H2.out.1 H.out.lt H.out.deep, H2.out.2.mono (fun x hx => by cases hx)⟩
  clear H H2
  obtain ⟨b1, q1⟩ : ∃ x, (e == 0) = x := ⟨_, rfl⟩
  obtain ⟨b2, q2⟩ : ∃ x, (kd == 4) = x := ⟨_, rfl⟩
  obtain ⟨b3, q3⟩ : ∃ x, (kd == 3) = x := ⟨_, rfl⟩
  rw [q1, q2, q3] at HB
  obtain ⟨b4, q4⟩ : ∃ x, (tt == t) = x := ⟨_, rfl⟩
  rw [q4] at HB
  have q5 : (tt = t) = (b4 = true) := by rw [← q4]; simp
  cases b1 <;> cases b2 <;> cases b3 <;> cases b4 <;>
  · go_wp2_with fail
    go_ret
    exact FIN.out _ HB.out.symm

theorem Rdr.set1 {w0 w : World} {b n : Nat} {vl : Value} {L : List Tk} {s : PS} (h : Rdr w0 w b n vl L s) (i : Nat) (hi : i < L.length) : Rdr w0 (w.setCell ⟨b, 1, none⟩ (.int .i64 (i : Int))) b n vl L { s with i := i } :=
  h.chg (F := [b]) ((Chg.refl [b] w).set (.inl (by simp)) 1 _) (fun x hx => by simp only [List.mem_singleton] at hx; omega) (h.r.set1 i) hi h.deep
theorem Rdr.few {w0 w : World} {b n : Nat} {vl : Value} {L : List Tk} {s : PS} (h : Rdr w0 w b n vl L s) : s.i < 10000 := by
  have := h.lt
  have := h.ok.few
  omega
theorem Rets.out1 {w0 w w' : World} {b n : Nat} {vl : Value} {L : List Tk} {s' : PS} {x e : Ending} (h : Rets w0 w b n vl L s' x e w') : e = x ∧ Hid (Rdr w0 w' b n vl L s' ∧ Chg [b] w w') := ⟨h.1, Lib.hid h.2⟩

theorem rdr_take (w0 w : World) (b n : Nat) (vl : Value) (L : List Tk) (s : PS) (t : List UInt8) (h : Rdr w0 w b n vl L s) :
    Calls Tryz.prog 36 #[.pointer (some ⟨b, 0, none⟩), .string (tx t)] w (Rets w0 w b n vl L (takeT L s t) (.returned (.bool (isT L s t)))) := by
  have P := rdr_is w0 w b n vl L s t h
  have hk : ∀ w1, Rdr w0 w1 b n vl L s → Chg [b] w w1 → isT L s t = true → Rets w0 w b n vl L (takeT L s t) (.returned (.bool true)) (.returned (.bool true)) (w1.setCell ⟨b, 1, none⟩ (.int .i64 ((s.i + 1 : Nat) : Int))) := fun w1 h1 hc ht => by
    refine ⟨rfl, ?_, hc.set (.inl (by simp)) 1 _⟩
    rw [takeT, if_pos ht]
    exact h1.set1 _ (isT_more h.ok ht h.lt)
  have hn : isT L s t = false → takeT L s t = s := fun ht => by rw [takeT, ht, if_neg (by simp)]
  have hi := h.few
  have HK := Lib.hid (And.intro hk hn)
  clear hk hn h
  obtain ⟨i, dp, e, p⟩ := s
  simp only at hi
  cases hB : isT L ⟨i, dp, e, p⟩ t with
  | false =>
    rw [hB] at P
    have HN := Lib.hid (HK.out.2 hB)
    clear HK hB
    go_enter Tryz.func36, Tryz.ntmps36
    go_wp2_with fail
    refine P.mono ?_
    rintro e1 w1 hr
    obtain ⟨rfl, H1⟩ := hr.out1
    clear hr
    go_wp2_with fail
    go_ret
    rw [HN.out]
    exact ⟨rfl, H1.out⟩
  | true =>
    rw [hB] at P
    have HN : Hid (∀ w1, _ → _ → _) := Lib.hid (fun w1 h1 h2 => HK.out.1 w1 h1 h2 hB)
    clear HK hB
    go_enter Tryz.func36, Tryz.ntmps36
    go_wp2_with fail
    refine P.mono ?_
    rintro e1 w1 hr
    obtain ⟨rfl, H1⟩ := hr.out1
    have r1 := H1.out.1.r.c1
    have fz := H1.out.1.r.fz 1
    clear hr
    simp only at r1
    go_wp2_with fail
    go_ret
    have := HN.out w1 H1.out.1 H1.out.2
    simpa using this

end Go.Proofs.YtfcfbdemfbkgmaaGreatDoor
