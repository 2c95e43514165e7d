/- The code's block, over stmt. Numbers and types by name. -/
import Derived.Test.YtlgfijjkbomejaaGreatDoorQph
import Derived.Test.YtlgfijjkbomejaaGreatDoorQpe
import Derived.Test.YtlgfijjkbomejaaGreatDoorPbd
import Derived.Test.YtlgfijjkbomejaaGreatDoorPbg
/- Rows that the code's parser appends to; lists with commas between. Numbers and types by name. -/
namespace Go.Proofs.YtlgfijjkbomejaaGreatDoor
open Go.RowKit Go.Lib
set_option maxRecDepth 100000

/-- What is read of an element goes over what leaves its blocks. -/
def Mono {α : Type} (Rel : World → (Nat → Prop) → α → List Value → Prop) : Prop := ∀ {w w' : World} {P Q : Nat → Prop} {F : List Nat}, Chg F w w' → (∀ k, P k → k ∉ F) → (∀ k, P k → Q k) → ∀ (a : α) (c : List Value), Rel w P a c → Rel w' Q a c
def NewV (w wr : World) (v : Value) (k : Nat) : Prop := w.heap.size ≤ k ∧ k < wr.heap.size ∧ v.ownBlock ≠ some k
/-- New blocks between two worlds. -/
def NewW (w wr : World) (k : Nat) : Prop := w.heap.size ≤ k ∧ k < wr.heap.size
/-- A row under way. -/
structure RoAt {α : Type} (w0 w wr : World) (b : Nat) (L : List Tk) (el : TypeId) (size : Nat) (Rel : World → (Nat → Prop) → α → List Value → Prop) (v : Value) (m : Nat) (s : PS) (acc : List α) : Prop where
  st : StC w0 w wr b L s
  o : ∃ cs, wr.ownsRow w.heap.size el size v m cs ∧ Parts size (Rel wr (NewV w wr v)) acc cs
  em : m = acc.length
  bw : b < w.heap.size
section
variable {α : Type} {w0 w wr : World} {b : Nat} {L : List Tk} {el : TypeId} {size : Nat} {Rel : World → (Nat → Prop) → α → List Value → Prop} {v : Value} {m : Nat} {s : PS} {acc : List α}
theorem RoAt.keep {w1 : World} {s1 : PS} (M : Mono Rel) (H : RoAt w0 w wr b L el size Rel v m s acc) (hr : Psr w0 w1 b L s1) (hc : Chg [b] wr w1) : RoAt w0 w w1 b L el size Rel v m s1 acc := by
  obtain ⟨cs, h1, h2⟩ := H.o
  have hb := H.bw
  exact ⟨H.st.keep hr hc, ⟨cs, owns_chg h1 hc (fun k hk hm => by have := (h1.lt k hk).1; rw [List.mem_singleton] at hm; omega), h2.imp (M hc (fun k hk hm => by have := hk.1; rw [List.mem_singleton] at hm; omega) (fun k hk => ⟨hk.1, Nat.lt_of_lt_of_le hk.2.1 hc.size, hk.2.2⟩))⟩, H.em, hb⟩
theorem RoAt.drew (M : Mono Rel) (H : RoAt w0 w wr b L el size Rel v m s acc) : RoAt w0 w wr.drew b L el size Rel v m s acc :=
  H.keep M H.st.drew.r ((Chg.refl [b] wr).drew)
theorem RoAt.nil (H : StC w0 w wr b L s) (hb : b < w.heap.size) : RoAt w0 w wr b L el size Rel (.slice none 0 0) 0 s [] := ⟨H, ⟨[], World.ownsRow_nil _ _ _ _, rfl⟩, rfl, hb⟩
theorem RoAt.shape (H : RoAt w0 w wr b L el size Rel v m s acc) : ∃ ao c, v = .slice ao m c := by
  obtain ⟨cs, h1, _⟩ := H.o
  rcases h1.2 with ⟨rfl, rfl⟩ | ⟨g, cap, cur, rfl, _⟩
  · exact ⟨none, 0, rfl⟩
  · exact ⟨_, _, rfl⟩
/-- A literal of one element. -/
theorem RoAt.lit {w1 : World} {a : α} {c : List Value} (M : Mono Rel) (H : StC w0 w wr b L s) (hb : b < w.heap.size) (hc : c.length = size) (ha : Rel wr (NewW w wr) a c) (e : w1 = wr.alloc (.cells c.toArray el)) : RoAt w0 w w1 b L el size Rel (.slice (some ⟨wr.heap.size, 0, none⟩) 1 1) 1 s [a] := by
  subst e
  refine ⟨H.alloc _, ⟨c, ⟨by rw [hc]; omega, .inr ⟨wr.heap.size, 1, c.toArray, rfl, H.c.size, heap_alloc_new _ _, Nat.le_refl _, by unfold maxLen; omega, by rw [List.size_toArray, hc]; omega, by rw [Nat.one_mul, ← hc]; simp⟩⟩, ?_⟩, rfl, hb⟩
  have h2 : Rel (wr.alloc (.cells c.toArray el)) (NewV w (wr.alloc (.cells c.toArray el)) (.slice (some ⟨wr.heap.size, 0, none⟩) 1 1)) a c :=
    M ((Chg.refl [] wr).alloc _) (fun _ _ hk => by cases hk) (fun k hk => ⟨hk.1, by simp; have := hk.2; omega, by simp [Value.ownBlock]; have := hk.2; omega⟩) a c ha
  exact ⟨c, [], by simp, hc, h2, rfl⟩
/-- An element is appended. -/
theorem RoAt.next {w5 w7 : World} {ao7 : Option Addr} {c7 : Nat} {s5 : PS} {o : Obj} {cs c : List Value} {a : α} (M : Mono Rel) (H : RoAt w0 w wr b L el size Rel v m s acc) (h1 : wr.ownsRow w.heap.size el size v m cs) (h2 : Parts size (Rel wr (NewV w wr v)) acc cs)
    (r5 : Psr w0 w5 b L s5) (c5 : Chg [b] wr w5) (hc : c.length = size) (ha : Rel w5 (NewW wr w5) a c)
    (h7 : w7.ownsRow w.heap.size el size (.slice ao7 (m + 1) c7) (m + 1) (cs ++ c)) (hg : (w5.alloc o).grownBy w7 v.ownBlock) (ho : (Value.slice ao7 (m + 1) c7).ownBlock = v.ownBlock ∨ (Value.slice ao7 (m + 1) c7).ownBlock = some (w5.alloc o).heap.size) :
    RoAt w0 w w7 b L el size Rel (.slice ao7 (m + 1) c7) (m + 1) s5 (acc ++ [a]) := by
  have hbw := H.bw
  have c7' : Chg (rowF v) w5 w7 := ((Chg.refl (rowF v) w5).alloc o).trans' (Chg.of_grown (F := rowF v) hg (fun k hk => rowF_mem.2 hk)) fun x hx => .inl hx
  have hv : ∀ k, v.ownBlock = some k → w.heap.size ≤ k ∧ k < wr.heap.size := fun k hk => h1.lt k hk
  have hs7 : (w5.alloc o).heap.size = w5.heap.size + 1 := by simp
  have hnew : ∀ k, k < w5.heap.size → v.ownBlock ≠ some k → (Value.slice ao7 (m + 1) c7).ownBlock ≠ some k := fun k hk hne e => by
    rcases ho with ho | ho
    · exact hne (ho ▸ e)
    · rw [ho] at e
      cases e
      omega
  have r7 : Psr w0 w7 b L s5 := r5.chg c7' (fun x hx => by have := (hv x (rowF_mem.1 hx)).1; omega)
  refine ⟨⟨r7, (H.st.c.trans c5).trans' c7' (fun x hx => .inr (hv x (rowF_mem.1 hx)).1)⟩, ⟨_, h7, ?_⟩, by rw [List.length_append, ← H.em]; rfl, hbw⟩
  refine Parts.snoc hc ?_ (h2.imp fun a c h => ?_)
  · exact M c7' (fun k hk hm => by have := (hv k (rowF_mem.1 hm)).2; have := hk.1; omega) (fun k hk => ⟨Nat.le_trans H.st.c.size hk.1, Nat.lt_of_lt_of_le hk.2 c7'.size, hnew k hk.2 fun e => by have := (hv k e).2; have := hk.1; omega⟩) _ _ ha
  · have h' := M c5 (Q := NewV w w5 v) (fun k hk hm => by have := hk.1; rw [List.mem_singleton] at hm; omega) (fun k hk => ⟨hk.1, Nat.lt_of_lt_of_le hk.2.1 c5.size, hk.2.2⟩) a c h
    exact M c7' (fun k hk hm => hk.2.2 (rowF_mem.1 hm)) (fun k hk => ⟨hk.1, Nat.lt_of_lt_of_le hk.2.1 c7'.size, hnew k hk.2.1 hk.2.2⟩) a c h'
theorem RoAt.told (M : Mono Rel) (hs : 0 < size) (H : RoAt w0 w wr b L el size Rel v m s acc) (hm : m ≤ 100000) : RowsP wr (NewW w wr) size (Rel wr (NewW w wr)) v m acc := by
  obtain ⟨cs, h1, h2⟩ := H.o
  refine ⟨H.em, hm, fun a n' c' e => ?_, cs, Cells.own h1 hs, h2.imp (M (Chg.refl [] wr) (fun _ _ h => by cases h) (fun k hk => ⟨hk.1, hk.2.1⟩))⟩
  rcases h1.2 with ⟨e2, _⟩ | ⟨g, cap, cur, e2, hb2, hg, _⟩
  · rw [e2] at e
    cases e
  · rw [e2] at e
    simp only [Value.slice.injEq, Option.some.injEq] at e
    obtain ⟨rfl, _⟩ := e
    exact ⟨hb2, (Array.getElem?_eq_some_iff.1 hg).1⟩
end

/-- What a list leaves: its rows, in new memory. -/
def RowsC {α : Type} (w : World) (size : Nat) (Rel : World → (Nat → Prop) → α → List Value → Prop) (l : List α) : World → Ending → Prop := fun w' e => ∃ ao m c, e = .returned (.slice ao m c) ∧ RowsP w' (NewW w w') size (Rel w' (NewW w w')) (.slice ao m c) m l
/-- Between two elements: what is left makes the whole. -/
def ListG {α : Type} (L : List Tk) (one : PS → α × PS) (q : Nat) (s : PS) (acc : List α) (shut : List UInt8) (R : List α × PS) : Prop :=
  (if isT L s [44] = true then listLoop L one q s.go acc else (acc, s)).1 = R.1 ∧ wantT L (if isT L s [44] = true then listLoop L one q s.go acc else (acc, s)).2 shut = R.2
theorem want_err {L : List Tk} {s : PS} (h : s.e ≠ 0) (t : List UInt8) : wantT L s t = s := by rw [wantT, isT_err h, if_neg (by simp), fail_err h]
/-- The first element. -/
theorem ListG.first {α : Type} {L : List Tk} {one : PS → α × PS} {s : PS} {shut : List UInt8} {R : List α × PS} (he : s.e = 0) (hB : isT L s shut = false) (h : listT L one s shut = R) : ListG L one L.length (one s).2 [(one s).1] shut R := by
  unfold listT at h
  simp only at h
  rw [hB, if_neg (by simp)] at h
  unfold listLoop at h
  rw [if_neg (by rw [he]; simp)] at h
  unfold ListG
  rw [← h]
  simp only [List.nil_append]
  exact ⟨trivial, trivial⟩
/-- One more. -/
theorem ListG.more {α : Type} {L : List Tk} {one : PS → α × PS} {q : Nat} {s : PS} {acc : List α} {shut : List UInt8} {R : List α × PS} (he : s.e = 0) (hB : isT L s [44] = true) (h : ListG L one (q + 1) s acc shut R) : ListG L one q (one s.go).2 (acc ++ [(one s.go).1]) shut R := by
  unfold ListG at h
  rw [if_pos hB] at h
  unfold listLoop at h
  rw [if_neg (by show ¬ s.e ≠ 0; rw [he]; simp)] at h
  exact h
theorem ListG.fell {α : Type} {L : List Tk} {one : PS → α × PS} {q : Nat} {s : PS} {acc : List α} {shut : List UInt8} {R : List α × PS} (he : s.e ≠ 0) (h : ListG L one q s acc shut R) : R.2 = s := by
  unfold ListG at h
  rw [isT_err he, if_neg (by simp)] at h
  rw [← h.2]
  exact want_err he _
theorem ListG.last {α : Type} {L : List Tk} {one : PS → α × PS} {q : Nat} {s : PS} {acc : List α} {shut : List UInt8} {R : List α × PS} (hB : isT L s [44] = false) (h : ListG L one q s acc shut R) : R = (acc, wantT L s shut) := by
  unfold ListG at h
  rw [hB, if_neg (by simp)] at h
  exact Prod.ext h.1.symm h.2.symm

end Go.Proofs.YtlgfijjkbomejaaGreatDoor

/- The code's lists, over what they are made of: made by wip/tools/genlist.py. Numbers and types by name. -/
namespace Go.Proofs.YtlgfijjkbomejaaGreatDoor
open Go.RowKit Go.Lib
set_option maxRecDepth 100000

end Go.Proofs.YtlgfijjkbomejaaGreatDoor

/- The code's value and call; a statement's block that is filled in. Numbers and types by name. -/
namespace Go.Proofs.YtlgfijjkbomejaaGreatDoor
open Go.RowKit Go.Lib
set_option maxRecDepth 100000

def valueT (L : List Tk) (s : PS) : List Nd × PS := exprN L (wantT L s [61])
theorem value_goes {L : List Tk} (hL : TokL L) (s : PS) : Goes L s (valueT L s).2 := (want_goes hL _ _).trans (exprN_goes hL _)
/-- A statement's block that is filled in: the state, the block, its parts. -/
structure SvAt (w0 w wr : World) (b : Nat) (L : List Tk) (S : Nat) (h : SH) (vE vA : Value) (s : PS) : Prop where
  r : Psr w0 wr b L s
  c : Chg [b, S] w wr
  z : SBlk wr S h vE vA (.slice none 0 0) (.slice none 0 0)
  e : ∃ nE, NodesP wr (NewW w wr) vE nE h.e
  a : ∃ nA, ArgsP wr (NewW w wr) vA nA h.args
  nb : b < S
  sw : S < w.heap.size
variable {w0 w wr : World} {b : Nat} {L : List Tk} {S : Nat} {h : SH} {vE vA : Value} {s : PS}
theorem SvAt.keep {w1 : World} {s1 : PS} (H : SvAt w0 w wr b L S h vE vA s) (hr : Psr w0 w1 b L s1) (hc : Chg [b] wr w1) : SvAt w0 w w1 b L S h vE vA s1 := by
  obtain ⟨nE, he⟩ := H.e
  obtain ⟨nA, ha⟩ := H.a
  have hb := H.nb
  have hs := H.sw
  have hP : ∀ k, NewW w wr k → k ∉ [b] := fun k hk hm => by rw [List.mem_singleton] at hm; have := hk.1; omega
  have hQ : ∀ k, NewW w wr k → NewW w w1 k := fun k hk => ⟨hk.1, Nat.lt_of_lt_of_le hk.2 hc.size⟩
  exact ⟨hr, H.c.trans (hc.mono (fun x hx => by rw [List.mem_singleton] at hx; rw [hx]; exact List.mem_cons_self ..)), H.z.chg hc (by rw [List.mem_singleton]; omega), ⟨nE, he.chg hc hP hQ⟩, ⟨nA, ha.chg hc hP hQ⟩, hb, hs⟩
theorem SvAt.alloc (H : SvAt w0 w wr b L S h vE vA s) (o : Obj) : SvAt w0 w (wr.alloc o) b L S h vE vA s := H.keep (H.r.chg ((Chg.refl [] wr).alloc o) (fun x hx => by cases hx)) ((Chg.refl [b] wr).alloc o)
theorem SvAt.drew (H : SvAt w0 w wr b L S h vE vA s) : SvAt w0 w wr.drew b L S h vE vA s := H.keep (H.r.chg ((Chg.refl [] wr).drew) (fun x hx => by cases hx)) ((Chg.refl [b] wr).drew)
theorem SvAt.put {h' : SH} {vE' vA' : Value} (H : SvAt w0 w wr b L S h vE vA s) (j : Nat) (v : Value) (e : (stmHead h vE vA (.slice none 0 0) (.slice none 0 0)).toArray.setIfInBounds j v = (stmHead h' vE' vA' (.slice none 0 0) (.slice none 0 0)).toArray)
    (he : ∃ nE, NodesP wr (NewW w wr) vE' nE h'.e) (ha : ∃ nA, ArgsP wr (NewW w wr) vA' nA h'.args) : SvAt w0 w (wr.setCell ⟨S, j, none⟩ v) b L S h' vE' vA' s := by
  have hc : Chg [S] wr (wr.setCell ⟨S, j, none⟩ v) := (Chg.refl [S] wr).set (.inl (by simp)) j v
  have hb := H.nb
  have hs := H.sw
  have hP : ∀ k, NewW w wr k → k ∉ [S] := fun k hk hm => by rw [List.mem_singleton] at hm; have := hk.1; omega
  have hQ : ∀ k, NewW w wr k → NewW w (wr.setCell ⟨S, j, none⟩ v) k := fun k hk => ⟨hk.1, Nat.lt_of_lt_of_le hk.2 hc.size⟩
  obtain ⟨nE, he⟩ := he
  obtain ⟨nA, ha⟩ := ha
  exact ⟨H.r.chg hc (fun y hy => by rw [List.mem_singleton] at hy; rw [hy]; exact hb), H.c.trans (hc.mono (fun x hx => by rw [List.mem_singleton] at hx; rw [hx]; simp)), H.z.set j v e, ⟨nE, he.chg hc hP hQ⟩, ⟨nA, ha.chg hc hP hQ⟩, hb, hs⟩
/-- A field that is no list. -/
theorem SvAt.field {h' : SH} (H : SvAt w0 w wr b L S h vE vA s) (j : Nat) (v : Value) (e : (stmHead h vE vA (.slice none 0 0) (.slice none 0 0)).toArray.setIfInBounds j v = (stmHead h' vE vA (.slice none 0 0) (.slice none 0 0)).toArray) (h1 : h'.e = h.e) (h2 : h'.args = h.args) : SvAt w0 w (wr.setCell ⟨S, j, none⟩ v) b L S h' vE vA s :=
  H.put j v e (by rw [h1]; exact H.e) (by rw [h2]; exact H.a)
theorem SvAt.cell (H : SvAt w0 w wr b L S h vE vA s) (j : Nat) (v : Value) (hj : (stmHead h vE vA (.slice none 0 0) (.slice none 0 0))[j]? = some v) : wr.cell? ⟨S, j, none⟩ = some v := H.z.cell j v hj
theorem SvAt.free (H : SvAt w0 w wr b L S h vE vA s) (j : Nat) : wr.frozen? ⟨S, j, none⟩ = false := H.z.free j
theorem SvAt.first {h0 : SH} (hr : Psr w0 w b L s) (hz : SBlk w S h0 (.slice none 0 0) (.slice none 0 0) (.slice none 0 0) (.slice none 0 0)) (he : h0.e = []) (ha : h0.args = []) (hb : b < S) : SvAt w0 w w b L S h0 (.slice none 0 0) (.slice none 0 0) s :=
  ⟨hr, Chg.refl _ _, hz, ⟨0, by rw [he]; exact RowsP.nil _ _ _ _⟩, ⟨0, by rw [ha]; exact RowsP.nil _ _ _ _⟩, hb, hz.lt⟩

def shCall (pos : Nat) : SH := { sh0 pos with kind := 4 }
end Go.Proofs.YtlgfijjkbomejaaGreatDoor

/- The code's simple: a statement without a block. Made by wip/tools/gensimple.py. Numbers and types by name. -/
namespace Go.Proofs.YtlgfijjkbomejaaGreatDoor
open Go.RowKit Go.Lib
set_option maxRecDepth 100000

/-- A statement without a block, in the code's order. -/
def simpleT (L : List Tk) (s : PS) (pos : Nat) : SH × PS :=
  if isT L s kLet = true then letT L s.go pos
  else if isT L s kResult = true then resultT L s.go pos
  else if isT L s kCall = true then callT L s.go pos
  else if isT L s kEmit = true then emitT L s.go pos
  else if isT L s kSkip = true then ({ sh0 pos with kind := 8 }, s.go)
  else setT L s pos
theorem let_is (L : List Tk) (s : PS) (pos : Nat) : letT L s pos = ({ sh0 pos with kind := 1, name := (paramT L s).1.name, label := (paramT L s).1.label, e := (valueT L (paramT L s).2).1 }, (valueT L (paramT L s).2).2) := rfl
theorem result_is (L : List Tk) (s : PS) (pos : Nat) : resultT L s pos = ({ sh0 pos with kind := 3, e := (valueT L s).1 }, (valueT L s).2) := rfl
theorem set_is (L : List Tk) (s : PS) (pos : Nat) : setT L s pos = ({ sh0 pos with kind := 2, mod := (qnameT L s).1.1, name := (qnameT L s).1.2, e := (valueT L (qnameT L s).2).1 }, (valueT L (qnameT L s).2).2) := rfl
theorem SvAt.nodes {w0 w wr w1 : World} {b : Nat} {L : List Tk} {S : Nat} {h h' : SH} {vE vA : Value} {s s1 : PS} {ao : Option Addr} {m c : Nat} {l : List Nd} (H1 : SvAt w0 w wr b L S h vE vA s) (H : SvAt w0 w w1 b L S h vE vA s1) (hn : NodesP w1 (fun k => wr.heap.size ≤ k ∧ k < w1.heap.size) (.slice ao m c) m l)
    (e : (stmHead h vE vA (.slice none 0 0) (.slice none 0 0)).toArray.setIfInBounds 8 (.slice ao m c) = (stmHead h' (.slice ao m c) vA (.slice none 0 0) (.slice none 0 0)).toArray) (he : h'.e = l) (ha : h'.args = h.args) : SvAt w0 w (w1.setCell ⟨S, 8, none⟩ (.slice ao m c)) b L S h' (.slice ao m c) vA s1 :=
  H.put 8 (.slice ao m c) e ⟨m, by rw [he]; exact hn.chg (Chg.refl [] _) (fun _ _ h => by cases h) (fun k hk => ⟨Nat.le_trans H1.c.size hk.1, hk.2⟩)⟩ (by rw [ha]; exact H.a)

end Go.Proofs.YtlgfijjkbomejaaGreatDoor

namespace Go.Proofs.YtlgfijjkbomejaaGreatDoor
open Go.RowKit Go.Lib
set_option maxRecDepth 100000

/-- What a statement's reader leaves: its cells, its parts in new memory. -/
def StmC (w : World) (t : Stm) : World → Ending → Prop := fun w' e => ∃ h body els vE vA vB vC, t = .mk h body els ∧ e = .returned (.agg #[.int .i64 h.kind, .int .i64 (h.pos : Int), .string (tx h.mod), .string (tx h.name), .string (tx h.label), .bool h.has, .string (tx h.toMod), .string (tx h.to), vE, vA, vB, vC]) ∧ StmV w' (NewW w w') t (stmHead h vE vA vB vC)
/-- Between two statements: what is left makes the whole. -/
def BlkG (L : List Tk) (S : PS → Stm × PS) (q : Nat) (s : PS) (acc : List Stm) (R : List Stm × PS) : Prop := (stmLoop L S q s acc).1 = R.1 ∧ (wantT L (stmLoop L S q s acc).2 [125]).shut = R.2
theorem BlkG.last {L : List Tk} {S : PS → Stm × PS} {q : Nat} {s : PS} {acc : List Stm} {R : List Stm × PS} (hB : isT L s [125] = true) (h : BlkG L S (q + 1) s acc R) : R = (acc, s.go.shut) := by
  unfold BlkG at h
  unfold stmLoop at h
  rw [if_pos (.inr hB)] at h
  simp only at h
  rw [wantT, if_pos hB] at h
  exact Prod.ext h.1.symm h.2.symm
theorem BlkG.more {L : List Tk} {S : PS → Stm × PS} {q : Nat} {s : PS} {acc : List Stm} {R : List Stm × PS} (he : s.e = 0) (hB : isT L s [125] = false) (h : BlkG L S (q + 1) s acc R) : BlkG L S q (S s).2 (acc ++ [(S s).1]) R := by
  unfold BlkG at h
  unfold stmLoop at h
  rw [if_neg (by rw [he, hB]; simp)] at h
  exact h
theorem BlkG.fell {L : List Tk} {S : PS → Stm × PS} {q : Nat} {s : PS} {acc : List Stm} {R : List Stm × PS} (he : s.e ≠ 0) (h : BlkG L S q s acc R) : R.2 = s.shut := by
  unfold BlkG at h
  have e : stmLoop L S q s acc = (acc, s) := by
    cases q with
    | zero => rfl
    | succ q =>
      unfold stmLoop
      rw [if_pos (.inl he)]
  rw [e] at h
  rw [← h.2]
  simp only
  rw [want_err he]
theorem monoStm : Mono StmV := fun hc hP hQ => StmV.chg hc hP hQ

end Go.Proofs.YtlgfijjkbomejaaGreatDoor
