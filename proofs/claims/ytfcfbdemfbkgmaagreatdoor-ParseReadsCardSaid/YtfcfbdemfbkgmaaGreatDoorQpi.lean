/- Rows that the code's parser appends to; lists with commas between. Numbers and types by name. -/
import Derived.Test.YtfcfbdemfbkgmaaGreatDoorQpg
import Derived.Test.YtfcfbdemfbkgmaaGreatDoorPbk
import Derived.Test.YtfcfbdemfbkgmaaGreatDoorQph
/- The code's parser: blocks of a call's own; param. Numbers and types by name. -/
namespace Go.Proofs.YtfcfbdemfbkgmaaGreatDoor
open Go.RowKit Go.Lib
set_option maxRecDepth 100000

/-- A token that must be a name. -/
theorem psr_kind1 (w0 w : World) (b : Nat) (L : List Tk) (s : PS) (h : Psr w0 w b L s) :
    Calls Tryz.prog 54 #[.pointer (some ⟨b, 0, none⟩), .int .i64 1] w (Ends w0 w b L (nameT L s).2 (fun _ e => e = .returned (tokV ⟨(curT L s).kind, (nameT L s).1, (curT L s).pos⟩))) := by
  refine (psr_kind w0 w b L s 1 h (by decide)).mono ?_
  rw [name_is L s h.e]
  rintro e w' ⟨hc, ⟨h0, h1, h2⟩ | ⟨h0, h1⟩⟩
  · refine ⟨hc, .inl ⟨h0, h1, ?_⟩⟩
    have hk : (curT L s).kind = 1 := by
      by_cases hk : (curT L s).kind = 1
      · exact hk
      · rw [if_neg hk] at h0
        exact absurd h0 (show ¬ (11 : Int) = 0 by decide)
    simp only
    rw [if_pos hk]
    exact h2
  · exact ⟨hc, .inr ⟨h0, h1⟩⟩

/-- The state, and what was written since w. -/
structure StC (w0 w wr : World) (b : Nat) (L : List Tk) (s : PS) : Prop where
  r : Psr w0 wr b L s
  c : Chg [b] w wr
/-- A block of its own. -/
structure OwB (w wr : World) (b T : Nat) (cs : Array Value) (t : TypeId) : Prop where
  z : wr.heap[T]? = some (.cells cs t)
  nb : b < T
  new : w.heap.size ≤ T
theorem StC.of {w0 w : World} {b : Nat} {L : List Tk} {s : PS} (h : Psr w0 w b L s) : StC w0 w w b L s := ⟨h, Chg.refl _ _⟩
theorem StC.keep {w0 w wr w1 : World} {b : Nat} {L : List Tk} {s s1 : PS} (h : StC w0 w wr b L s) (hr : Psr w0 w1 b L s1) (hc : Chg [b] wr w1) : StC w0 w w1 b L s1 := ⟨hr, h.c.trans hc⟩
theorem StC.alloc {w0 w wr : World} {b : Nat} {L : List Tk} {s : PS} (h : StC w0 w wr b L s) (o : Obj) : StC w0 w (wr.alloc o) b L s := ⟨h.r.chg ((Chg.refl [] wr).alloc o) (fun x hx => by cases hx), h.c.alloc o⟩
theorem StC.drew {w0 w wr : World} {b : Nat} {L : List Tk} {s : PS} (h : StC w0 w wr b L s) : StC w0 w wr.drew b L s := ⟨h.r.chg ((Chg.refl [] wr).drew) (fun x hx => by cases hx), h.c.drew⟩
theorem StC.set {w0 w wr : World} {b : Nat} {L : List Tk} {s : PS} (h : StC w0 w wr b L s) {T : Nat} (hb : b < T) (hn : w.heap.size ≤ T) (j : Nat) (v : Value) : StC w0 w (wr.setCell ⟨T, j, none⟩ v) b L s :=
  ⟨h.r.chg ((Chg.refl [T] wr).set (.inl (List.mem_singleton.2 rfl)) j v) (fun x hx => by rw [List.mem_singleton] at hx; rw [hx]; exact hb), h.c.set (.inr hn) j v⟩
theorem StC.setRow {w0 w wr : World} {b : Nat} {L : List Tk} {s : PS} (h : StC w0 w wr b L s) {T : Nat} (hb : b < T) (hn : w.heap.size ≤ T) (cs : Array Value) : StC w0 w (wr.setRow T cs) b L s := ⟨h.r.setRow hb cs, h.c.setRow (.inr hn) cs⟩
/-- A call's end, as the whole's: what it leaves, and where it failed. -/
theorem StC.out {w0 w wr w1 : World} {b : Nat} {L : List Tk} {s s1 : PS} {V : World → Ending → Prop} {e : Ending} (h : StC w0 w wr b L s) (k : Ends w0 wr b L s1 V e w1) : (s1.e = 0 ∧ V w1 e ∧ Hid (StC w0 w w1 b L s1 ∧ Chg [b] wr w1)) ∨ (s1.e ≠ 0 ∧ e = Pnk s1 ∧ Hid (Chg [b] w w1)) := by
  obtain ⟨hc, ⟨h0, h1, h2⟩ | ⟨h0, h1⟩⟩ := k
  · exact .inl ⟨h0, h2, Lib.hid ⟨h.keep h1 hc, hc⟩⟩
  · exact .inr ⟨h0, h1, Lib.hid (h.c.trans hc)⟩
theorem OwB.lt {w wr : World} {b T : Nat} {cs : Array Value} {t : TypeId} (h : OwB w wr b T cs t) : T < wr.heap.size := (Array.getElem?_eq_some_iff.1 h.z).1
theorem OwB.keep {w wr w1 : World} {b T : Nat} {cs : Array Value} {t : TypeId} (h : OwB w wr b T cs t) (hc : Chg [b] wr w1) : OwB w w1 b T cs t :=
  ⟨(hc.block T h.lt (by have := h.nb; rw [List.mem_singleton]; omega)).trans h.z, h.nb, h.new⟩
theorem OwB.alloc {w wr : World} {b T : Nat} {cs : Array Value} {t : TypeId} (h : OwB w wr b T cs t) (o : Obj) : OwB w (wr.alloc o) b T cs t := ⟨(heap_alloc_old _ _ h.lt).trans h.z, h.nb, h.new⟩
theorem OwB.drew {w wr : World} {b T : Nat} {cs : Array Value} {t : TypeId} (h : OwB w wr b T cs t) : OwB w wr.drew b T cs t := ⟨h.z, h.nb, h.new⟩
theorem OwB.mk' {w0 w wr : World} {b : Nat} {L : List Tk} {s : PS} (h : StC w0 w wr b L s) (cs : Array Value) (t : TypeId) : OwB w (wr.alloc (.cells cs t)) b wr.heap.size cs t := ⟨heap_alloc_new _ _, h.r.blt, h.c.size⟩
theorem OwB.set {w wr : World} {b T : Nat} {cs : Array Value} {t : TypeId} (h : OwB w wr b T cs t) (j : Nat) (v : Value) : OwB w (wr.setCell ⟨T, j, none⟩ v) b T (cs.setIfInBounds j v) t := ⟨heap_setCell_same wr T j cs t v h.z, h.nb, h.new⟩
theorem OwB.other {w wr : World} {b T U : Nat} {cs : Array Value} {t : TypeId} (h : OwB w wr b T cs t) (hn : T ≠ U) (j : Nat) (v : Value) : OwB w (wr.setCell ⟨U, j, none⟩ v) b T cs t := ⟨(heap_setCell_other wr ⟨U, j, none⟩ T v hn).trans h.z, h.nb, h.new⟩
theorem OwB.setRow {w wr : World} {b T : Nat} {cs : Array Value} {t : TypeId} (h : OwB w wr b T cs t) (cs' : Array Value) : OwB w (wr.setRow T cs') b T cs' t := ⟨setRow_heap _ _ _ _ _ _ h.z, h.nb, h.new⟩
theorem OwB.cell {w wr : World} {b T : Nat} {cs : Array Value} {t : TypeId} (h : OwB w wr b T cs t) (j : Nat) (v : Value) (hj : cs[j]? = some v) : wr.cell? ⟨T, j, none⟩ = some v := cellsN h.z j v hj
theorem OwB.free {w wr : World} {b T : Nat} {cs : Array Value} {t : TypeId} (h : OwB w wr b T cs t) (j : Nat) : wr.frozen? ⟨T, j, none⟩ = false := frozen_of_row _ _ _ _ _ h.z

theorem psr_param (w0 w : World) (b : Nat) (L : List Tk) (s : PS) (h : Psr w0 w b L s) :
    Calls Tryz.prog 89 #[.pointer (some ⟨b, 0, none⟩)] w (Ends w0 w b L (paramT L s).2 (Ret (.agg (parV (paramT L s).1).toArray))) := by
  have P := fun w1 h1 => psr_kind1 w0 w1 b L s h1
  have HA := Lib.hid ((StC.of h).alloc (.cells #[.string ⟨#[]⟩, .string ⟨#[]⟩, .int .i64 0] 56))
  obtain ⟨U, hU⟩ : ∃ U, w.heap.size = U := ⟨_, rfl⟩
  have HU := OwB.mk' (StC.of h) #[.string ⟨#[]⟩, .string ⟨#[]⟩, .int .i64 0] 56
  rw [hU] at HU
  have HU := Lib.hid HU
  obtain ⟨⟨⟨p1, p2, p3⟩, sF⟩, hR⟩ : ∃ q, paramT L s = q := ⟨_, rfl⟩
  rw [hR]
  unfold paramT at hR
  have hok := h.ok
  clear h
  obtain ⟨⟨n1, s1⟩, hq⟩ : ∃ q, nameT L s = q := ⟨_, rfl⟩
  rw [hq] at P hR
  clear hq
  generalize curT L s = t at *
  obtain ⟨kd, tt, p⟩ := t
  simp only at P hR
  unfold tokV at P
  simp only at P
  have HR := Lib.hid hR
  clear hR
  go_enter Tryz.func89, Tryz.ntmps89
  go_wp2_with fail
  refine (P _ HA.out.r).mono ?_
  rintro e1 w1 hr
  rcases HA.out.out hr with ⟨h0, hv, X⟩ | ⟨h0, rfl, X⟩
  case inr =>
    clear hr P
    go_wp2_with fail
    have g : Goes L s1 sF := by
      have := congrArg Prod.snd HR.out
      simp only at this
      rw [← this]
      exact (want_goes hok _ _).trans (name_goes hok _)
    rw [g.err h0]
    exact ⟨rfl, X.out, .inr ⟨h0, rfl⟩⟩
  obtain rfl : e1 = _ := hv
  clear hr P
  have HU1 := Lib.hid (HU.out.keep X.out.2)
  have X1 := Lib.hid (X.out.1.alloc (.cells #[.int .i64 kd, .string (tx n1), .int .i64 (p : Int)] 52))
  have HU1 := Lib.hid (HU1.out.alloc (.cells #[.int .i64 kd, .string (tx n1), .int .i64 (p : Int)] 52))
  obtain ⟨T, hT⟩ : ∃ T, w1.heap.size = T := ⟨_, rfl⟩
  have HT1 := OwB.mk' X.out.1 #[.int .i64 kd, .string (tx n1), .int .i64 (p : Int)] 52
  rw [hT] at HT1
  have HT1 := Lib.hid HT1
  have htu : Hid (T ≠ U) := Lib.hid (by
    have := HU.out.lt
    have := X.out.2.size
    omega)
  clear HA HU X
  go_wp2_with fail
  refine (psr_expect w0 _ b L s1 [58] X1.out.r (by decide)).mono ?_
  rintro e2 w2 hr
  rcases X1.out.out hr with ⟨h1, hv, X⟩ | ⟨h1, rfl, X⟩
  case inr =>
    clear hr
    go_wp2_with fail
    have g : Goes L (wantT L s1 [58]) sF := by
      have := congrArg Prod.snd HR.out
      simp only at this
      rw [← this]
      exact name_goes hok _
    rw [g.err h1]
    exact ⟨rfl, X.out, .inr ⟨h1, rfl⟩⟩
  obtain rfl : e2 = _ := hv
  have HU2 := Lib.hid (HU1.out.keep X.out.2)
  have HT2 := Lib.hid (HT1.out.keep X.out.2)
  have X2 := Lib.hid X.out.1
  clear hr X1 HU1 HT1 X
  obtain ⟨⟨n2, s3⟩, hq⟩ : ∃ q, nameT L (wantT L s1 [58]) = q := ⟨_, rfl⟩
  have P := fun w1 h1 => psr_name w0 w1 b L (wantT L s1 [58]) h1
  have hR := HR.out
  rw [hq] at hR P
  simp only [Prod.mk.injEq, Par.mk.injEq] at hR P
  obtain ⟨⟨rfl, rfl, rfl⟩, rfl⟩ := hR
  clear HR
  have ct1 : w2.drew.cell? ⟨T, 1, none⟩ = some (.string (tx n1)) := HT2.out.cell 1 _ rfl
  have ct2 : w2.drew.cell? ⟨T, 2, none⟩ = some (.int .i64 (p : Int)) := HT2.out.cell 2 _ rfl
  have XD := Lib.hid X2.out.drew
  go_upto_region 3 with fail
  go_region_law (go_simp; go_at_call 92; refine (P _ XD.out.r).mono ?_; rintro e3 w3 hr; refine Or.elim (XD.out.out hr) ?_ (fun q => by obtain ⟨h2, rfl, X3⟩ := q; exact ⟨rfl, X3.out, .inr ⟨h2, rfl⟩⟩); rintro ⟨h2, hv, X3⟩; obtain rfl : e3 = _ := hv; clear hr; have HU3 := Lib.hid ((HU2.out.drew).keep X3.out.2); have HT3 := Lib.hid ((HT2.out.drew).keep X3.out.2); have ct1 : w3.cell? ⟨T, 1, none⟩ = some (.string (tx n1)) := HT3.out.cell 1 _ rfl; have ct2 : w3.cell? ⟨T, 2, none⟩ = some (.int .i64 (p : Int)) := HT3.out.cell 2 _ rfl; have u0 : w3.cell? ⟨U, 0, none⟩ = some (.string ⟨#[]⟩) := HU3.out.cell 0 _ rfl; have u1 : w3.cell? ⟨U, 1, none⟩ = some (.string ⟨#[]⟩) := HU3.out.cell 1 _ rfl; have u2 : w3.cell? ⟨U, 2, none⟩ = some (.int .i64 0) := HU3.out.cell 2 _ rfl; have v0 : w3.frozen? ⟨U, 0, none⟩ = false := HU3.out.free 0; have v1 : w3.frozen? ⟨U, 1, none⟩ = false := HU3.out.free 1; have v2 : w3.frozen? ⟨U, 2, none⟩ = false := HU3.out.free 2)
  all_goals
    go_wp2_with fail
    have HU4 := ((HU3.out.set 0 (.string (tx n1))).set 1 (.string (tx n2))).set 2 (.int .i64 (p : Int))
    have X4 := ((X3.out.1.set HU3.out.nb HU3.out.new 0 (.string (tx n1))).set HU3.out.nb HU3.out.new 1 (.string (tx n2))).set HU3.out.nb HU3.out.new 2 (.int .i64 (p : Int))
    refine bodyPost_ret (results_cell_row rfl _ _ U _ #[.string (tx n1), .string (tx n2), .int .i64 (p : Int)] _ _ rfl HU4.z Tryz.underlying56 rfl (by show _ = some 3; kernel_rfl)) rfl ?_
    exact ⟨X4.c, .inl ⟨h2, X4.r, rfl⟩⟩

end Go.Proofs.YtfcfbdemfbkgmaaGreatDoor

namespace Go.Proofs.YtfcfbdemfbkgmaaGreatDoor
open Go.RowKit Go.Lib
set_option maxRecDepth 100000

/-- What is read of an element goes over what leaves its blocks. -/
def Mono {α : Type} (Rel : World → (Nat → Prop) → α → List Value → Prop) : Prop := ∀ {w w' : World} {P Q : Nat → Prop} {F : List Nat}, Chg F w w' → (∀ k, P k → k ∉ F) → (∀ k, P k → Q k) → ∀ (a : α) (c : List Value), Rel w P a c → Rel w' Q a c
def NewV (w wr : World) (v : Value) (k : Nat) : Prop := w.heap.size ≤ k ∧ k < wr.heap.size ∧ v.ownBlock ≠ some k
/-- New blocks between two worlds. -/
def NewW (w wr : World) (k : Nat) : Prop := w.heap.size ≤ k ∧ k < wr.heap.size
/-- A row under way. -/
structure RoAt {α : Type} (w0 w wr : World) (b : Nat) (L : List Tk) (el : TypeId) (size : Nat) (Rel : World → (Nat → Prop) → α → List Value → Prop) (v : Value) (m : Nat) (s : PS) (acc : List α) : Prop where
  st : StC w0 w wr b L s
  o : ∃ cs, wr.ownsRow w.heap.size el size v m cs ∧ Parts size (Rel wr (NewV w wr v)) acc cs
  em : m = acc.length
  bw : b < w.heap.size
section
variable {α : Type} {w0 w wr : World} {b : Nat} {L : List Tk} {el : TypeId} {size : Nat} {Rel : World → (Nat → Prop) → α → List Value → Prop} {v : Value} {m : Nat} {s : PS} {acc : List α}
theorem RoAt.keep {w1 : World} {s1 : PS} (M : Mono Rel) (H : RoAt w0 w wr b L el size Rel v m s acc) (hr : Psr w0 w1 b L s1) (hc : Chg [b] wr w1) : RoAt w0 w w1 b L el size Rel v m s1 acc := by
  obtain ⟨cs, h1, h2⟩ := H.o
  have hb := H.bw
  exact ⟨H.st.keep hr hc, ⟨cs, owns_chg h1 hc (fun k hk hm => by have := (h1.lt k hk).1; rw [List.mem_singleton] at hm; omega), h2.imp (M hc (fun k hk hm => by have := hk.1; rw [List.mem_singleton] at hm; omega) (fun k hk => ⟨hk.1, Nat.lt_of_lt_of_le hk.2.1 hc.size, hk.2.2⟩))⟩, H.em, hb⟩
theorem RoAt.drew (M : Mono Rel) (H : RoAt w0 w wr b L el size Rel v m s acc) : RoAt w0 w wr.drew b L el size Rel v m s acc :=
  H.keep M H.st.drew.r ((Chg.refl [b] wr).drew)
theorem RoAt.nil (H : StC w0 w wr b L s) (hb : b < w.heap.size) : RoAt w0 w wr b L el size Rel (.slice none 0 0) 0 s [] := ⟨H, ⟨[], World.ownsRow_nil _ _ _ _, rfl⟩, rfl, hb⟩
theorem RoAt.shape (H : RoAt w0 w wr b L el size Rel v m s acc) : ∃ ao c, v = .slice ao m c := by
  obtain ⟨cs, h1, _⟩ := H.o
  rcases h1.2 with ⟨rfl, rfl⟩ | ⟨g, cap, cur, rfl, _⟩
  · exact ⟨none, 0, rfl⟩
  · exact ⟨_, _, rfl⟩
/-- A literal of one element. -/
theorem RoAt.lit {w1 : World} {a : α} {c : List Value} (M : Mono Rel) (H : StC w0 w wr b L s) (hb : b < w.heap.size) (hc : c.length = size) (ha : Rel wr (NewW w wr) a c) (e : w1 = wr.alloc (.cells c.toArray el)) : RoAt w0 w w1 b L el size Rel (.slice (some ⟨wr.heap.size, 0, none⟩) 1 1) 1 s [a] := by
  subst e
  refine ⟨H.alloc _, ⟨c, ⟨by rw [hc]; omega, .inr ⟨wr.heap.size, 1, c.toArray, rfl, H.c.size, heap_alloc_new _ _, Nat.le_refl _, by unfold maxLen; omega, by rw [List.size_toArray, hc]; omega, by rw [Nat.one_mul, ← hc]; simp⟩⟩, ?_⟩, rfl, hb⟩
  have h2 : Rel (wr.alloc (.cells c.toArray el)) (NewV w (wr.alloc (.cells c.toArray el)) (.slice (some ⟨wr.heap.size, 0, none⟩) 1 1)) a c :=
    M ((Chg.refl [] wr).alloc _) (fun _ _ hk => by cases hk) (fun k hk => ⟨hk.1, by simp; have := hk.2; omega, by simp [Value.ownBlock]; have := hk.2; omega⟩) a c ha
  exact ⟨c, [], by simp, hc, h2, rfl⟩
/-- An element is appended. -/
theorem RoAt.next {w5 w7 : World} {ao7 : Option Addr} {c7 : Nat} {s5 : PS} {o : Obj} {cs c : List Value} {a : α} (M : Mono Rel) (H : RoAt w0 w wr b L el size Rel v m s acc) (h1 : wr.ownsRow w.heap.size el size v m cs) (h2 : Parts size (Rel wr (NewV w wr v)) acc cs)
    (r5 : Psr w0 w5 b L s5) (c5 : Chg [b] wr w5) (hc : c.length = size) (ha : Rel w5 (NewW wr w5) a c)
    (h7 : w7.ownsRow w.heap.size el size (.slice ao7 (m + 1) c7) (m + 1) (cs ++ c)) (hg : (w5.alloc o).grownBy w7 v.ownBlock) (ho : (Value.slice ao7 (m + 1) c7).ownBlock = v.ownBlock ∨ (Value.slice ao7 (m + 1) c7).ownBlock = some (w5.alloc o).heap.size) :
    RoAt w0 w w7 b L el size Rel (.slice ao7 (m + 1) c7) (m + 1) s5 (acc ++ [a]) := by
  have hbw := H.bw
  have c7' : Chg (rowF v) w5 w7 := ((Chg.refl (rowF v) w5).alloc o).trans' (Chg.of_grown (F := rowF v) hg (fun k hk => rowF_mem.2 hk)) fun x hx => .inl hx
  have hv : ∀ k, v.ownBlock = some k → w.heap.size ≤ k ∧ k < wr.heap.size := fun k hk => h1.lt k hk
  have hs7 : (w5.alloc o).heap.size = w5.heap.size + 1 := by simp
  have hnew : ∀ k, k < w5.heap.size → v.ownBlock ≠ some k → (Value.slice ao7 (m + 1) c7).ownBlock ≠ some k := fun k hk hne e => by
    rcases ho with ho | ho
    · exact hne (ho ▸ e)
    · rw [ho] at e
      cases e
      omega
  have r7 : Psr w0 w7 b L s5 := r5.chg c7' (fun x hx => by have := (hv x (rowF_mem.1 hx)).1; omega)
  refine ⟨⟨r7, (H.st.c.trans c5).trans' c7' (fun x hx => .inr (hv x (rowF_mem.1 hx)).1)⟩, ⟨_, h7, ?_⟩, by rw [List.length_append, ← H.em]; rfl, hbw⟩
  refine Parts.snoc hc ?_ (h2.imp fun a c h => ?_)
  · exact M c7' (fun k hk hm => by have := (hv k (rowF_mem.1 hm)).2; have := hk.1; omega) (fun k hk => ⟨Nat.le_trans H.st.c.size hk.1, Nat.lt_of_lt_of_le hk.2 c7'.size, hnew k hk.2 fun e => by have := (hv k e).2; have := hk.1; omega⟩) _ _ ha
  · have h' := M c5 (Q := NewV w w5 v) (fun k hk hm => by have := hk.1; rw [List.mem_singleton] at hm; omega) (fun k hk => ⟨hk.1, Nat.lt_of_lt_of_le hk.2.1 c5.size, hk.2.2⟩) a c h
    exact M c7' (fun k hk hm => hk.2.2 (rowF_mem.1 hm)) (fun k hk => ⟨hk.1, Nat.lt_of_lt_of_le hk.2.1 c7'.size, hnew k hk.2.1 hk.2.2⟩) a c h'
theorem RoAt.told (M : Mono Rel) (hs : 0 < size) (H : RoAt w0 w wr b L el size Rel v m s acc) (hm : m ≤ 100000) : RowsP wr (NewW w wr) size (Rel wr (NewW w wr)) v m acc := by
  obtain ⟨cs, h1, h2⟩ := H.o
  refine ⟨H.em, hm, fun a n' c' e => ?_, cs, Cells.own h1 hs, h2.imp (M (Chg.refl [] wr) (fun _ _ h => by cases h) (fun k hk => ⟨hk.1, hk.2.1⟩))⟩
  rcases h1.2 with ⟨e2, _⟩ | ⟨g, cap, cur, e2, hb2, hg, _⟩
  · rw [e2] at e
    cases e
  · rw [e2] at e
    simp only [Value.slice.injEq, Option.some.injEq] at e
    obtain ⟨rfl, _⟩ := e
    exact ⟨hb2, (Array.getElem?_eq_some_iff.1 hg).1⟩
end

/-- What a list leaves: its rows, in new memory. -/
def RowsC {α : Type} (w : World) (size : Nat) (Rel : World → (Nat → Prop) → α → List Value → Prop) (l : List α) : World → Ending → Prop := fun w' e => ∃ ao m c, e = .returned (.slice ao m c) ∧ RowsP w' (NewW w w') size (Rel w' (NewW w w')) (.slice ao m c) m l
/-- Between two elements: what is left makes the whole. -/
def ListG {α : Type} (L : List Tk) (one : PS → α × PS) (q : Nat) (s : PS) (acc : List α) (shut : List UInt8) (R : List α × PS) : Prop :=
  (if isT L s [44] = true then listLoop L one q s.go acc else (acc, s)).1 = R.1 ∧ wantT L (if isT L s [44] = true then listLoop L one q s.go acc else (acc, s)).2 shut = R.2
theorem want_err {L : List Tk} {s : PS} (h : s.e ≠ 0) (t : List UInt8) : wantT L s t = s := by rw [wantT, isT_err h, if_neg (by simp), fail_err h]
/-- The first element. -/
theorem ListG.first {α : Type} {L : List Tk} {one : PS → α × PS} {s : PS} {shut : List UInt8} {R : List α × PS} (he : s.e = 0) (hB : isT L s shut = false) (h : listT L one s shut = R) : ListG L one L.length (one s).2 [(one s).1] shut R := by
  unfold listT at h
  simp only at h
  rw [hB, if_neg (by simp)] at h
  unfold listLoop at h
  rw [if_neg (by rw [he]; simp)] at h
  unfold ListG
  rw [← h]
  simp only [List.nil_append]
  exact ⟨trivial, trivial⟩
/-- One more. -/
theorem ListG.more {α : Type} {L : List Tk} {one : PS → α × PS} {q : Nat} {s : PS} {acc : List α} {shut : List UInt8} {R : List α × PS} (he : s.e = 0) (hB : isT L s [44] = true) (h : ListG L one (q + 1) s acc shut R) : ListG L one q (one s.go).2 (acc ++ [(one s.go).1]) shut R := by
  unfold ListG at h
  rw [if_pos hB] at h
  unfold listLoop at h
  rw [if_neg (by show ¬ s.e ≠ 0; rw [he]; simp)] at h
  exact h
theorem ListG.fell {α : Type} {L : List Tk} {one : PS → α × PS} {q : Nat} {s : PS} {acc : List α} {shut : List UInt8} {R : List α × PS} (he : s.e ≠ 0) (h : ListG L one q s acc shut R) : R.2 = s := by
  unfold ListG at h
  rw [isT_err he, if_neg (by simp)] at h
  rw [← h.2]
  exact want_err he _
theorem ListG.last {α : Type} {L : List Tk} {one : PS → α × PS} {q : Nat} {s : PS} {acc : List α} {shut : List UInt8} {R : List α × PS} (hB : isT L s [44] = false) (h : ListG L one q s acc shut R) : R = (acc, wantT L s shut) := by
  unfold ListG at h
  rw [hB, if_neg (by simp)] at h
  exact Prod.ext h.1.symm h.2.symm

end Go.Proofs.YtfcfbdemfbkgmaaGreatDoor
