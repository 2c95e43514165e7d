/- The code's sum and term, over what they are asked of. Numbers and types by name. -/
import Derived.Test.YtfcfbdemfbkgmaaGreatDoorPao
import Derived.Test.YtfcfbdemfbkgmaaGreatDoorPbb
import Derived.WalkMore
/- The code's pieces that append nodes: what is asked of them; binary. Numbers and types by name. -/
namespace Go.Proofs.YtfcfbdemfbkgmaaGreatDoor
open Go.RowKit Go.Lib
set_option maxRecDepth 100000

/-- What a piece of the parser that appends nodes leaves. -/
def ExEnd (w0 w : World) (b : Nat) (L : List Tk) (v : Value) (r : List Nd × PS) (e : Ending) (w' : World) : Prop :=
  Chg (b :: rowF v) w w' ∧ ((r.2.e = 0 ∧ ∃ ao m c, e = .returned (.slice ao m c) ∧ OwnN w' (b + 1) (.slice ao m c) m r.1 ∧ Psr w0 w' b L r.2 ∧ FromRow w v (.slice ao m c)) ∨ (r.2.e ≠ 0 ∧ e = Pnk r.2))
/-- What is asked of such a piece. -/
def ExC (f : FuncId) (U : EX) (w0 : World) (b : Nat) (L : List Tk) (N : Nat) : Prop :=
  ∀ (w : World) (s : PS) (v : Value) (m : Nat) (l : List Nd), Psr w0 w b L s → OwnN w (b + 1) v m l → remT L s < N → l.length + remT L s ≤ 20000 →
    Calls Tryz.prog f #[.pointer (some ⟨b, 0, none⟩), v] w (ExEnd w0 w b L v (U s l))
/-- A function that is entered when it is called. -/
def Enters (f : FuncId) : Prop := ∀ (args : Array Value) (w : World), (callFunc f args).run Tryz.prog w = .ok (.enter f args) w

/-- A node's own block. -/
def nodeO (o : Nd) : Obj := .cells #[.int .i64 o.kind, .int .i64 o.num, .string (tx o.mod), .string (tx o.name), .int .i64 o.a, .int .i64 o.b, .int .i64 (o.pos : Int)] 148
def tokO (t : Tk) : Obj := .cells #[.int .i64 t.kind, .string (tx t.text), .int .i64 (t.pos : Int)] 52

/-- Within such a piece: the state, the list, a block of its own. -/
structure EcAt (w0 w wr : World) (b : Nat) (L : List Tk) (v v1 : Value) (m T : Nat) (ob : Obj) (s : PS) (l : List Nd) : Prop where
  r : Psr w0 wr b L s
  o : OwnN wr (b + 1) v1 m l
  c : Chg (b :: rowF v) w wr
  f : FromRow w v v1
  z : wr.heap[T]? = some ob
  nb : b < T
  nr : T ∉ rowF v1
  new : w.heap.size ≤ T
theorem EcAt.keep {w0 w wr w1 : World} {b : Nat} {L : List Tk} {v v1 : Value} {m T : Nat} {ob : Obj} {s s1 : PS} {l : List Nd} (h : EcAt w0 w wr b L v v1 m T ob s l) (hr : Psr w0 w1 b L s1) (hc : Chg [b] wr w1) : EcAt w0 w w1 b L v v1 m T ob s1 l :=
  ⟨hr, h.o.keep hc, h.c.more h.f hc (fun x hx => .inl (by simpa using hx)), h.f, (hc.block T (Array.getElem?_eq_some_iff.1 h.z).1 (by have := h.nb; rw [List.mem_singleton]; omega)).trans h.z, h.nb, h.nr, h.new⟩
theorem EcAt.after {w0 w wr w1 : World} {b : Nat} {L : List Tk} {v v1 v2 : Value} {m m2 T : Nat} {ob : Obj} {s s1 : PS} {l l2 : List Nd} (h : EcAt w0 w wr b L v v1 m T ob s l) (o2 : OwnN w1 (b + 1) v2 m2 l2) (r2 : Psr w0 w1 b L s1) (c2 : Chg (b :: rowF v1) wr w1) (f2 : FromRow wr v1 v2) : EcAt w0 w w1 b L v v2 m2 T ob s1 l2 :=
  ⟨r2, o2, h.c.more h.f c2 (fun x hx => List.mem_cons.1 hx), h.f.trans f2 h.c.size, (c2.block T (Array.getElem?_eq_some_iff.1 h.z).1 (by have := h.nb; simp only [List.mem_cons, not_or]; exact ⟨by omega, h.nr⟩)).trans h.z, h.nb, fun hx => by
    rcases f2.mem hx (F := rowF v1) (fun y hy => hy) with hh | hh
    · exact h.nr hh
    · have := (Array.getElem?_eq_some_iff.1 h.z).1
      omega, h.new⟩
/-- Where it failed. -/
theorem EcAt.fell {w0 w wr w1 : World} {b : Nat} {L : List Tk} {v v1 : Value} {m T : Nat} {ob : Obj} {s : PS} {l : List Nd} (h : EcAt w0 w wr b L v v1 m T ob s l) {F : List Nat} (c2 : Chg F wr w1) (hF : ∀ x ∈ F, x = b ∨ x ∈ rowF v1) {r : List Nd × PS} (he : r.2.e ≠ 0) : ExEnd w0 w b L v r (Pnk r.2) w1 :=
  ⟨h.c.more h.f c2 hF, .inr ⟨he, rfl⟩⟩
theorem EcAt.told {w0 w wr : World} {b : Nat} {L : List Tk} {v : Value} {ao : Option Addr} {m c T : Nat} {ob : Obj} {s : PS} {l : List Nd} (h : EcAt w0 w wr b L v (.slice ao m c) m T ob s l) : ExEnd w0 w b L v (l, s) (.returned (.slice ao m c)) wr := ⟨h.c, .inl ⟨h.r.e, ao, m, c, rfl, h.o, h.r, h.f⟩⟩
/-- A cell of its own block is written. -/
theorem EcAt.field {w0 w wr : World} {b : Nat} {L : List Tk} {v v1 : Value} {m T : Nat} {cs : Array Value} {t : TypeId} {s : PS} {l : List Nd} (h : EcAt w0 w wr b L v v1 m T (.cells cs t) s l) (j : Nat) (x : Value) : EcAt w0 w (wr.setCell ⟨T, j, none⟩ x) b L v v1 m T (.cells (cs.setIfInBounds j x) t) s l := by
  have hc : Chg [T] wr (wr.setCell ⟨T, j, none⟩ x) := (Chg.refl [T] wr).set (.inl (List.mem_singleton.2 rfl)) j x
  exact ⟨h.r.chg hc (fun y hy => by rw [List.mem_singleton] at hy; rw [hy]; exact h.nb), h.o.chg hc (fun k hk hm => by rw [List.mem_singleton] at hm; subst hm; exact h.nr (rowF_mem.2 hk)), h.c.trans' hc (fun y hy => .inr (by rw [List.mem_singleton] at hy; rw [hy]; exact h.new)), h.f, heap_setCell_same wr T j cs t x h.z, h.nb, h.nr, h.new⟩
/-- A node is appended. -/
theorem EcAt.node {w0 w wr w6 : World} {b : Nat} {L : List Tk} {v v1 : Value} {ao6 : Option Addr} {m c6 T : Nat} {ob : Obj} {s : PS} {l : List Nd} {o : Obj} (d : Nd) (h : EcAt w0 w wr b L v v1 m T ob s l) (h1 : w6.ownsRow (b + 1) 148 7 (.slice ao6 (m + 1) c6) (m + 1) (nvs l ++ nv d)) (h2 : (wr.alloc o).grownBy w6 v1.ownBlock) (h3 : (Value.slice ao6 (m + 1) c6).ownBlock = v1.ownBlock ∨ (Value.slice ao6 (m + 1) c6).ownBlock = some (wr.alloc o).heap.size) :
    ExEnd w0 w b L v (l ++ [d], s) (.returned (.slice ao6 (m + 1) c6)) w6 := by
  have c6' : Chg (rowF v1) wr w6 := ((Chg.refl (rowF v1) wr).alloc o).trans' (Chg.of_grown (F := rowF v1) h2 (fun k hk => rowF_mem.2 hk)) fun x hx => .inl hx
  have hb3 : ∀ x ∈ rowF v1, b < x := fun x hx => (h.o.2.lt x (rowF_mem.1 hx)).1
  refine ⟨h.c.more h.f c6' (fun x hx => .inr hx), .inl ⟨h.r.e, ao6, m + 1, c6, rfl, ⟨by rw [List.length_append, ← h.o.1]; rfl, by rw [nvs_snoc]; exact h1⟩, h.r.chg c6' hb3, ?_⟩⟩
  refine h.f.trans ?_ h.c.size
  rcases h3 with h3 | h3
  · exact .inl h3
  · exact .inr fun k hk => by
      rw [h3] at hk
      cases hk
      simp
theorem node_info (o : Nd) : (Tryz.prog.info? 148).map (·.size) = some (#[Value.int .i64 o.kind, .int .i64 o.num, .string (tx o.mod), .string (tx o.name), .int .i64 o.a, .int .i64 o.b, .int .i64 (o.pos : Int)]).size := by
  show _ = some 7
  kernel_rfl

set_option maxHeartbeats 1000000 in
theorem binary_walk (f : FuncId) (U : EX) (w0 : World) (b : Nat) (L : List Tk) (N : Nat) (hP : PotOk L U) (K : ExC f U w0 b L N) (hf : Enters f)
    (w : World) (s : PS) (v : Value) (m : Nat) (l : List Nd) (k : Int) (hr : Psr w0 w b L s) (ho : OwnN w (b + 1) v m l) (hm : s.i + 1 < L.length) (hn : remT L s.go < N) (hp : l.length + remT L s.go + 1 ≤ 20000) :
    Calls Tryz.prog 165 #[.pointer (some ⟨b, 0, none⟩), v, .int .i64 k, .func (.func f) #[.pointer (some ⟨b, 0, none⟩)] #[]] w (ExEnd w0 w b L v (twoT (U s.go l).1 ((l.length : Int) - 1) k (curT L s).pos, (U s.go l).2)) := by
  have P := psr_take w0 w b L s hr hm
  have f2 := tok_pos (curT L s)
  have hpot := hP s.go l hm
  obtain ⟨ao0, c0, rfl⟩ := ho.shape
  have H := Lib.hid (And.intro hr ho)
  have K1 := Lib.hid (fun w v => K w s.go v m l)
  obtain ⟨⟨l2, s2⟩, hq⟩ : ∃ q, U s.go l = q := ⟨_, rfl⟩
  rw [hq] at K1 hpot ⊢
  have HN := Lib.hid (And.intro hn (And.intro hp hpot))
  have hml : m = l.length := ho.1
  have hm2 : m ≤ 20000 := by omega
  have EM := Lib.hid hml
  unfold tokV at P
  generalize (curT L s).pos = p at *
  generalize (curT L s).kind = kd at *
  generalize (curT L s).text = tt at *
  have hf1 : ∀ (args : Array Value) (w : World), (callFunc f args).run Tryz.prog w = .ok (.enter f args) w := hf
  clear hr ho K hn hp hpot hml hf hP hm hq
  go_enter Tryz.func165, Tryz.ntmps165
  go_wp2_with fail
  refine P.mono ?_
  rintro e1 w1 hr
  obtain ⟨rfl, X1⟩ := hr.out1
  clear hr P
  have HA : Hid (EcAt w0 w (w1.alloc (nodeO ⟨k, 0, [], [], (m : Int) - 1, 0, p⟩)) b L (.slice ao0 m c0) (.slice ao0 m c0) m w1.heap.size (nodeO ⟨k, 0, [], [], (m : Int) - 1, 0, p⟩) s.go l) := Lib.hid
    ⟨X1.out.1.chg ((Chg.refl [] w1).alloc _) (fun x hx => by cases hx), (H.out.2.keep X1.out.2).chg ((Chg.refl [] w1).alloc _) (fun k _ hk => by cases hk), (X1.out.2.mono (fun x hx => by rw [List.mem_singleton] at hx; rw [hx]; exact List.mem_cons_self ..)).alloc _, FromRow.refl _ _, heap_alloc_new _ _, X1.out.1.blt, fun hx => by
      have := ((H.out.2.keep X1.out.2).2.lt _ (rowF_mem.1 hx)).2
      omega, X1.out.2.size⟩
  go_wp2_with fail
  refine (K1.out _ _ HA.out.r HA.out.o HN.out.1 (by have := HN.out.2.1; omega)).mono ?_
  clear K1
  rintro e2 w2 ⟨cc, ⟨h0, ao2, m2, c2, rfl, o2, r2, fr2⟩ | ⟨h0, rfl⟩⟩
  · have H2 := Lib.hid (HA.out.after o2 r2 cc fr2)
    have hm2' : m2 ≤ 20000 := by have := o2.1; have := HN.out.2.2; have := HN.out.2.1; simp only at *; omega
    clear cc o2 r2 fr2 HN
    have H3 : Hid (EcAt w0 w (w2.setCell ⟨w1.heap.size, 5, none⟩ (.int .i64 ((m2 : Int) - 1))) b L (.slice ao0 m c0) (.slice ao2 m2 c2) m2 w1.heap.size (nodeO ⟨k, 0, [], [], (m : Int) - 1, (m2 : Int) - 1, p⟩) s2 l2) := Lib.hid (H2.out.field 5 (.int .i64 ((m2 : Int) - 1)))
    have k5 : w2.cell? ⟨w1.heap.size, 5, none⟩ = some (.int .i64 0) := cellsN H2.out.z 5 _ rfl
    have f5 : w2.frozen? ⟨w1.heap.size, 5, none⟩ = false := frozen_of_row _ _ _ _ _ H2.out.z
    have FL : Hid (m2 + 1 ≤ 1000000) := Lib.hid (by omega)
    have hb2 : Hid (b < w2.heap.size) := Lib.hid H2.out.r.blt
    clear H2
    go_wp2_with (first | (refine wpList_load_row rfl 148 (.tmp 9) rfl w1.heap.size rfl _ _ _ _ H3.out.z Tryz.underlying148 rfl (node_info ⟨k, 0, [], [], (m : Int) - 1, (m2 : Int) - 1, p⟩) ?_) | (at_builtin; (refine wpList_append_gen elemNode rfl (.tmp 25) (.tmp 27) rfl (b + 1) _ m2 _ rfl (H3.out.o.2.alloc _) _ 1 (nv ⟨k, 0, [], [], (m : Int) - 1, (m2 : Int) - 1, p⟩) rfl (node_litZ _ ⟨k, 0, [], [], (m : Int) - 1, (m2 : Int) - 1, p⟩ _ (by simp [World.setCell])) (nv_one _) (m2 + 1) rfl FL (by decide) (by have := hb2.out; simp; omega) ?_; intro ao7 c7 w7 hown7 hb7 hg7 ho7; have HA := Lib.hid (And.intro hown7 (And.intro hg7 ho7)); clear hown7 hb7 hg7 ho7)))
    go_ret
    have := H3.out.node ⟨k, 0, [], [], (m : Int) - 1, (m2 : Int) - 1, p⟩ HA.out.1 HA.out.2.1 HA.out.2.2
    rw [show (m2 : Int) = (l2.length : Int) by rw [H3.out.o.1], show (m : Int) = (l.length : Int) by rw [EM.out]] at this
    exact this
  · go_wp2_with fail
    exact ⟨rfl, HA.out.fell cc (fun x hx => List.mem_cons.1 hx) (r := (_, s2)) h0⟩

end Go.Proofs.YtfcfbdemfbkgmaaGreatDoor

namespace Go.Proofs.YtfcfbdemfbkgmaaGreatDoor
open Go.RowKit Go.Lib
set_option maxRecDepth 100000

theorem opLoop_err {L : List Tk} {ops : List (List UInt8 × Int)} {U : EX} {n : Nat} {s : PS} {l : List Nd} (h : s.e ≠ 0) : opLoop L ops U n s l = (l, s) := by
  cases n with
  | zero => rfl
  | succ n =>
    unfold opLoop
    rw [if_pos h]
/-- What is left, by a parser's cells. -/
def lenW (b : Nat) (w : World) : Nat :=
  match w.cell? ⟨b, 0, none⟩ with
  | some (.slice _ n _) => n
  | _ => 0
theorem Psr.len {w0 w : World} {b : Nat} {L : List Tk} {s : PS} (h : Psr w0 w b L s) : lenW b w = L.length - s.i := by
  obtain ⟨a, n, c, h1, h2, _⟩ := h.r
  unfold lenW
  rw [h1.c0]
  show n = _
  omega

/-- In the midst of a row of operands. -/
structure OcAt (w0 w wr : World) (b : Nat) (L : List Tk) (v v1 : Value) (m : Nat) (s : PS) (l : List Nd) (R : List Nd × PS) (ops : List (List UInt8 × Int)) (U : EX) (q N : Nat) : Prop where
  r : Psr w0 wr b L s
  o : OwnN wr (b + 1) v1 m l
  c : Chg (b :: rowF v) w wr
  f : FromRow w v v1
  g : opLoop L ops U q s l = R
  rq : remT L s < q
  rn : remT L s < N
  pot : l.length + remT L s ≤ 20000
variable {w0 w wr : World} {b : Nat} {L : List Tk} {v v1 : Value} {m : Nat} {s : PS} {l : List Nd} {R : List Nd × PS} {ops : List (List UInt8 × Int)} {U : EX} {q N : Nat}
theorem OcAt.keep {w1 : World} (h : OcAt w0 w wr b L v v1 m s l R ops U q N) (hr : Psr w0 w1 b L s) (hc : Chg [b] wr w1) : OcAt w0 w w1 b L v v1 m s l R ops U q N :=
  ⟨hr, h.o.keep hc, h.c.more h.f hc (fun x hx => .inl (by simpa using hx)), h.f, h.g, h.rq, h.rn, h.pot⟩
theorem OcAt.done {ao : Option Addr} {c : Nat} (h : OcAt w0 w wr b L v (.slice ao m c) m s l R ops U q N) (hd : whichT L s ops = none) : ExEnd w0 w b L v R (.returned (.slice ao m c)) wr := by
  have e : opLoop L ops U q s l = (l, s) := by
    have := h.rq
    cases q with
    | zero => omega
    | succ q =>
      unfold opLoop
      rw [if_neg (by rw [h.r.e]; simp), hd]
  rw [← h.g, e]
  exact ⟨h.c, .inl ⟨h.r.e, ao, m, c, rfl, h.o, h.r, h.f⟩⟩
theorem OcAt.sign {k : Int} (h : OcAt w0 w wr b L v v1 m s l R ops U q N) (hk : whichT L s ops = some k) :
    remT L s.go < N ∧ l.length + remT L s.go + 1 ≤ 20000 ∧ ∃ q', q = q' + 1 ∧ opLoop L ops U q' (U s.go l).2 (twoT (U s.go l).1 ((l.length : Int) - 1) k (curT L s).pos) = R ∧ remT L s.go < q' := by
  have h1 := rem_go (L := L) h.r.e h.r.lt
  have h2 := h.rn
  have h3 := h.pot
  have h4 := h.rq
  refine ⟨by omega, by omega, ?_⟩
  cases q with
  | zero => omega
  | succ q' =>
    refine ⟨q', rfl, ?_, by omega⟩
    have := h.g
    unfold opLoop at this
    rw [if_neg (by rw [h.r.e]; simp), hk] at this
    exact this
theorem OcAt.next {w4 : World} {v4 : Value} {m4 : Nat} {k : Int} (h : OcAt w0 w wr b L v v1 m s l R ops U q N) (hG : ∀ s l, Goes L s (U s l).2) (hP : PotOk L U) (hk : whichT L s ops = some k)
    (o4 : OwnN w4 (b + 1) v4 m4 (twoT (U s.go l).1 ((l.length : Int) - 1) k (curT L s).pos)) (r4 : Psr w0 w4 b L (U s.go l).2) (c4 : Chg (b :: rowF v1) wr w4) (f4 : FromRow wr v1 v4) :
    ∃ q', OcAt w0 w w4 b L v v4 m4 (U s.go l).2 (twoT (U s.go l).1 ((l.length : Int) - 1) k (curT L s).pos) R ops U q' N ∧ lenW b w4 < lenW b wr := by
  obtain ⟨g1, g2, q', rfl, g3, g4⟩ := h.sign hk
  obtain ⟨t, ht⟩ := which_is hk
  have hm := isT_more h.r.ok ht h.r.lt
  have hp := hP s.go l hm
  have hrm := (hG s.go l).rem
  have hi := (hG s.go l).i
  have hlt := r4.lt
  have hi2 : s.go.i = s.i + 1 := rfl
  refine ⟨q', ⟨r4, o4, h.c.more h.f c4 (fun x hx => List.mem_cons.1 hx), h.f.trans f4 h.c.size, g3, by omega, by omega, by rw [two_len]; omega⟩, ?_⟩
  rw [r4.len, h.r.len]
  omega
/-- The operand failed. -/
theorem OcAt.fell {w4 : World} {k : Int} (h : OcAt w0 w wr b L v v1 m s l R ops U q N) (hk : whichT L s ops = some k) (c4 : Chg (b :: rowF v1) wr w4) (he : (U s.go l).2.e ≠ 0) : ExEnd w0 w b L v R (Pnk (U s.go l).2) w4 := by
  obtain ⟨_, _, q', rfl, g3, _⟩ := h.sign hk
  rw [opLoop_err he] at g3
  rw [← g3]
  exact ⟨h.c.more h.f c4 (fun x hx => List.mem_cons.1 hx), .inr ⟨he, rfl⟩⟩

set_option maxHeartbeats 2000000 in
theorem cterm_walk (U : EX) (w0 : World) (b : Nat) (L : List Tk) (N : Nat) (hG : ∀ s l, Goes L s (U s l).2) (hP : PotOk L U) (K : ExC 188 U w0 b L N) :
    ExC 181 (opT L mulOps U N) w0 b L N := by
  intro w s v m l hr ho hn hp
  have P := K w s v m l hr ho hn hp
  obtain ⟨R, hR⟩ : ∃ R, opT L mulOps U N s l = R := ⟨_, rfl⟩
  rw [hR]
  change opLoop L mulOps U N (U s l).2 (U s l).1 = R at hR
  have hx := And.intro ((hG s l).lt hr.lt) (And.intro ((hG s l).rem) (hP s l hr.lt))
  obtain ⟨⟨l1, s1⟩, hq⟩ : ∃ q, U s l = q := ⟨_, rfl⟩
  rw [hq] at P hR hx
  have HX := Lib.hid hx
  have HR := Lib.hid hR
  have HN := Lib.hid (And.intro hn hp)
  have B := Lib.hid (fun w s v m l k h1 h2 h3 h4 h5 => binary_walk 188 U w0 b L N hP K (by intro args w; rfl) w s v m l k h1 h2 h3 h4 h5)
  have GP := Lib.hid (And.intro hG hP)
  obtain ⟨ao0, c0, rfl⟩ := ho.shape
  clear hr ho hn hp hR hG hP K hq hx
  go_enter Tryz.func181, Tryz.ntmps181
  go_wp2_with fail
  go_step3
  go_wp2_with fail
  refine P.mono ?_
  rintro e1 w1 ⟨cc, ⟨h0, ao1, m1, c1, rfl, o1, r1, f1⟩ | ⟨h0, rfl⟩⟩
  case inr =>
    clear P B
    go_wp2_with fail
    have hR := HR.out
    rw [opLoop_err h0] at hR
    rw [← hR]
    exact ⟨rfl, cc, .inr ⟨h0, rfl⟩⟩
  have H0 : Hid (OcAt w0 w w1 b L (.slice ao0 m c0) (.slice ao1 m1 c1) m1 s1 l1 R mulOps U N N) := Lib.hid
    ⟨r1, o1, cc, f1, HR.out, by have := HX.out.2.1; have := HN.out.1; simp only at *; omega, by have := HX.out.2.1; have := HN.out.1; simp only at *; omega, by have := HX.out.2.2; have := HN.out.2; simp only at *; omega⟩
  clear P o1 r1 f1 cc HX HN HR h0
  go_wp2_with fail
  go_step3
  go_wp2_with fail
  go_loopw [1] (fun x wr => ∃ (ao : Option Addr) (m2 c2 q : Nat) (s2 : PS) (l2 : List Nd), x = .slice ao m2 c2 ∧ Hid (OcAt w0 w wr b L (.slice ao0 m c0) (.slice ao m2 c2) m2 s2 l2 R mulOps U q N))
    (fun _ wr => lenW b wr)
  case atStart => exact ⟨ao1, m1, c1, N, s1, l1, rfl, H0⟩
  case round =>
    obtain ⟨ao, m2, c2, q, s2, l2, rfl, hG⟩ := hrel
    clear H0
    have hw := fun t ht => isT_text hG.out.r.x hG.out.r.lt hG.out.r.e (t := t) ht
    have hmore := fun t => isT_more hG.out.r.ok (s := s2) (t := t)
    have P := psr_peek w0 wr b L s2 hG.out.r
    have f1 := tok_text (curT L s2)
    unfold tokV at P
    obtain ⟨T, hT⟩ : ∃ T, curT L s2 = T := ⟨_, rfl⟩
    have HT := Lib.hid hT
    rw [hT] at P hw f1
    obtain ⟨kd, tt, p⟩ := T
    simp only at P hw f1
    have HW := Lib.hid (And.intro hw hmore)
    clear hT hw hmore
    go_wp2_with fail
    refine P.mono ?_
    rintro e3 w3 hr
    obtain ⟨rfl, H3⟩ := hr.out1
    clear hr P
    have hG0 := Lib.hid (hG.out.keep H3.out.1 H3.out.2)
    have hWR0 : Hid (lenW b w3 = lenW b wr) := Lib.hid (by rw [H3.out.1.len, hG.out.r.len])
    clear H3
    by_cases hk0 : tt = [42]
    · subst hk0
      have y1 := tx_list [42]
      have hB0 : isT L s2 [42] = true := by rw [HW.out.1 [42] (by decide)]; simp
      have hk : whichT L s2 mulOps = some 7 := by
        unfold mulOps whichT
        rw [if_pos hB0]
      have hmore := HW.out.2 _ hB0 hG0.out.r.lt
      have HS := Lib.hid (hG0.out.sign hk)
      have HK := Lib.hid hk
      clear hk
      clear hB0
      go_wp2_with fail
      refine (B.out w3 s2 _ m2 l2 7 hG0.out.r hG0.out.o hmore HS.out.1 HS.out.2.1).mono ?_
      rintro e5 w5 ⟨cc5, ⟨h5, ao5, m5, c5, rfl, o5, r5, f5⟩ | ⟨h5, rfl⟩⟩
      · obtain ⟨q', N1, hms⟩ := hG0.out.next GP.out.1 GP.out.2 HK.out o5 r5 cc5 f5
        have HN1 := Lib.hid (And.intro N1 hms)
        clear o5 r5 cc5 f5 N1 hms
        go_wp2_with fail
        exact ⟨⟨ao5, m5, c5, q', _, _, rfl, Lib.hid HN1.out.1⟩, by rw [← hWR0.out]; exact HN1.out.2⟩
      · have FE := Lib.hid (hG0.out.fell HK.out cc5 h5)
        go_wp2_with fail
        exact ⟨rfl, FE.out⟩
    have hn0 : (tt == [42]) = false := by simpa using hk0
    by_cases hk1 : tt = [47]
    · subst hk1
      have y1 := tx_list [47]
      have hB1 : isT L s2 [47] = true := by rw [HW.out.1 [47] (by decide)]; simp
      have hB0 : isT L s2 [42] = false := by rw [HW.out.1 [42] (by decide)]; simp
      have hk : whichT L s2 mulOps = some 8 := by
        unfold mulOps whichT
        rw [hB0, if_neg (by simp)]
        unfold whichT
        rw [if_pos hB1]
      have hmore := HW.out.2 _ hB1 hG0.out.r.lt
      have HS := Lib.hid (hG0.out.sign hk)
      have HK := Lib.hid hk
      clear hk
      clear hB0 hB1
      go_wp2_with fail
      refine (B.out w3 s2 _ m2 l2 8 hG0.out.r hG0.out.o hmore HS.out.1 HS.out.2.1).mono ?_
      rintro e5 w5 ⟨cc5, ⟨h5, ao5, m5, c5, rfl, o5, r5, f5⟩ | ⟨h5, rfl⟩⟩
      · obtain ⟨q', N1, hms⟩ := hG0.out.next GP.out.1 GP.out.2 HK.out o5 r5 cc5 f5
        have HN1 := Lib.hid (And.intro N1 hms)
        clear o5 r5 cc5 f5 N1 hms
        go_wp2_with fail
        exact ⟨⟨ao5, m5, c5, q', _, _, rfl, Lib.hid HN1.out.1⟩, by rw [← hWR0.out]; exact HN1.out.2⟩
      · have FE := Lib.hid (hG0.out.fell HK.out cc5 h5)
        go_wp2_with fail
        exact ⟨rfl, FE.out⟩
    have hn1 : (tt == [47]) = false := by simpa using hk1
    by_cases hk2 : tt = [37]
    · subst hk2
      have y1 := tx_list [37]
      have hB2 : isT L s2 [37] = true := by rw [HW.out.1 [37] (by decide)]; simp
      have hB0 : isT L s2 [42] = false := by rw [HW.out.1 [42] (by decide)]; simp
      have hB1 : isT L s2 [47] = false := by rw [HW.out.1 [47] (by decide)]; simp
      have hk : whichT L s2 mulOps = some 9 := by
        unfold mulOps whichT
        rw [hB0, if_neg (by simp)]
        unfold whichT
        rw [hB1, if_neg (by simp)]
        unfold whichT
        rw [if_pos hB2]
      have hmore := HW.out.2 _ hB2 hG0.out.r.lt
      have HS := Lib.hid (hG0.out.sign hk)
      have HK := Lib.hid hk
      clear hk
      clear hB0 hB1 hB2
      go_wp2_with fail
      refine (B.out w3 s2 _ m2 l2 9 hG0.out.r hG0.out.o hmore HS.out.1 HS.out.2.1).mono ?_
      rintro e5 w5 ⟨cc5, ⟨h5, ao5, m5, c5, rfl, o5, r5, f5⟩ | ⟨h5, rfl⟩⟩
      · obtain ⟨q', N1, hms⟩ := hG0.out.next GP.out.1 GP.out.2 HK.out o5 r5 cc5 f5
        have HN1 := Lib.hid (And.intro N1 hms)
        clear o5 r5 cc5 f5 N1 hms
        go_wp2_with fail
        exact ⟨⟨ao5, m5, c5, q', _, _, rfl, Lib.hid HN1.out.1⟩, by rw [← hWR0.out]; exact HN1.out.2⟩
      · have FE := Lib.hid (hG0.out.fell HK.out cc5 h5)
        go_wp2_with fail
        exact ⟨rfl, FE.out⟩
    have hn2 : (tt == [37]) = false := by simpa using hk2
    have hk : whichT L s2 mulOps = none := by
      unfold mulOps whichT
      rw [HW.out.1 [42] (by decide), decide_eq_false hk0, if_neg (by simp)]
      unfold whichT
      rw [HW.out.1 [47] (by decide), decide_eq_false hk1, if_neg (by simp)]
      unfold whichT
      rw [HW.out.1 [37] (by decide), decide_eq_false hk2, if_neg (by simp)]
      rfl
    have y1 := tx_list tt
    have HD := Lib.hid (hG0.out.done hk)
    clear hk
    go_wp2_with fail
    go_ret
    exact HD.out

set_option maxHeartbeats 2000000 in
theorem csum_walk (U : EX) (w0 : World) (b : Nat) (L : List Tk) (N : Nat) (hG : ∀ s l, Goes L s (U s l).2) (hP : PotOk L U) (K : ExC 181 U w0 b L N) :
    ExC 164 (opT L addOps U N) w0 b L N := by
  intro w s v m l hr ho hn hp
  have P := K w s v m l hr ho hn hp
  obtain ⟨R, hR⟩ : ∃ R, opT L addOps U N s l = R := ⟨_, rfl⟩
  rw [hR]
  change opLoop L addOps U N (U s l).2 (U s l).1 = R at hR
  have hx := And.intro ((hG s l).lt hr.lt) (And.intro ((hG s l).rem) (hP s l hr.lt))
  obtain ⟨⟨l1, s1⟩, hq⟩ : ∃ q, U s l = q := ⟨_, rfl⟩
  rw [hq] at P hR hx
  have HX := Lib.hid hx
  have HR := Lib.hid hR
  have HN := Lib.hid (And.intro hn hp)
  have B := Lib.hid (fun w s v m l k h1 h2 h3 h4 h5 => binary_walk 181 U w0 b L N hP K (by intro args w; rfl) w s v m l k h1 h2 h3 h4 h5)
  have GP := Lib.hid (And.intro hG hP)
  obtain ⟨ao0, c0, rfl⟩ := ho.shape
  clear hr ho hn hp hR hG hP K hq hx
  go_enter Tryz.func164, Tryz.ntmps164
  go_wp2_with fail
  go_step3
  go_wp2_with fail
  refine P.mono ?_
  rintro e1 w1 ⟨cc, ⟨h0, ao1, m1, c1, rfl, o1, r1, f1⟩ | ⟨h0, rfl⟩⟩
  case inr =>
    clear P B
    go_wp2_with fail
    have hR := HR.out
    rw [opLoop_err h0] at hR
    rw [← hR]
    exact ⟨rfl, cc, .inr ⟨h0, rfl⟩⟩
  have H0 : Hid (OcAt w0 w w1 b L (.slice ao0 m c0) (.slice ao1 m1 c1) m1 s1 l1 R addOps U N N) := Lib.hid
    ⟨r1, o1, cc, f1, HR.out, by have := HX.out.2.1; have := HN.out.1; simp only at *; omega, by have := HX.out.2.1; have := HN.out.1; simp only at *; omega, by have := HX.out.2.2; have := HN.out.2; simp only at *; omega⟩
  clear P o1 r1 f1 cc HX HN HR h0
  go_wp2_with fail
  go_step3
  go_wp2_with fail
  go_loopw [1] (fun x wr => ∃ (ao : Option Addr) (m2 c2 q : Nat) (s2 : PS) (l2 : List Nd), x = .slice ao m2 c2 ∧ Hid (OcAt w0 w wr b L (.slice ao0 m c0) (.slice ao m2 c2) m2 s2 l2 R addOps U q N))
    (fun _ wr => lenW b wr)
  case atStart => exact ⟨ao1, m1, c1, N, s1, l1, rfl, H0⟩
  case round =>
    obtain ⟨ao, m2, c2, q, s2, l2, rfl, hG⟩ := hrel
    clear H0
    have hw := fun t ht => isT_text hG.out.r.x hG.out.r.lt hG.out.r.e (t := t) ht
    have hmore := fun t => isT_more hG.out.r.ok (s := s2) (t := t)
    have P := psr_peek w0 wr b L s2 hG.out.r
    have f1 := tok_text (curT L s2)
    unfold tokV at P
    obtain ⟨T, hT⟩ : ∃ T, curT L s2 = T := ⟨_, rfl⟩
    have HT := Lib.hid hT
    rw [hT] at P hw f1
    obtain ⟨kd, tt, p⟩ := T
    simp only at P hw f1
    have HW := Lib.hid (And.intro hw hmore)
    clear hT hw hmore
    go_wp2_with fail
    refine P.mono ?_
    rintro e3 w3 hr
    obtain ⟨rfl, H3⟩ := hr.out1
    clear hr P
    have hG0 := Lib.hid (hG.out.keep H3.out.1 H3.out.2)
    have hWR0 : Hid (lenW b w3 = lenW b wr) := Lib.hid (by rw [H3.out.1.len, hG.out.r.len])
    clear H3
    by_cases hk0 : tt = [43]
    · subst hk0
      have y1 := tx_list [43]
      have hB0 : isT L s2 [43] = true := by rw [HW.out.1 [43] (by decide)]; simp
      have hk : whichT L s2 addOps = some 5 := by
        unfold addOps whichT
        rw [if_pos hB0]
      have hmore := HW.out.2 _ hB0 hG0.out.r.lt
      have HS := Lib.hid (hG0.out.sign hk)
      have HK := Lib.hid hk
      clear hk
      clear hB0
      go_wp2_with fail
      refine (B.out w3 s2 _ m2 l2 5 hG0.out.r hG0.out.o hmore HS.out.1 HS.out.2.1).mono ?_
      rintro e5 w5 ⟨cc5, ⟨h5, ao5, m5, c5, rfl, o5, r5, f5⟩ | ⟨h5, rfl⟩⟩
      · obtain ⟨q', N1, hms⟩ := hG0.out.next GP.out.1 GP.out.2 HK.out o5 r5 cc5 f5
        have HN1 := Lib.hid (And.intro N1 hms)
        clear o5 r5 cc5 f5 N1 hms
        go_wp2_with fail
        exact ⟨⟨ao5, m5, c5, q', _, _, rfl, Lib.hid HN1.out.1⟩, by rw [← hWR0.out]; exact HN1.out.2⟩
      · have FE := Lib.hid (hG0.out.fell HK.out cc5 h5)
        go_wp2_with fail
        exact ⟨rfl, FE.out⟩
    have hn0 : (tt == [43]) = false := by simpa using hk0
    by_cases hk1 : tt = [45]
    · subst hk1
      have y1 := tx_list [45]
      have hB1 : isT L s2 [45] = true := by rw [HW.out.1 [45] (by decide)]; simp
      have hB0 : isT L s2 [43] = false := by rw [HW.out.1 [43] (by decide)]; simp
      have hk : whichT L s2 addOps = some 6 := by
        unfold addOps whichT
        rw [hB0, if_neg (by simp)]
        unfold whichT
        rw [if_pos hB1]
      have hmore := HW.out.2 _ hB1 hG0.out.r.lt
      have HS := Lib.hid (hG0.out.sign hk)
      have HK := Lib.hid hk
      clear hk
      clear hB0 hB1
      go_wp2_with fail
      refine (B.out w3 s2 _ m2 l2 6 hG0.out.r hG0.out.o hmore HS.out.1 HS.out.2.1).mono ?_
      rintro e5 w5 ⟨cc5, ⟨h5, ao5, m5, c5, rfl, o5, r5, f5⟩ | ⟨h5, rfl⟩⟩
      · obtain ⟨q', N1, hms⟩ := hG0.out.next GP.out.1 GP.out.2 HK.out o5 r5 cc5 f5
        have HN1 := Lib.hid (And.intro N1 hms)
        clear o5 r5 cc5 f5 N1 hms
        go_wp2_with fail
        exact ⟨⟨ao5, m5, c5, q', _, _, rfl, Lib.hid HN1.out.1⟩, by rw [← hWR0.out]; exact HN1.out.2⟩
      · have FE := Lib.hid (hG0.out.fell HK.out cc5 h5)
        go_wp2_with fail
        exact ⟨rfl, FE.out⟩
    have hn1 : (tt == [45]) = false := by simpa using hk1
    have hk : whichT L s2 addOps = none := by
      unfold addOps whichT
      rw [HW.out.1 [43] (by decide), decide_eq_false hk0, if_neg (by simp)]
      unfold whichT
      rw [HW.out.1 [45] (by decide), decide_eq_false hk1, if_neg (by simp)]
      rfl
    have y1 := tx_list tt
    have HD := Lib.hid (hG0.out.done hk)
    clear hk
    go_wp2_with fail
    go_ret
    exact HD.out

end Go.Proofs.YtfcfbdemfbkgmaaGreatDoor
