/- The code's pieces that append nodes: what is asked of them; binary. Numbers and types by name. -/
import Derived.Test.YtfcfbdemfbkgmaaDoorPba
import Derived.Deep.Cut
import Derived.Deep.CutBlock
import Derived.Deep.CutRange
import Derived.Test.YtfcfbdemfbkgmaaDoorQpb
/- The reference's unary, over itself and expr. Numbers and types by name. -/
namespace Go.Proofs.YtfcfbdemfbkgmaaDoor
open Go.RowKit Go.Lib
set_option maxRecDepth 100000

theorem node_litZ (w : World) (o : Nd) (z : Nat) (hz : z = w.heap.size) : Cells (w.alloc (.cells #[.int .i64 o.kind, .int .i64 o.num, .string (tx o.mod), .string (tx o.name), .int .i64 o.a, .int .i64 o.b, .int .i64 (o.pos : Int)] 97)) (.slice (some ⟨z, 0, none⟩) 1 1) 7 1 (nv o) := by
  subst hz
  exact node_lit w o
theorem cur_mem {L : List Tk} {s : PS} (h : s.i < L.length) : curT L s ∈ L := by
  unfold curT
  rw [List.getD_eq_getElem?_getD, List.getElem?_eq_getElem h]
  exact List.getElem_mem h
/-- A token's own block. -/
structure TokC (w : World) (T : Nat) (t : Tk) : Prop where
  ck : w.cell? ⟨T, 0, none⟩ = some (.int .i64 t.kind)
  ct : w.cell? ⟨T, 1, none⟩ = some (.string (tx t.text))
  cp : w.cell? ⟨T, 2, none⟩ = some (.int .i64 (t.pos : Int))
theorem TokC.chg {w w' : World} {T : Nat} {t : Tk} {F : List Nat} (h : TokC w T t) (hc : Chg F w w') (hT : T ∉ F) : TokC w' T t := ⟨hc.cell h.ck hT, hc.cell h.ct hT, hc.cell h.cp hT⟩

/-- Within unary: the state, the list, the token. -/
structure UnAt (w0 w wr : World) (b n : Nat) (vl : Value) (L : List Tk) (v v1 : Value) (m T : Nat) (t : Tk) (s : PS) (l : List Nd) : Prop where
  r : Rdr w0 wr b n vl L s
  o : OwnN wr (b + 1) v1 m l
  c : Chg (b :: rowF v) w wr
  f : FromRow w v v1
  tk : TokC wr T t
  nb : T ≠ b
  nr : T ∉ rowF v1
theorem UnAt.keep {w0 w wr w1 : World} {b n : Nat} {vl : Value} {L : List Tk} {v v1 : Value} {m T : Nat} {t : Tk} {s s1 : PS} {l : List Nd} (h : UnAt w0 w wr b n vl L v v1 m T t s l) (hr : Rdr w0 w1 b n vl L s1) (hc : Chg [b] wr w1) : UnAt w0 w w1 b n vl L v v1 m T t s1 l :=
  ⟨hr, h.o.keep hc, h.c.more h.f hc (fun x hx => .inl (by simpa using hx)), h.f, h.tk.chg hc (by simpa using h.nb), h.nb, h.nr⟩
/-- Behind a piece that appends nodes. -/
theorem UnAt.after {w0 w wr w1 : World} {b n : Nat} {vl : Value} {L : List Tk} {v v1 v2 : Value} {m m2 T : Nat} {t : Tk} {s s1 : PS} {l l2 : List Nd} (h : UnAt w0 w wr b n vl L v v1 m T t s l) (o2 : OwnN w1 (b + 1) v2 m2 l2) (r2 : Rdr w0 w1 b n vl L s1) (c2 : Chg (b :: rowF v1) wr w1) (f2 : FromRow wr v1 v2) : UnAt w0 w w1 b n vl L v v2 m2 T t s1 l2 :=
  ⟨r2, o2, h.c.more h.f c2 (fun x hx => List.mem_cons.1 hx), h.f.trans f2 h.c.size, h.tk.chg c2 (by simp only [List.mem_cons, not_or]; exact ⟨h.nb, h.nr⟩), h.nb, fun hx => by
    rcases f2.mem hx (F := rowF v1) (fun y hy => hy) with hh | hh
    · exact h.nr hh
    · have := World.block_lt_of_cell? wr _ h.tk.ck
      have : T < wr.heap.size := this
      omega⟩
theorem UnAt.told {w0 w wr : World} {b n : Nat} {vl : Value} {L : List Tk} {v : Value} {ao : Option Addr} {m c T : Nat} {t : Tk} {s : PS} {l : List Nd} (h : UnAt w0 w wr b n vl L v (.slice ao m c) m T t s l) : ExTold w0 w b n vl L v (l, s) (.returned (.slice ao m c)) wr := ⟨ao, m, c, rfl, h.o, h.r, h.c, h.f⟩
/-- A node is appended. -/
theorem UnAt.node {w0 w wr w6 : World} {b n : Nat} {vl : Value} {L : List Tk} {v v1 : Value} {ao6 : Option Addr} {m c6 T : Nat} {t : Tk} {s : PS} {l : List Nd} {o : Obj} (d : Nd) (h : UnAt w0 w wr b n vl L v v1 m T t s l) (h1 : w6.ownsRow (b + 1) 97 7 (.slice ao6 (m + 1) c6) (m + 1) (nvs l ++ nv d)) (h2 : (wr.alloc o).grownBy w6 v1.ownBlock) (h3 : (Value.slice ao6 (m + 1) c6).ownBlock = v1.ownBlock ∨ (Value.slice ao6 (m + 1) c6).ownBlock = some (wr.alloc o).heap.size) :
    ExTold w0 w b n vl L v (l ++ [d], s) (.returned (.slice ao6 (m + 1) c6)) w6 := by
  have c6' : Chg (rowF v1) wr w6 := ((Chg.refl (rowF v1) wr).alloc o).trans' (Chg.of_grown (F := rowF v1) h2 (fun k hk => rowF_mem.2 hk)) fun x hx => .inl hx
  have hb3 : ∀ x ∈ rowF v1, b < x := fun x hx => (h.o.2.lt x (rowF_mem.1 hx)).1
  refine ⟨ao6, m + 1, c6, rfl, ⟨by rw [List.length_append, ← h.o.1]; rfl, by rw [nvs_snoc]; exact h1⟩, h.r.chg c6' (fun x hx => Nat.le_of_lt (hb3 x hx)) (h.r.r.chg c6' (fun hx => absurd (hb3 b hx) (Nat.lt_irrefl _))) h.r.lt h.r.deep, h.c.more h.f c6' (fun x hx => .inr hx), ?_⟩
  refine h.f.trans ?_ h.c.size
  rcases h3 with h3 | h3
  · exact .inl h3
  · exact .inr fun k hk => by
      rw [h3] at hk
      cases hk
      simp

/-- One level back. -/
theorem UnAt.back {w0 w wr : World} {b n : Nat} {vl : Value} {L : List Tk} {v v1 : Value} {m T dp : Nat} {t : Tk} {s : PS} {l : List Nd} (h : UnAt w0 w wr b n vl L v v1 m T t s l) (hd : s.deep = dp + 1) (h9 : dp ≤ 1000) : UnAt w0 w (wr.setCell ⟨b, 2, none⟩ (.int .i64 (dp : Int))) b n vl L v v1 m T t s.shut l := by
  have e : s.shut = { s with deep := dp } := by unfold PS.shut; rw [hd]; rfl
  rw [e]
  exact h.keep (h.r.set2 dp h9) ((Chg.refl [b] wr).set (.inl (by simp)) 2 _)

end Go.Proofs.YtfcfbdemfbkgmaaDoor

namespace Go.Proofs.YtfcfbdemfbkgmaaDoor
open Go.RowKit Go.Lib
set_option maxRecDepth 100000

/-- What a piece of the parser that appends nodes leaves. -/
def ExEnd (w0 w : World) (b : Nat) (L : List Tk) (v : Value) (r : List Nd × PS) (e : Ending) (w' : World) : Prop :=
  Chg (b :: rowF v) w w' ∧ ((r.2.e = 0 ∧ ∃ ao m c, e = .returned (.slice ao m c) ∧ OwnN w' (b + 1) (.slice ao m c) m r.1 ∧ Psr w0 w' b L r.2 ∧ FromRow w v (.slice ao m c)) ∨ (r.2.e ≠ 0 ∧ e = Pnk r.2))
/-- What is asked of such a piece. -/
def ExC (f : FuncId) (U : EX) (w0 : World) (b : Nat) (L : List Tk) (N : Nat) : Prop :=
  ∀ (w : World) (s : PS) (v : Value) (m : Nat) (l : List Nd), Psr w0 w b L s → OwnN w (b + 1) v m l → remT L s < N → l.length + remT L s ≤ 20000 →
    Calls Tryd.prog f #[.pointer (some ⟨b, 0, none⟩), v] w (ExEnd w0 w b L v (U s l))
/-- A function that is entered when it is called. -/
def Enters (f : FuncId) : Prop := ∀ (args : Array Value) (w : World), (callFunc f args).run Tryd.prog w = .ok (.enter f args) w

/-- A node's own block. -/
def nodeO (o : Nd) : Obj := .cells #[.int .i64 o.kind, .int .i64 o.num, .string (tx o.mod), .string (tx o.name), .int .i64 o.a, .int .i64 o.b, .int .i64 (o.pos : Int)] 97
def tokO (t : Tk) : Obj := .cells #[.int .i64 t.kind, .string (tx t.text), .int .i64 (t.pos : Int)] 37

/-- Within such a piece: the state, the list, a block of its own. -/
structure EcAt (w0 w wr : World) (b : Nat) (L : List Tk) (v v1 : Value) (m T : Nat) (ob : Obj) (s : PS) (l : List Nd) : Prop where
  r : Psr w0 wr b L s
  o : OwnN wr (b + 1) v1 m l
  c : Chg (b :: rowF v) w wr
  f : FromRow w v v1
  z : wr.heap[T]? = some ob
  nb : b < T
  nr : T ∉ rowF v1
  new : w.heap.size ≤ T
theorem EcAt.keep {w0 w wr w1 : World} {b : Nat} {L : List Tk} {v v1 : Value} {m T : Nat} {ob : Obj} {s s1 : PS} {l : List Nd} (h : EcAt w0 w wr b L v v1 m T ob s l) (hr : Psr w0 w1 b L s1) (hc : Chg [b] wr w1) : EcAt w0 w w1 b L v v1 m T ob s1 l :=
  ⟨hr, h.o.keep hc, h.c.more h.f hc (fun x hx => .inl (by simpa using hx)), h.f, (hc.block T (Array.getElem?_eq_some_iff.1 h.z).1 (by have := h.nb; rw [List.mem_singleton]; omega)).trans h.z, h.nb, h.nr, h.new⟩
theorem EcAt.after {w0 w wr w1 : World} {b : Nat} {L : List Tk} {v v1 v2 : Value} {m m2 T : Nat} {ob : Obj} {s s1 : PS} {l l2 : List Nd} (h : EcAt w0 w wr b L v v1 m T ob s l) (o2 : OwnN w1 (b + 1) v2 m2 l2) (r2 : Psr w0 w1 b L s1) (c2 : Chg (b :: rowF v1) wr w1) (f2 : FromRow wr v1 v2) : EcAt w0 w w1 b L v v2 m2 T ob s1 l2 :=
  ⟨r2, o2, h.c.more h.f c2 (fun x hx => List.mem_cons.1 hx), h.f.trans f2 h.c.size, (c2.block T (Array.getElem?_eq_some_iff.1 h.z).1 (by have := h.nb; simp only [List.mem_cons, not_or]; exact ⟨by omega, h.nr⟩)).trans h.z, h.nb, fun hx => by
    rcases f2.mem hx (F := rowF v1) (fun y hy => hy) with hh | hh
    · exact h.nr hh
    · have := (Array.getElem?_eq_some_iff.1 h.z).1
      omega, h.new⟩
/-- Where it failed. -/
theorem EcAt.fell {w0 w wr w1 : World} {b : Nat} {L : List Tk} {v v1 : Value} {m T : Nat} {ob : Obj} {s : PS} {l : List Nd} (h : EcAt w0 w wr b L v v1 m T ob s l) {F : List Nat} (c2 : Chg F wr w1) (hF : ∀ x ∈ F, x = b ∨ x ∈ rowF v1) {r : List Nd × PS} (he : r.2.e ≠ 0) : ExEnd w0 w b L v r (Pnk r.2) w1 :=
  ⟨h.c.more h.f c2 hF, .inr ⟨he, rfl⟩⟩
theorem EcAt.told {w0 w wr : World} {b : Nat} {L : List Tk} {v : Value} {ao : Option Addr} {m c T : Nat} {ob : Obj} {s : PS} {l : List Nd} (h : EcAt w0 w wr b L v (.slice ao m c) m T ob s l) : ExEnd w0 w b L v (l, s) (.returned (.slice ao m c)) wr := ⟨h.c, .inl ⟨h.r.e, ao, m, c, rfl, h.o, h.r, h.f⟩⟩
/-- A cell of its own block is written. -/
theorem EcAt.field {w0 w wr : World} {b : Nat} {L : List Tk} {v v1 : Value} {m T : Nat} {cs : Array Value} {t : TypeId} {s : PS} {l : List Nd} (h : EcAt w0 w wr b L v v1 m T (.cells cs t) s l) (j : Nat) (x : Value) : EcAt w0 w (wr.setCell ⟨T, j, none⟩ x) b L v v1 m T (.cells (cs.setIfInBounds j x) t) s l := by
  have hc : Chg [T] wr (wr.setCell ⟨T, j, none⟩ x) := (Chg.refl [T] wr).set (.inl (List.mem_singleton.2 rfl)) j x
  exact ⟨h.r.chg hc (fun y hy => by rw [List.mem_singleton] at hy; rw [hy]; exact h.nb), h.o.chg hc (fun k hk hm => by rw [List.mem_singleton] at hm; subst hm; exact h.nr (rowF_mem.2 hk)), h.c.trans' hc (fun y hy => .inr (by rw [List.mem_singleton] at hy; rw [hy]; exact h.new)), h.f, heap_setCell_same wr T j cs t x h.z, h.nb, h.nr, h.new⟩
/-- A node is appended. -/
theorem EcAt.node {w0 w wr w6 : World} {b : Nat} {L : List Tk} {v v1 : Value} {ao6 : Option Addr} {m c6 T : Nat} {ob : Obj} {s : PS} {l : List Nd} {o : Obj} (d : Nd) (h : EcAt w0 w wr b L v v1 m T ob s l) (h1 : w6.ownsRow (b + 1) 97 7 (.slice ao6 (m + 1) c6) (m + 1) (nvs l ++ nv d)) (h2 : (wr.alloc o).grownBy w6 v1.ownBlock) (h3 : (Value.slice ao6 (m + 1) c6).ownBlock = v1.ownBlock ∨ (Value.slice ao6 (m + 1) c6).ownBlock = some (wr.alloc o).heap.size) :
    ExEnd w0 w b L v (l ++ [d], s) (.returned (.slice ao6 (m + 1) c6)) w6 := by
  have c6' : Chg (rowF v1) wr w6 := ((Chg.refl (rowF v1) wr).alloc o).trans' (Chg.of_grown (F := rowF v1) h2 (fun k hk => rowF_mem.2 hk)) fun x hx => .inl hx
  have hb3 : ∀ x ∈ rowF v1, b < x := fun x hx => (h.o.2.lt x (rowF_mem.1 hx)).1
  refine ⟨h.c.more h.f c6' (fun x hx => .inr hx), .inl ⟨h.r.e, ao6, m + 1, c6, rfl, ⟨by rw [List.length_append, ← h.o.1]; rfl, by rw [nvs_snoc]; exact h1⟩, h.r.chg c6' hb3, ?_⟩⟩
  refine h.f.trans ?_ h.c.size
  rcases h3 with h3 | h3
  · exact .inl h3
  · exact .inr fun k hk => by
      rw [h3] at hk
      cases hk
      simp
theorem node_info (o : Nd) : (Tryd.prog.info? 97).map (·.size) = some (#[Value.int .i64 o.kind, .int .i64 o.num, .string (tx o.mod), .string (tx o.name), .int .i64 o.a, .int .i64 o.b, .int .i64 (o.pos : Int)]).size := by
  show _ = some 7
  kernel_rfl

set_option maxHeartbeats 1000000 in
theorem binary_walk (f : FuncId) (U : EX) (w0 : World) (b : Nat) (L : List Tk) (N : Nat) (hP : PotOk L U) (K : ExC f U w0 b L N) (hf : Enters f)
    (w : World) (s : PS) (v : Value) (m : Nat) (l : List Nd) (k : Int) (hr : Psr w0 w b L s) (ho : OwnN w (b + 1) v m l) (hm : s.i + 1 < L.length) (hn : remT L s.go < N) (hp : l.length + remT L s.go + 1 ≤ 20000) :
    Calls Tryd.prog 74 #[.pointer (some ⟨b, 0, none⟩), v, .int .i64 k, .func (.func f) #[.pointer (some ⟨b, 0, none⟩)] #[]] w (ExEnd w0 w b L v (twoT (U s.go l).1 ((l.length : Int) - 1) k (curT L s).pos, (U s.go l).2)) := by
  have P := psr_take w0 w b L s hr hm
  have f2 := tok_pos (curT L s)
  have hpot := hP s.go l hm
  obtain ⟨ao0, c0, rfl⟩ := ho.shape
  have H := Lib.hid (And.intro hr ho)
  have K1 := Lib.hid (fun w v => K w s.go v m l)
  obtain ⟨⟨l2, s2⟩, hq⟩ : ∃ q, U s.go l = q := ⟨_, rfl⟩
  rw [hq] at K1 hpot ⊢
  have HN := Lib.hid (And.intro hn (And.intro hp hpot))
  have hml : m = l.length := ho.1
  have hm2 : m ≤ 20000 := by omega
  have EM := Lib.hid hml
  unfold tokV at P
  generalize (curT L s).pos = p at *
  generalize (curT L s).kind = kd at *
  generalize (curT L s).text = tt at *
  have hf1 : ∀ (args : Array Value) (w : World), (callFunc f args).run Tryd.prog w = .ok (.enter f args) w := hf
  clear hr ho K hn hp hpot hml hf hP hm hq
  go_enter Tryd.func74, Tryd.ntmps74
  go_wp2_with fail
  refine P.mono ?_
  rintro e1 w1 hr
  obtain ⟨rfl, X1⟩ := hr.out1
  clear hr P
  have HA : Hid (EcAt w0 w (w1.alloc (nodeO ⟨k, 0, [], [], (m : Int) - 1, 0, p⟩)) b L (.slice ao0 m c0) (.slice ao0 m c0) m w1.heap.size (nodeO ⟨k, 0, [], [], (m : Int) - 1, 0, p⟩) s.go l) := Lib.hid
    ⟨X1.out.1.chg ((Chg.refl [] w1).alloc _) (fun x hx => by cases hx), (H.out.2.keep X1.out.2).chg ((Chg.refl [] w1).alloc _) (fun k _ hk => by cases hk), (X1.out.2.mono (fun x hx => by rw [List.mem_singleton] at hx; rw [hx]; exact List.mem_cons_self ..)).alloc _, FromRow.refl _ _, heap_alloc_new _ _, X1.out.1.blt, fun hx => by
      have := ((H.out.2.keep X1.out.2).2.lt _ (rowF_mem.1 hx)).2
      omega, X1.out.2.size⟩
  go_wp2_with fail
  refine (K1.out _ _ HA.out.r HA.out.o HN.out.1 (by have := HN.out.2.1; omega)).mono ?_
  clear K1
  rintro e2 w2 ⟨cc, ⟨h0, ao2, m2, c2, rfl, o2, r2, fr2⟩ | ⟨h0, rfl⟩⟩
  · have H2 := Lib.hid (HA.out.after o2 r2 cc fr2)
    have hm2' : m2 ≤ 20000 := by have := o2.1; have := HN.out.2.2; have := HN.out.2.1; simp only at *; omega
    clear cc o2 r2 fr2 HN
    have H3 : Hid (EcAt w0 w (w2.setCell ⟨w1.heap.size, 5, none⟩ (.int .i64 ((m2 : Int) - 1))) b L (.slice ao0 m c0) (.slice ao2 m2 c2) m2 w1.heap.size (nodeO ⟨k, 0, [], [], (m : Int) - 1, (m2 : Int) - 1, p⟩) s2 l2) := Lib.hid (H2.out.field 5 (.int .i64 ((m2 : Int) - 1)))
    have k5 : w2.cell? ⟨w1.heap.size, 5, none⟩ = some (.int .i64 0) := cellsN H2.out.z 5 _ rfl
    have f5 : w2.frozen? ⟨w1.heap.size, 5, none⟩ = false := frozen_of_row _ _ _ _ _ H2.out.z
    have FL : Hid (m2 + 1 ≤ 1000000) := Lib.hid (by omega)
    have hb2 : Hid (b < w2.heap.size) := Lib.hid H2.out.r.blt
    clear H2
    go_wp2_with (first | (refine wpList_load_row rfl 97 (.tmp 9) rfl w1.heap.size rfl _ _ _ _ H3.out.z Tryd.underlying97 rfl (node_info ⟨k, 0, [], [], (m : Int) - 1, (m2 : Int) - 1, p⟩) ?_) | (at_builtin; (refine wpList_append_gen elemNode rfl (.tmp 25) (.tmp 27) rfl (b + 1) _ m2 _ rfl (H3.out.o.2.alloc _) _ 1 (nv ⟨k, 0, [], [], (m : Int) - 1, (m2 : Int) - 1, p⟩) rfl (node_litZ _ ⟨k, 0, [], [], (m : Int) - 1, (m2 : Int) - 1, p⟩ _ (by simp [World.setCell])) (nv_one _) (m2 + 1) rfl FL (by decide) (by have := hb2.out; simp; omega) ?_; intro ao7 c7 w7 hown7 hb7 hg7 ho7; have HA := Lib.hid (And.intro hown7 (And.intro hg7 ho7)); clear hown7 hb7 hg7 ho7)))
    go_ret
    have := H3.out.node ⟨k, 0, [], [], (m : Int) - 1, (m2 : Int) - 1, p⟩ HA.out.1 HA.out.2.1 HA.out.2.2
    rw [show (m2 : Int) = (l2.length : Int) by rw [H3.out.o.1], show (m : Int) = (l.length : Int) by rw [EM.out]] at this
    exact this
  · go_wp2_with fail
    exact ⟨rfl, HA.out.fell cc (fun x hx => List.mem_cons.1 hx) (r := (_, s2)) h0⟩

end Go.Proofs.YtfcfbdemfbkgmaaDoor
