/- The reference's unary, over itself and expr. Numbers and types by name. -/
import Derived.Test.YtlgfijjkbomejaaGreatDoorPaz
import Derived.Deep.Cut
import Derived.Deep.CutBlock
import Derived.Deep.CutRange
/- The reference's expr, over sum. Numbers and types by name. -/
namespace Go.Proofs.YtlgfijjkbomejaaGreatDoor
open Go.RowKit Go.Lib
set_option maxRecDepth 100000

/-- Between two looks for a sign of comparison. -/
structure RelAt (w0 w wr : World) (b n : Nat) (vl : Value) (L : List Tk) (v v1 : Value) (m sg k : Nat) (s : PS) (l : List Nd) : Prop where
  r : Rdr w0 wr b n vl L s
  o : OwnN wr (b + 1) v1 m l
  c : Chg (b :: rowF v) w wr
  f : FromRow w v v1
  d0 : wr.cell? ⟨sg, 0, none⟩ = some (.string (tx [61, 61]))
  d1 : wr.cell? ⟨sg, 1, none⟩ = some (.string (tx [60]))
  d2 : wr.cell? ⟨sg, 2, none⟩ = some (.string (tx [60, 61]))
  g : ∀ j t, j < k → relOps[j]? = some t → isT L s t.1 = false
  ne : sg ≠ b
theorem RelAt.keep {w0 w wr w1 : World} {b n : Nat} {vl : Value} {L : List Tk} {v v1 : Value} {m sg k : Nat} {s : PS} {l : List Nd} (h : RelAt w0 w wr b n vl L v v1 m sg k s l) (hr : Rdr w0 w1 b n vl L s) (hc : Chg [b] wr w1) : RelAt w0 w w1 b n vl L v v1 m sg k s l :=
  ⟨hr, h.o.keep hc, h.c.more h.f hc (fun x hx => .inl (by simpa using hx)), h.f, hc.cell h.d0 (by simpa using h.ne), hc.cell h.d1 (by simpa using h.ne), hc.cell h.d2 (by simpa using h.ne), h.g, h.ne⟩
theorem RelAt.step {w0 w wr : World} {b n : Nat} {vl : Value} {L : List Tk} {v v1 : Value} {m sg k : Nat} {s : PS} {l : List Nd} (h : RelAt w0 w wr b n vl L v v1 m sg k s l) {t : List UInt8 × Int} (ht : relOps[k]? = some t) (hb : isT L s t.1 = false) : RelAt w0 w wr b n vl L v v1 m sg (k + 1) s l :=
  ⟨h.r, h.o, h.c, h.f, h.d0, h.d1, h.d2, fun j u hj hu => by
    rcases Nat.lt_or_ge j k with hlt | hge
    · exact h.g j u hlt hu
    · obtain rfl : j = k := by omega
      rw [ht] at hu
      cases hu
      exact hb, h.ne⟩
theorem rel_none {L : List Tk} {s : PS} (h : ∀ j t, j < 3 → relOps[j]? = some t → isT L s t.1 = false) : whichT L s relOps = none := by
  have h0 := h 0 _ (by decide) rfl
  have h1 := h 1 _ (by decide) rfl
  have h2 := h 2 _ (by decide) rfl
  unfold relOps whichT
  rw [h0, if_neg (by simp)]
  unfold whichT
  rw [h1, if_neg (by simp)]
  unfold whichT
  rw [h2, if_neg (by simp)]
  rfl
theorem rel_some {L : List Tk} {s : PS} {k : Nat} (hk : k < 3) (h : ∀ j t, j < k → relOps[j]? = some t → isT L s t.1 = false) {t : List UInt8 × Int} (ht : relOps[k]? = some t) (hb : isT L s t.1 = true) : whichT L s relOps = some t.2 := by
  rcases (by omega : k = 0 ∨ k = 1 ∨ k = 2) with rfl | rfl | rfl
  · cases ht
    unfold relOps whichT
    rw [if_pos hb]
  · have h0 := h 0 _ (by decide) rfl
    cases ht
    unfold relOps whichT
    rw [h0, if_neg (by simp)]
    unfold whichT
    rw [if_pos hb]
  · have h0 := h 0 _ (by decide) rfl
    have h1 := h 1 _ (by decide) rfl
    cases ht
    unfold relOps whichT
    rw [h0, if_neg (by simp)]
    unfold whichT
    rw [h1, if_neg (by simp)]
    unfold whichT
    rw [if_pos hb]

theorem expr_walk (U : EX) (w0 : World) (b n : Nat) (vl : Value) (L : List Tk) (N : Nat) (hL : TokL L) (hG : ∀ s l, Goes L s (sumT L U N s l).2) (hP : PotOk L (sumT L U N)) (K : ExK 180 (sumT L U N) w0 b n vl L N) :
    ExK 163 (exprT L U N) w0 b n vl L N := by
  intro w s v m l hr ho hn hp hd
  have P := K w s v m l hr ho hn hp hd
  obtain ⟨R, hR⟩ : ∃ R, exprT L U N s l = R := ⟨_, rfl⟩
  rw [hR]
  unfold exprT at hR
  simp only at hR
  have hx := And.intro ((hG s l).lt hr.lt) (And.intro ((hG s l).rem) (And.intro (hP s l hr.lt) ((hG s l).dok hd)))
  obtain ⟨ao0, c0, rfl⟩ := ho.shape
  generalize sumT L U N = S at *
  obtain ⟨⟨l1, s1⟩, hq⟩ : ∃ q, S s l = q := ⟨_, rfl⟩
  rw [hq] at P hR hx
  have HX := Lib.hid hx
  clear hq hx
  have HGP := Lib.hid (And.intro hL (And.intro hG (And.intro hP K)))
  have HN := Lib.hid (And.intro hn hp)
  have HR := Lib.hid hR
  clear hr ho hn hp hd hR hG hP K hL
  go_enter Tryz.func163, Tryz.ntmps163
  go_wp2_with fail
  refine P.mono ?_
  rintro e1 w1 ⟨ao1, m1, c1, rfl, ho1, hr1, hc1, hf1⟩
  have H0' : RelAt w0 w (w1.alloc (.cells #[.string ⟨#[61, 61]⟩, .string ⟨#[60]⟩, .string ⟨#[60, 61]⟩] 9)) b n vl L (.slice ao0 m c0) (.slice ao1 m1 c1) m1 w1.heap.size 0 s1 l1 := by
    have hc2 : Chg [b] w1 (w1.alloc (.cells #[.string ⟨#[61, 61]⟩, .string ⟨#[60]⟩, .string ⟨#[60, 61]⟩] 9)) := (Chg.refl _ _).alloc _
    have hnew := heap_alloc_new w1 (.cells #[.string ⟨#[61, 61]⟩, .string ⟨#[60]⟩, .string ⟨#[60, 61]⟩] 9)
    exact ⟨hr1.chg (F := []) ((Chg.refl _ _).alloc _) (fun x hx => by cases hx) (hr1.r.chg (F := []) ((Chg.refl _ _).alloc _) (by simp)) hr1.lt hr1.deep, ho1.keep hc2, hc1.more hf1 hc2 (fun x hx => .inl (by simpa using hx)), hf1, cellsN hnew 0 _ rfl, cellsN hnew 1 _ rfl, cellsN hnew 2 _ rfl, fun j t hj => absurd hj (Nat.not_lt_zero _), by have := hr1.blt; omega⟩
  have H0 := Lib.hid H0'
  clear P ho1 hr1 hc1 hf1 H0'
  go_wp2_with fail
  generalize w1.alloc (.cells #[.string ⟨#[61, 61]⟩, .string ⟨#[60]⟩, .string ⟨#[60, 61]⟩] 9) = W1 at *
  generalize w1.heap.size = sg at *
  go_loopw [6, 7, 8] (fun x _ _ wr => ∃ k : Nat, k ≤ 3 ∧ x = .int .i64 k ∧ Hid (RelAt w0 w wr b n vl L (.slice ao0 m c0) (.slice ao1 m1 c1) m1 sg k s1 l1))
    (fun x _ _ _ => 3 - (RowKit.intOf x).toNat)
  case atStart => exact ⟨0, Nat.zero_le _, rfl, H0⟩
  case round =>
    obtain ⟨k, hk, rfl, hA⟩ := hrel
    clear H0
    by_cases hlt : k < 3
    · have h3 : (k : Int) < 3 := by omega
      obtain ⟨⟨t, kk⟩, ht⟩ : ∃ t, relOps[k]? = some t := ⟨_, List.getElem?_eq_getElem (by show k < 3; exact hlt)⟩
      have hkk : kk = 10 + (k : Int) := by
        rcases (by omega : k = 0 ∨ k = 1 ∨ k = 2) with rfl | rfl | rfl <;> (cases ht; rfl)
      have hcell : ∀ wx, RelAt w0 w wx b n vl L (.slice ao0 m c0) (.slice ao1 m1 c1) m1 sg k s1 l1 → wx.cell? ⟨sg, k, none⟩ = some (.string (tx t)) := fun wx h => by
        rcases (by omega : k = 0 ∨ k = 1 ∨ k = 2) with rfl | rfl | rfl <;> cases ht
        · exact h.d0
        · exact h.d1
        · exact h.d2
      have HC := Lib.hid hcell
      have HT := Lib.hid (And.intro ht hkk)
      have hm1 : m1 ≤ 20000 := by have := hA.out.o.1; have := HX.out.2.2.1; have := HN.out.2; omega
      clear hcell ht hkk
      go_wp2_with fail
      refine (rdr_here w0 wr b n vl L s1 hA.out.r).mono ?_
      rintro e3 w3 hr
      obtain ⟨rfl, H3⟩ := hr.out1
      clear hr
      have hA3 := Lib.hid (hA.out.keep H3.out.1 H3.out.2)
      have dd := HC.out w3 hA3.out
      go_wp2_with fail
      refine (rdr_take w0 w3 b n vl L s1 t hA3.out.r).mono ?_
      rintro e4 w4 hr
      obtain ⟨rfl, H4⟩ := hr.out1
      clear hr dd
      cases hB : isT L s1 t with
      | true =>
        rw [takeT, if_pos hB] at H4
        have HW := Lib.hid (rel_some hlt hA.out.g HT.out.1 hB)
        have HE := Lib.hid (isT_e hB).1
        have hrg : Hid (remT L s1.go < remT L s1) := Lib.hid (rem_go HE.out hA.out.r.lt)
        go_wp2_with fail
        refine (HGP.out.2.2.2 w4 s1.go _ m1 l1 H4.out.1 (hA3.out.o.keep H4.out.2) (by have := HX.out.2.1; have := HN.out.1; have := hrg.out; omega) (by have := HX.out.2.2.1; have := HN.out.2; have := hrg.out; omega) HX.out.2.2.2).mono ?_
        rintro e5 w5 ⟨ao5, m5, c5, rfl, o5, r5, cc5, f5⟩
        have hm5 : m5 ≤ 20000 := by have := o5.1; have := HGP.out.2.2.1 s1.go l1 H4.out.1.lt; have := HX.out.2.2.1; have := HN.out.2; have := hrg.out; omega
        have H5 := Lib.hid (And.intro o5 (And.intro r5 (And.intro cc5 f5)))
        clear o5 r5 cc5 f5
        go_wp2_with fail
        refine (ref_two w5 (b + 1) _ m5 _ _ _ _ H5.out.1 (by omega) H5.out.2.1.blt trivial).mono ?_
        rintro e6 w6 ⟨ao6, m6, c6, rfl, o6, cc6, f6⟩
        have hml : ((m1 : Int) - 1) = ((l1.length : Int) - 1) := by rw [hA3.out.o.1]
        rw [hml] at o6
        have H6 := Lib.hid (And.intro o6 (And.intro cc6 f6))
        clear o6 cc6 f6 hml
        go_wp2_with fail
        go_ret
        have hRe := HR.out
        rw [HW.out] at hRe
        simp only at hRe
        rw [← hRe, HT.out.2]
        have g5 : Chg (b :: rowF (.slice ao0 m c0)) w w4 := hA3.out.c.more hA3.out.f H4.out.2 (fun x hx => .inl (by simpa using hx))
        have fw1 := hA3.out.f.trans H5.out.2.2.2 g5.size
        have cw2 := g5.more hA3.out.f H5.out.2.2.1 (fun x hx => List.mem_cons.1 hx)
        have hb3 : ∀ x ∈ rowF (.slice ao5 m5 c5), b < x := fun x hx => (H5.out.1.2.lt x (rowF_mem.1 hx)).1
        exact ⟨ao6, m6, c6, rfl, H6.out.1, H5.out.2.1.chg H6.out.2.1 (fun x hx => Nat.le_of_lt (hb3 x hx)) (H5.out.2.1.r.chg H6.out.2.1 (fun hx => absurd (hb3 b hx) (Nat.lt_irrefl _))) H5.out.2.1.lt H5.out.2.1.deep, cw2.more fw1 H6.out.2.1 (fun x hx => .inr hx), fw1.trans H6.out.2.2 cw2.size⟩
      | false =>
        rw [takeT, hB, if_neg (by simp)] at H4
        have hA4 := Lib.hid ((hA3.out.keep H4.out.1 H4.out.2).step HT.out.1 hB)
        go_wp2_with fail
        exact ⟨⟨k + 1, by omega, by go_num, hA4⟩, by simp [RowKit.intOf]; omega⟩
    · have h3 : ¬ (k : Int) < 3 := by omega
      obtain rfl : k = 3 := by omega
      go_wp2_with fail
      go_ret
      have hRe := HR.out
      rw [rel_none hA.out.g] at hRe
      simp only at hRe
      rw [← hRe]
      exact ⟨ao1, m1, c1, rfl, hA.out.o, hA.out.r, hA.out.c, hA.out.f⟩

end Go.Proofs.YtlgfijjkbomejaaGreatDoor

namespace Go.Proofs.YtlgfijjkbomejaaGreatDoor
open Go.RowKit Go.Lib
set_option maxRecDepth 100000

theorem node_litZ (w : World) (o : Nd) (z : Nat) (hz : z = w.heap.size) : Cells (w.alloc (.cells #[.int .i64 o.kind, .int .i64 o.num, .string (tx o.mod), .string (tx o.name), .int .i64 o.a, .int .i64 o.b, .int .i64 (o.pos : Int)] 244)) (.slice (some ⟨z, 0, none⟩) 1 1) 7 1 (nv o) := by
  subst hz
  exact node_lit w o
theorem cur_mem {L : List Tk} {s : PS} (h : s.i < L.length) : curT L s ∈ L := by
  unfold curT
  rw [List.getD_eq_getElem?_getD, List.getElem?_eq_getElem h]
  exact List.getElem_mem h
/-- A token's own block. -/
structure TokC (w : World) (T : Nat) (t : Tk) : Prop where
  ck : w.cell? ⟨T, 0, none⟩ = some (.int .i64 t.kind)
  ct : w.cell? ⟨T, 1, none⟩ = some (.string (tx t.text))
  cp : w.cell? ⟨T, 2, none⟩ = some (.int .i64 (t.pos : Int))
theorem TokC.chg {w w' : World} {T : Nat} {t : Tk} {F : List Nat} (h : TokC w T t) (hc : Chg F w w') (hT : T ∉ F) : TokC w' T t := ⟨hc.cell h.ck hT, hc.cell h.ct hT, hc.cell h.cp hT⟩

/-- Within unary: the state, the list, the token. -/
structure UnAt (w0 w wr : World) (b n : Nat) (vl : Value) (L : List Tk) (v v1 : Value) (m T : Nat) (t : Tk) (s : PS) (l : List Nd) : Prop where
  r : Rdr w0 wr b n vl L s
  o : OwnN wr (b + 1) v1 m l
  c : Chg (b :: rowF v) w wr
  f : FromRow w v v1
  tk : TokC wr T t
  nb : T ≠ b
  nr : T ∉ rowF v1
theorem UnAt.keep {w0 w wr w1 : World} {b n : Nat} {vl : Value} {L : List Tk} {v v1 : Value} {m T : Nat} {t : Tk} {s s1 : PS} {l : List Nd} (h : UnAt w0 w wr b n vl L v v1 m T t s l) (hr : Rdr w0 w1 b n vl L s1) (hc : Chg [b] wr w1) : UnAt w0 w w1 b n vl L v v1 m T t s1 l :=
  ⟨hr, h.o.keep hc, h.c.more h.f hc (fun x hx => .inl (by simpa using hx)), h.f, h.tk.chg hc (by simpa using h.nb), h.nb, h.nr⟩
/-- Behind a piece that appends nodes. -/
theorem UnAt.after {w0 w wr w1 : World} {b n : Nat} {vl : Value} {L : List Tk} {v v1 v2 : Value} {m m2 T : Nat} {t : Tk} {s s1 : PS} {l l2 : List Nd} (h : UnAt w0 w wr b n vl L v v1 m T t s l) (o2 : OwnN w1 (b + 1) v2 m2 l2) (r2 : Rdr w0 w1 b n vl L s1) (c2 : Chg (b :: rowF v1) wr w1) (f2 : FromRow wr v1 v2) : UnAt w0 w w1 b n vl L v v2 m2 T t s1 l2 :=
  ⟨r2, o2, h.c.more h.f c2 (fun x hx => List.mem_cons.1 hx), h.f.trans f2 h.c.size, h.tk.chg c2 (by simp only [List.mem_cons, not_or]; exact ⟨h.nb, h.nr⟩), h.nb, fun hx => by
    rcases f2.mem hx (F := rowF v1) (fun y hy => hy) with hh | hh
    · exact h.nr hh
    · have := World.block_lt_of_cell? wr _ h.tk.ck
      have : T < wr.heap.size := this
      omega⟩
theorem UnAt.told {w0 w wr : World} {b n : Nat} {vl : Value} {L : List Tk} {v : Value} {ao : Option Addr} {m c T : Nat} {t : Tk} {s : PS} {l : List Nd} (h : UnAt w0 w wr b n vl L v (.slice ao m c) m T t s l) : ExTold w0 w b n vl L v (l, s) (.returned (.slice ao m c)) wr := ⟨ao, m, c, rfl, h.o, h.r, h.c, h.f⟩
/-- A node is appended. -/
theorem UnAt.node {w0 w wr w6 : World} {b n : Nat} {vl : Value} {L : List Tk} {v v1 : Value} {ao6 : Option Addr} {m c6 T : Nat} {t : Tk} {s : PS} {l : List Nd} {o : Obj} (d : Nd) (h : UnAt w0 w wr b n vl L v v1 m T t s l) (h1 : w6.ownsRow (b + 1) 244 7 (.slice ao6 (m + 1) c6) (m + 1) (nvs l ++ nv d)) (h2 : (wr.alloc o).grownBy w6 v1.ownBlock) (h3 : (Value.slice ao6 (m + 1) c6).ownBlock = v1.ownBlock ∨ (Value.slice ao6 (m + 1) c6).ownBlock = some (wr.alloc o).heap.size) :
    ExTold w0 w b n vl L v (l ++ [d], s) (.returned (.slice ao6 (m + 1) c6)) w6 := by
  have c6' : Chg (rowF v1) wr w6 := ((Chg.refl (rowF v1) wr).alloc o).trans' (Chg.of_grown (F := rowF v1) h2 (fun k hk => rowF_mem.2 hk)) fun x hx => .inl hx
  have hb3 : ∀ x ∈ rowF v1, b < x := fun x hx => (h.o.2.lt x (rowF_mem.1 hx)).1
  refine ⟨ao6, m + 1, c6, rfl, ⟨by rw [List.length_append, ← h.o.1]; rfl, by rw [nvs_snoc]; exact h1⟩, h.r.chg c6' (fun x hx => Nat.le_of_lt (hb3 x hx)) (h.r.r.chg c6' (fun hx => absurd (hb3 b hx) (Nat.lt_irrefl _))) h.r.lt h.r.deep, h.c.more h.f c6' (fun x hx => .inr hx), ?_⟩
  refine h.f.trans ?_ h.c.size
  rcases h3 with h3 | h3
  · exact .inl h3
  · exact .inr fun k hk => by
      rw [h3] at hk
      cases hk
      simp

/-- One level back. -/
theorem UnAt.back {w0 w wr : World} {b n : Nat} {vl : Value} {L : List Tk} {v v1 : Value} {m T dp : Nat} {t : Tk} {s : PS} {l : List Nd} (h : UnAt w0 w wr b n vl L v v1 m T t s l) (hd : s.deep = dp + 1) (h9 : dp ≤ 1000) : UnAt w0 w (wr.setCell ⟨b, 2, none⟩ (.int .i64 (dp : Int))) b n vl L v v1 m T t s.shut l := by
  have e : s.shut = { s with deep := dp } := by unfold PS.shut; rw [hd]; rfl
  rw [e]
  exact h.keep (h.r.set2 dp h9) ((Chg.refl [b] wr).set (.inl (by simp)) 2 _)

set_option maxHeartbeats 4000000 in
theorem unary_walk (w0 : World) (b n : Nat) (vl : Value) (L : List Tk) (N : Nat) (hL : TokL L) (KU : ExK 191 (unaryT L N) w0 b n vl L N) (KE : ExK 163 (exprT L (unaryT L N) N) w0 b n vl L N) :
    ExK 191 (unaryT L (N + 1)) w0 b n vl L (N + 1) := by
  intro w s v m l hr ho hn hp hd
  obtain ⟨ao0, c0, rfl⟩ := ho.shape
  obtain ⟨R, hR⟩ : ∃ R, unaryT L (N + 1) s l = R := ⟨_, rfl⟩
  rw [hR]
  unfold unaryT at hR
  simp only at hR
  have HK := Lib.hid (And.intro hL (And.intro KU KE))
  have HN := Lib.hid (And.intro hn (And.intro hp hd))
  have HH := Lib.hid (And.intro hr ho)
  have r3 := hr.r.c3
  have hm : m ≤ 20000 := by have := ho.1; omega
  clear KU KE hL hn hp hd
  by_cases he : s.e = 0
  case neg =>
    rw [if_pos he] at hR
    have he2 : (s.e == 0) = false := by simpa using he
    clear hr ho
    go_enter Tryz.func191, Tryz.ntmps191
    go_wp2_with fail
    go_ret
    rw [← hR]
    exact ⟨ao0, m, c0, rfl, HH.out.2, HH.out.1, Chg.refl _ _, FromRow.refl _ _⟩
  rw [if_neg (by simpa using he)] at hR
  obtain ⟨a, c, rfl, hin, d0, d1, d2⟩ := hr.cur (Grow.refl w)
  obtain ⟨a', c', ea, _, f0, f1, f2⟩ := hr.cur (w1 := w.alloc tok0) ((Below.refl _ w).alloc (Nat.le_refl _) _)
  simp only [Value.slice.injEq, Option.some.injEq] at ea
  obtain ⟨rfl, _, rfl⟩ := ea
  have r0 := hr.r.c0
  have r1 := hr.r.c1
  have hb := hr.blt
  obtain ⟨T, hT⟩ : ∃ T, curT L s = T := ⟨_, rfl⟩
  have HT := Lib.hid hT
  rw [hT] at d0 d1 d2 f0 f1 f2 hR
  obtain ⟨kd, tt, tp⟩ := T
  simp only at d0 d1 d2 f0 f1 f2 hR
  have HR := Lib.hid hR
  have HE := Lib.hid he
  rw [he] at r3
  clear hr ho hT hR he
  go_enter Tryz.func191, Tryz.ntmps191
  go_wp2_with fail
  go_region
  have hC : Chg [] w (w.alloc (.cells #[.int .i64 kd, .string (tx tt), .int .i64 (tp : Int)] 117)).drew := ((Chg.refl [] w).alloc _).drew
  have hnew := heap_alloc_new w (.cells #[.int .i64 kd, .string (tx tt), .int .i64 (tp : Int)] 117)
  have HU : Hid (UnAt w0 w (w.alloc (.cells #[.int .i64 kd, .string (tx tt), .int .i64 (tp : Int)] 117)).drew b n (.slice (some a) n c) L (.slice ao0 m c0) (.slice ao0 m c0) m w.heap.size ⟨kd, tt, tp⟩ s l) := Lib.hid
    ⟨HH.out.1.chg hC (fun x hx => by cases hx) (HH.out.1.r.chg hC (by simp)) HH.out.1.lt HH.out.1.deep, HH.out.2.chg hC (fun k _ hk => by cases hk), hC.mono (fun x hx => by cases hx), FromRow.refl _ _, ⟨cellsN hnew 0 _ rfl, cellsN hnew 1 _ rfl, cellsN hnew 2 _ rfl⟩, by omega, fun hx => by
      have := (HH.out.2.2.lt _ (rowF_mem.1 hx)).2
      omega⟩
  clear hC hnew r0 r1 r3 d0 d1 d2 f0 f1 f2 hin hb HH
  generalize (w.alloc (.cells #[.int .i64 kd, .string (tx tt), .int .i64 (tp : Int)] 117)).drew = W at *
  generalize w.heap.size = T at *
  go_wp2_with fail
  refine (rdr_is w0 W b n _ L s [45] HU.out.r).mono ?_
  rintro e1 w1 hr
  obtain ⟨rfl, H1⟩ := hr.out1
  clear hr
  have HU1 := Lib.hid (HU.out.keep H1.out.1 H1.out.2)
  cases hB0 : isT L s [45] with
  | true =>
    have hT1 := Lib.hid (isT_e hB0).2.2
    rw [HT.out] at hT1
    have htt : tt = [45] := hT1.out
    subst htt
    have ct := HU1.out.tk.ct
    have y1 := tx_list [45]
    try simp only at ct
    go_wp2_with fail
    refine (rdr_open w0 w1 b n _ L s [45] HU1.out.r (by have := HN.out.2.2.1; omega)).mono ?_
    rintro e2 wo hr
    obtain ⟨rfl, Ho⟩ := hr.out1
    clear hr ct
    have HUo := Lib.hid (HU1.out.keep Ho.out.1 Ho.out.2)
    have hrem := rem_open (L := L) (t := [45]) HE.out HU1.out.r.lt
    have hdk := open_dok HK.out.1 (s := s) [45] (by have := HN.out.2.2.2 HE.out; omega)
    have hdp := open_deep HK.out.1 s [45]
    have HOP := Lib.hid (And.intro hrem (And.intro hdk hdp))
    clear hrem hdk hdp
    go_wp2_with fail
    refine (HK.out.2.1 wo _ _ m l HUo.out.r HUo.out.o (by have := HOP.out.1; have := HN.out.1; omega) (by have := HOP.out.1; have := HN.out.2.1; omega) HOP.out.2.1).mono ?_
    rintro e5 w5 ⟨ao5, m5, c5, rfl, o5, r5, cc5, f5⟩
    have hm5 : m5 ≤ 20000 := by have := o5.1; have := unary_pot HK.out.1 N (openT L s [45]) l HUo.out.r.lt; have := HOP.out.1; have := HN.out.2.1; omega
    have H5 := HUo.out.after o5 r5 cc5 f5
    obtain ⟨dp, hdp⟩ : ∃ dp, s.deep = dp := ⟨_, rfl⟩
    have hd5 : (unaryT L N (openT L s [45]) l).2.deep = dp + 1 := (unary_goes HK.out.1 N _ _).deep.trans (HOP.out.2.2.trans (by rw [hdp]))
    have q2 : w5.cell? ⟨b, 2, none⟩ = some (.int .i64 ((dp : Int) + 1)) := by rw [H5.r.r.c2, hd5]; rfl
    have fz := H5.r.r.fz 2
    have hdp9 : dp ≤ 1000 := by have := HN.out.2.2.1; omega
    have H6 := Lib.hid (H5.back hd5 hdp9)
    have hb5 := Lib.hid H5.r.blt
    have cp := H6.out.tk.cp
    clear o5 r5 cc5 f5 H5 hd5 hdp
    have FL : Hid (m5 + 1 ≤ 1000000) := Lib.hid (by omega)
    try simp only at cp
    go_wp2_with (at_builtin; go_loud (refine wpList_append_gen elemNode rfl (.tmp 49) (.tmp 57) rfl (b + 1) _ m5 _ rfl (H6.out.o.2.alloc _) _ 1 (nv ⟨3, 0, [], [], (m5 : Int) - 1, -1, tp⟩) rfl (node_litZ _ ⟨3, 0, [], [], (m5 : Int) - 1, -1, tp⟩ _ (by simp [World.setCell])) (nv_one _) (m5 + 1) rfl FL (by decide) (by have := hb5.out; simp; omega) ?_; intro ao7 c7 w7 hown7 hb7 hg7 ho7; have HA := Lib.hid (And.intro hown7 (And.intro hg7 ho7)); clear hown7 hb7 hg7 ho7))
    go_ret
    have := H6.out.node ⟨3, 0, [], [], (m5 : Int) - 1, -1, tp⟩ HA.out.1 HA.out.2.1 HA.out.2.2
    rw [show (m5 : Int) = ((unaryT L N (openT L s [45]) l).1.length : Int) by rw [H6.out.o.1]] at this
    have hR := HR.out
    rw [if_pos (.inl hB0)] at hR
    rw [← hR]
    exact this
  | false =>
    go_wp2_with fail
    refine (rdr_is w0 w1 b n _ L s [33] HU1.out.r).mono ?_
    rintro e2 w2 hr
    obtain ⟨rfl, H2⟩ := hr.out1
    clear hr
    have HU2 := Lib.hid (HU1.out.keep H2.out.1 H2.out.2)
    cases hB1 : isT L s [33] with
    | true =>
      have hT1 := Lib.hid (isT_e hB1).2.2
      rw [HT.out] at hT1
      have htt : tt = [33] := hT1.out
      subst htt
      have ct := HU2.out.tk.ct
      have y1 := tx_list [33]
      try simp only at ct
      go_wp2_with fail
      refine (rdr_open w0 w2 b n _ L s [33] HU2.out.r (by have := HN.out.2.2.1; omega)).mono ?_
      rintro e2 wo hr
      obtain ⟨rfl, Ho⟩ := hr.out1
      clear hr ct
      have HUo := Lib.hid (HU2.out.keep Ho.out.1 Ho.out.2)
      have hrem := rem_open (L := L) (t := [33]) HE.out HU2.out.r.lt
      have hdk := open_dok HK.out.1 (s := s) [33] (by have := HN.out.2.2.2 HE.out; omega)
      have hdp := open_deep HK.out.1 s [33]
      have HOP := Lib.hid (And.intro hrem (And.intro hdk hdp))
      clear hrem hdk hdp
      go_wp2_with fail
      refine (HK.out.2.1 wo _ _ m l HUo.out.r HUo.out.o (by have := HOP.out.1; have := HN.out.1; omega) (by have := HOP.out.1; have := HN.out.2.1; omega) HOP.out.2.1).mono ?_
      rintro e5 w5 ⟨ao5, m5, c5, rfl, o5, r5, cc5, f5⟩
      have hm5 : m5 ≤ 20000 := by have := o5.1; have := unary_pot HK.out.1 N (openT L s [33]) l HUo.out.r.lt; have := HOP.out.1; have := HN.out.2.1; omega
      have H5 := HUo.out.after o5 r5 cc5 f5
      obtain ⟨dp, hdp⟩ : ∃ dp, s.deep = dp := ⟨_, rfl⟩
      have hd5 : (unaryT L N (openT L s [33]) l).2.deep = dp + 1 := (unary_goes HK.out.1 N _ _).deep.trans (HOP.out.2.2.trans (by rw [hdp]))
      have q2 : w5.cell? ⟨b, 2, none⟩ = some (.int .i64 ((dp : Int) + 1)) := by rw [H5.r.r.c2, hd5]; rfl
      have fz := H5.r.r.fz 2
      have hdp9 : dp ≤ 1000 := by have := HN.out.2.2.1; omega
      have H6 := Lib.hid (H5.back hd5 hdp9)
      have hb5 := Lib.hid H5.r.blt
      have cp := H6.out.tk.cp
      clear o5 r5 cc5 f5 H5 hd5 hdp
      have FL : Hid (m5 + 1 ≤ 1000000) := Lib.hid (by omega)
      try simp only at cp
      go_wp2_with (at_builtin; go_loud (refine wpList_append_gen elemNode rfl (.tmp 49) (.tmp 57) rfl (b + 1) _ m5 _ rfl (H6.out.o.2.alloc _) _ 1 (nv ⟨4, 0, [], [], (m5 : Int) - 1, -1, tp⟩) rfl (node_litZ _ ⟨4, 0, [], [], (m5 : Int) - 1, -1, tp⟩ _ (by simp [World.setCell])) (nv_one _) (m5 + 1) rfl FL (by decide) (by have := hb5.out; simp; omega) ?_; intro ao7 c7 w7 hown7 hb7 hg7 ho7; have HA := Lib.hid (And.intro hown7 (And.intro hg7 ho7)); clear hown7 hb7 hg7 ho7))
      go_ret
      have := H6.out.node ⟨4, 0, [], [], (m5 : Int) - 1, -1, tp⟩ HA.out.1 HA.out.2.1 HA.out.2.2
      rw [show (m5 : Int) = ((unaryT L N (openT L s [33]) l).1.length : Int) by rw [H6.out.o.1]] at this
      have hR := HR.out
      rw [if_pos (.inr hB1)] at hR
      rw [← hR]
      exact this

    | false =>
      go_wp2_with fail
      refine (rdr_is w0 w2 b n _ L s [40] HU2.out.r).mono ?_
      rintro e3 w3 hr
      obtain ⟨rfl, H3⟩ := hr.out1
      clear hr
      have HU3 := Lib.hid (HU2.out.keep H3.out.1 H3.out.2)
      cases hB2 : isT L s [40] with
      | true =>
        have hB2' := hB2
        go_wp2_with fail
        refine (rdr_open w0 w3 b n _ L s [40] HU3.out.r (by have := HN.out.2.2.1; omega)).mono ?_
        rintro e2 wo hr
        obtain ⟨rfl, Ho⟩ := hr.out1
        clear hr
        have HUo := Lib.hid (HU3.out.keep Ho.out.1 Ho.out.2)
        have hrem := rem_open (L := L) (t := [40]) HE.out HU3.out.r.lt
        have hdk := open_dok HK.out.1 (s := s) [40] (by have := HN.out.2.2.2 HE.out; omega)
        have hdp := open_deep HK.out.1 s [40]
        have HOP := Lib.hid (And.intro hrem (And.intro hdk hdp))
        clear hrem hdk hdp
        go_wp2_with fail
        refine (HK.out.2.2 wo _ _ m l HUo.out.r HUo.out.o (by have := HOP.out.1; have := HN.out.1; omega) (by have := HOP.out.1; have := HN.out.2.1; omega) HOP.out.2.1).mono ?_
        rintro e5 w5 ⟨ao5, m5, c5, rfl, o5, r5, cc5, f5⟩
        have H5 := Lib.hid (HUo.out.after o5 r5 cc5 f5)
        clear o5 r5 cc5 f5
        go_wp2_with fail
        refine (rdr_want w0 w5 b n _ L _ [41] H5.out.r).mono ?_
        rintro e6 w6 hr
        obtain ⟨rfl, H6'⟩ := hr.out1
        clear hr
        have H6 := H5.out.keep H6'.out.1 H6'.out.2
        obtain ⟨dp, hdp⟩ : ∃ dp, s.deep = dp := ⟨_, rfl⟩
        have hd6 : (wantT L (exprT L (unaryT L N) N (openT L s [40]) l).2 [41]).deep = dp + 1 := (want_goes HK.out.1 _ _).deep.trans ((expr_goes HK.out.1 (unary_goes HK.out.1 N) N _ _).deep.trans (HOP.out.2.2.trans (by rw [hdp])))
        have q2 : w6.cell? ⟨b, 2, none⟩ = some (.int .i64 ((dp : Int) + 1)) := by rw [H6.r.r.c2, hd6]; rfl
        have fz := H6.r.r.fz 2
        have hdp9 : dp ≤ 1000 := by have := HN.out.2.2.1; omega
        have H7 := Lib.hid (H6.back hd6 hdp9)
        clear H6 hd6 hdp
        go_wp2_with fail
        go_ret
        have hR := HR.out
        rw [if_neg (by rw [hB0, hB1]; simp), if_pos hB2] at hR
        rw [← hR]
        exact H7.out.told

      | false =>
        have hR := HR.out
        rw [if_neg (by rw [hB0, hB1]; simp), if_neg (by rw [hB2]; simp)] at hR
        have ck := HU3.out.tk.ck
        try simp only at ck
        have HR2 := Lib.hid hR
        clear hR
        by_cases hk2 : kd = 2
        · subst hk2
          have hnum := HK.out.1.num _ (cur_mem HU3.out.r.lt) (by rw [HT.out])
          rw [HT.out] at hnum
          obtain ⟨hn9, hdig⟩ := hnum
          have hmore := HK.out.1.more s.i HU3.out.r.lt (by change (curT L s).kind ≠ 0; rw [HT.out]; show (2 : Int) ≠ 0; decide)
          have HU4 := Lib.hid (HU3.out.keep (HU3.out.r.set1 (s.i + 1) hmore) ((Chg.refl [b] w3).set (.inl (by simp)) 1 _))
          have r1 := HU3.out.r.r.c1
          have fz := HU3.out.r.r.fz 1
          have hi9 := HU3.out.r.few
          have hcast : ((s.i + 1 : Nat) : Int) = (s.i : Int) + 1 := by omega
          rw [hcast] at HU4
          have HNM := Lib.hid (And.intro hn9 hdig)
          clear hn9 hdig hmore hcast
          go_upto_region 20 with fail
          generalize w3.setCell ⟨b, 1, none⟩ (.int .i64 ((s.i : Int) + 1)) = w4 at *
          have ct : w4.drew.cell? ⟨T, 1, none⟩ = some (.string (tx tt)) := HU4.out.tk.ct
          have cp : w4.drew.cell? ⟨T, 2, none⟩ = some (.int .i64 (tp : Int)) := HU4.out.tk.cp
          have ct0 : w4.cell? ⟨T, 1, none⟩ = some (.string (tx tt)) := HU4.out.tk.ct
          have cp0 : w4.cell? ⟨T, 2, none⟩ = some (.int .i64 (tp : Int)) := HU4.out.tk.cp
          have HU5 : Hid (UnAt w0 w w4.drew b n (.slice (some a) n c) L (.slice ao0 m c0) (.slice ao0 m c0) m T ⟨2, tt, tp⟩ s.go l) := Lib.hid (HU4.out.keep (HU4.out.r.drewN 1) ((Chg.refl [b] w4).drewN 1))
          have FL : Hid (m + 1 ≤ 1000000) := Lib.hid (by omega)
          have HB5 : Hid (b + 1 ≤ (w4.drew.alloc (.cells #[.int .i64 1, .int .i64 (numV tt : Nat), .string ⟨#[]⟩, .string ⟨#[]⟩, .int .i64 (-1), .int .i64 (-1), .int .i64 (tp : Int)] 244)).heap.size) := Lib.hid (by have := HU4.out.r.blt; simp; omega)
          have HO5 := Lib.hid (HU5.out.o.2.alloc (.cells #[.int .i64 1, .int .i64 (numV tt : Nat), .string ⟨#[]⟩, .string ⟨#[]⟩, .int .i64 (-1), .int .i64 (-1), .int .i64 (tp : Int)] 244))
          have HC5 := Lib.hid (node_lit w4.drew ⟨1, numV tt, [], [], -1, -1, tp⟩)
          clear r1 fz hi9 ck
          go_region_law (first | (refine step_append_gen elemNode rfl (.tmp 88) (.tmp 95) rfl (b + 1) _ m (nvs l) (by simp [Act.eval]) HO5.out _ 1 (nv ⟨1, numV tt, [], [], -1, -1, tp⟩) (by simp [Act.eval]) HC5.out (nv_one _) (m + 1) rfl FL (by decide) HB5.out ?_; intro ao7 c7 w7 hown7 hb7 hg7 ho7) | (go_simp; go_at_call 105; refine (num_any tt HNM.out.1 HNM.out.2 _).mono ?_; rintro e w' ⟨rfl, rfl⟩))
          all_goals
            have HA := Lib.hid (And.intro hown7 (And.intro hg7 ho7))
            clear hown7 hb7 hg7 ho7
            go_wp2_with fail
            go_ret
            have := HU5.out.node ⟨1, numV tt, [], [], -1, -1, tp⟩ HA.out.1 HA.out.2.1 HA.out.2.2
            have hR := HR2.out
            first | rw [if_pos rfl] at hR | rw [if_pos trivial] at hR
            rw [← hR]
            exact this
        have hk2' : (kd == 2) = false := by simpa using hk2
        by_cases hk1 : kd = 1
        · subst hk1
          have cp := HU3.out.tk.cp
          try simp only at cp
          go_wp2_with fail
          refine (rdr_qname w0 w3 b n _ L s HU3.out.r).mono ?_
          rintro e4 w4 hr
          obtain ⟨rfl, H4⟩ := hr.out1
          clear hr cp ck
          have HU4 := Lib.hid (HU3.out.keep H4.out.1 H4.out.2)
          have cp := HU4.out.tk.cp
          try simp only at cp
          have FL : Hid (m + 1 ≤ 1000000) := Lib.hid (by omega)
          go_wp2_with (at_builtin; go_loud (refine wpList_append_gen elemNode rfl (.tmp 106) (.tmp 112) rfl (b + 1) _ m _ rfl (HU4.out.o.2.alloc _) _ 1 (nv ⟨2, 0, (qnameT L s).1.1, (qnameT L s).1.2, -1, -1, tp⟩) rfl (node_lit _ ⟨2, 0, (qnameT L s).1.1, (qnameT L s).1.2, -1, -1, tp⟩) (nv_one _) (m + 1) rfl FL (by decide) (by have := HU4.out.r.blt; simp; omega) ?_; intro ao7 c7 w7 hown7 hb7 hg7 ho7; have HA := Lib.hid (And.intro hown7 (And.intro hg7 ho7)); clear hown7 hb7 hg7 ho7))
          go_ret
          have := HU4.out.node ⟨2, 0, (qnameT L s).1.1, (qnameT L s).1.2, -1, -1, tp⟩ HA.out.1 HA.out.2.1 HA.out.2.2
          have hR := HR2.out
          rw [if_neg (by decide)] at hR
          first | rw [if_pos rfl] at hR | rw [if_pos trivial] at hR
          rw [← hR]
          exact this
        have hk1' : (kd == 1) = false := by simpa using hk1
        go_wp2_with fail
        refine (rdr_fail w0 w3 b n _ L s 11 HU3.out.r).mono ?_
        rintro e4 w4 hr
        obtain ⟨rfl, H4⟩ := hr.out1
        clear hr
        have HU4 := Lib.hid (HU3.out.keep H4.out.1 H4.out.2)
        go_wp2_with fail
        go_ret
        have hR := HR2.out
        rw [if_neg hk2, if_neg hk1] at hR
        rw [← hR]
        exact HU4.out.told


end Go.Proofs.YtlgfijjkbomejaaGreatDoor
