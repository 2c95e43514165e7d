/- Trees of modules in memory: what can be read of them, in blocks of a kind. Numbers and types by name. -/
import Derived.Test.YtfcfbdemfbkgmaaDoorQpf
import Derived.Test.YtfcfbdemfbkgmaaDoorQpd
import Derived.Test.YtfcfbdemfbkgmaaDoorPba
/- The code's comparison, prefix and unary, over what they are asked of; expr. Numbers and types by name. -/
namespace Go.Proofs.YtfcfbdemfbkgmaaDoor
open Go.RowKit Go.Lib
set_option maxRecDepth 100000

set_option maxHeartbeats 2000000 in
theorem ccomp_walk (U : EX) (w0 : World) (b : Nat) (L : List Tk) (N : Nat) (hG : ∀ s l, Goes L s (sumT L U N s l).2) (hP : PotOk L (sumT L U N)) (K : ExC 73 (sumT L U N) w0 b L N) :
    ExC 65 (exprT L U N) w0 b L N := by
  intro w s v m l hr ho hn hp
  have P := K w s v m l hr ho hn hp
  obtain ⟨R, hR⟩ : ∃ R, exprT L U N s l = R := ⟨_, rfl⟩
  rw [hR]
  unfold exprT at hR
  simp only at hR
  have hx := And.intro ((hG s l).lt hr.lt) (And.intro ((hG s l).rem) (hP s l hr.lt))
  have B := Lib.hid (fun w s v m l k h1 h2 h3 h4 h5 => binary_walk 73 (sumT L U N) w0 b L N hP K (by intro args w; rfl) w s v m l k h1 h2 h3 h4 h5)
  generalize sumT L U N = S at *
  obtain ⟨⟨l1, s1⟩, hq⟩ : ∃ q, S s l = q := ⟨_, rfl⟩
  rw [hq] at P hR hx
  have HX := Lib.hid hx
  have HR := Lib.hid hR
  have HN := Lib.hid (And.intro hn hp)
  have GP := Lib.hid (And.intro hG hP)
  obtain ⟨ao0, c0, rfl⟩ := ho.shape
  clear hr ho hn hp hR hG hP K hq hx
  go_enter Tryd.func65, Tryd.ntmps65
  go_wp2_with fail
  refine P.mono ?_
  rintro e1 w1 ⟨cc, ⟨h0, ao1, m1, c1, rfl, o1, r1, f1⟩ | ⟨h0, rfl⟩⟩
  case inr =>
    clear P B
    go_wp2_with fail
    have hR := HR.out
    have hn : whichT L s1 relOps = none := by
      unfold relOps whichT
      rw [isT_err h0, if_neg (by simp)]
      unfold whichT
      rw [isT_err h0, if_neg (by simp)]
      unfold whichT
      rw [isT_err h0, if_neg (by simp)]
      rfl
    rw [hn] at hR
    rw [← hR]
    exact ⟨rfl, cc, .inr ⟨h0, rfl⟩⟩
  have H1 := Lib.hid (And.intro r1 (And.intro o1 (And.intro cc f1)))
  have hw := fun t ht => isT_text r1.x r1.lt r1.e (t := t) ht
  have hmore := fun t => isT_more r1.ok (s := s1) (t := t)
  have P2 := psr_peek w0 w1 b L s1 r1
  clear P o1 r1 f1 cc h0
  have f1 := tok_text (curT L s1)
  unfold tokV at P2
  obtain ⟨T, hT⟩ : ∃ T, curT L s1 = T := ⟨_, rfl⟩
  have HT := Lib.hid hT
  rw [hT] at P2 hw f1
  obtain ⟨kd, tt, p⟩ := T
  simp only at P2 hw f1
  have HW := Lib.hid (And.intro hw hmore)
  clear hT hw hmore
  go_wp2_with fail
  refine P2.mono ?_
  rintro e3 w3 hr
  obtain ⟨rfl, H3⟩ := hr.out1
  have H4 := Lib.hid (And.intro H3.out.1 (And.intro (H1.out.2.1.keep H3.out.2) (And.intro (H1.out.2.2.1.more H1.out.2.2.2 H3.out.2 (fun x hx => .inl (by simpa using hx))) H1.out.2.2.2)))
  clear hr P2 H3 H1
  by_cases hk : whichT L s1 relOps = none
  · have hR := HR.out
    rw [hk] at hR
    simp only at hR
    have hne : ∀ t k, (t, k) ∈ relOps → isT L s1 t = false := fun t k ht => by
      cases hb : isT L s1 t with
      | false => rfl
      | true =>
        exfalso
        revert hk ht
        unfold relOps
        intro hk ht
        simp only [List.mem_cons, Prod.mk.injEq, List.not_mem_nil, or_false] at ht
        unfold whichT at hk
        split at hk
        · cases hk
        rename_i h1
        unfold whichT at hk
        split at hk
        · cases hk
        rename_i h2
        unfold whichT at hk
        split at hk
        · cases hk
        rename_i h3
        rcases ht with ⟨rfl, _⟩ | ⟨rfl, _⟩ | ⟨rfl, _⟩
        · exact h1 hb
        · exact h2 hb
        · exact h3 hb
    have n1 : ¬ tt = [61, 61] := fun e => by have := hne [61, 61] 10 (by decide); rw [HW.out.1 _ (by decide), e] at this; simp at this
    have n2 : ¬ tt = [60] := fun e => by have := hne [60] 11 (by decide); rw [HW.out.1 _ (by decide), e] at this; simp at this
    have n3 : ¬ tt = [60, 61] := fun e => by have := hne [60, 61] 12 (by decide); rw [HW.out.1 _ (by decide), e] at this; simp at this
    have b1 : (tt == [61, 61]) = false := by simpa using n1
    have b2 : (tt == [60]) = false := by simpa using n2
    have b3 : (tt == [60, 61]) = false := by simpa using n3
    have y1 := tx_list tt
    have HD := Lib.hid hR
    clear hk hR hne B GP HX HN
    go_wp2_with fail
    go_ret
    rw [← HD.out]
    exact ⟨H4.out.2.2.1, .inl ⟨H4.out.1.e, ao1, m1, c1, rfl, H4.out.2.1, H4.out.1, H4.out.2.2.2⟩⟩
  · obtain ⟨k, hk2⟩ : ∃ k, whichT L s1 relOps = some k := by
      cases h : whichT L s1 relOps with
      | none => exact absurd h hk
      | some k => exact ⟨k, rfl⟩
    have hR := HR.out
    rw [hk2] at hR
    simp only at hR
    obtain ⟨t, ht⟩ := which_is hk2
    have hmore := HW.out.2 t ht H4.out.1.lt
    have htt : (tt = [61, 61] ∧ k = 10) ∨ (tt = [60] ∧ k = 11) ∨ (tt = [60, 61] ∧ k = 12) := by
      have hw := HW.out.1
      unfold relOps whichT at hk2
      split at hk2
      · rename_i h1
        rw [hw _ (by decide)] at h1
        cases hk2
        exact .inl ⟨of_decide_eq_true h1, rfl⟩
      unfold whichT at hk2
      split at hk2
      · rename_i h1
        rw [hw _ (by decide)] at h1
        cases hk2
        exact .inr (.inl ⟨of_decide_eq_true h1, rfl⟩)
      unfold whichT at hk2
      split at hk2
      · rename_i h1
        rw [hw _ (by decide)] at h1
        cases hk2
        exact .inr (.inr ⟨of_decide_eq_true h1, rfl⟩)
      · cases hk2
    have hrm := rem_go (L := L) H4.out.1.e H4.out.1.lt
    have hS : remT L s1.go < N ∧ l1.length + remT L s1.go + 1 ≤ 20000 := by
      have := HX.out.2.1
      have := HX.out.2.2
      have := HN.out.1
      have := HN.out.2
      first | omega | (simp only at *; omega)
    have HS := Lib.hid (And.intro hmore hS)
    have HD := Lib.hid hR
    clear hk hk2 hR hmore hrm hS ht HX HN GP HR HW HT
    rcases htt with ⟨rfl, rfl⟩ | ⟨rfl, rfl⟩ | ⟨rfl, rfl⟩
    all_goals
      have y1 := tx_list [61, 61]
      have y2 := tx_list [60]
      have y3 := tx_list [60, 61]
      go_wp2_with fail
      refine (B.out w3 s1 _ m1 l1 _ H4.out.1 H4.out.2.1 HS.out.1 HS.out.2.1 HS.out.2.2).mono ?_
      rintro e5 w5 ⟨cc5, ⟨h5, ao5, m5, c5, rfl, o5, r5, f5⟩ | ⟨h5, rfl⟩⟩
      · have HF := Lib.hid (And.intro o5 (And.intro r5 (And.intro (H4.out.2.2.1.more H4.out.2.2.2 cc5 (fun x hx => List.mem_cons.1 hx)) (H4.out.2.2.2.trans f5 H4.out.2.2.1.size))))
        clear o5 r5 cc5 f5
        go_wp2_with fail
        go_ret
        rw [← HD.out]
        exact ⟨HF.out.2.2.1, .inl ⟨h5, ao5, m5, c5, rfl, HF.out.1, HF.out.2.1, HF.out.2.2.2⟩⟩
      · have HF := Lib.hid (H4.out.2.2.1.more H4.out.2.2.2 cc5 (fun x hx => List.mem_cons.1 hx))
        clear cc5
        go_wp2_with fail
        rw [← HD.out]
        exact ⟨rfl, HF.out, .inr ⟨h5, rfl⟩⟩

/-- Within such a piece, without a block of its own. -/
structure EdAt (w0 w wr : World) (b : Nat) (L : List Tk) (v v1 : Value) (m : Nat) (s : PS) (l : List Nd) : Prop where
  r : Psr w0 wr b L s
  o : OwnN wr (b + 1) v1 m l
  c : Chg (b :: rowF v) w wr
  f : FromRow w v v1
theorem EdAt.keep {w0 w wr w1 : World} {b : Nat} {L : List Tk} {v v1 : Value} {m : Nat} {s s1 : PS} {l : List Nd} (h : EdAt w0 w wr b L v v1 m s l) (hr : Psr w0 w1 b L s1) (hc : Chg [b] wr w1) : EdAt w0 w w1 b L v v1 m s1 l :=
  ⟨hr, h.o.keep hc, h.c.more h.f hc (fun x hx => .inl (by simpa using hx)), h.f⟩
theorem EcAt.drew {w0 w wr : World} {b : Nat} {L : List Tk} {v v1 : Value} {m T : Nat} {ob : Obj} {s : PS} {l : List Nd} (h : EcAt w0 w wr b L v v1 m T ob s l) : EcAt w0 w wr.drew b L v v1 m T ob s l :=
  ⟨h.r.chg ((Chg.refl [] wr).drew) (fun x hx => by cases hx), h.o.chg ((Chg.refl [] wr).drew) (fun k _ hk => by cases hk), h.c.drew, h.f, h.z, h.nb, h.nr, h.new⟩
theorem EcAt.ed {w0 w wr : World} {b : Nat} {L : List Tk} {v v1 : Value} {m T : Nat} {ob : Obj} {s : PS} {l : List Nd} (h : EcAt w0 w wr b L v v1 m T ob s l) : EdAt w0 w wr b L v v1 m s l := ⟨h.r, h.o, h.c, h.f⟩
/-- A new block of its own. -/
theorem EcAt.mk' {w0 w : World} {b : Nat} {L : List Tk} {v : Value} {m : Nat} {s : PS} {l : List Nd} (hr : Psr w0 w b L s) (ho : OwnN w (b + 1) v m l) (ob : Obj) : EcAt w0 w (w.alloc ob) b L v v m w.heap.size ob s l :=
  ⟨hr.chg ((Chg.refl [] w).alloc _) (fun x hx => by cases hx), ho.chg ((Chg.refl [] w).alloc _) (fun k _ hk => by cases hk), (Chg.refl _ w).alloc _, FromRow.refl _ _, heap_alloc_new _ _, hr.blt, fun hx => by
      have := (ho.2.lt _ (rowF_mem.1 hx)).2
      omega, Nat.le_refl _⟩
theorem EcAt.after1 {w0 w w1 w2 : World} {b : Nat} {L : List Tk} {v : Value} {m : Nat} {s : PS} {l : List Nd} (hr : Psr w0 w1 b L s) (ho : OwnN w (b + 1) v m l) (hc : Chg [b] w w1) (ob : Obj) (e : w2 = w1.alloc ob) : EcAt w0 w w2 b L v v m w1.heap.size ob s l := by
  subst e
  have ho1 := ho.keep hc
  exact ⟨hr.chg ((Chg.refl [] w1).alloc _) (fun x hx => by cases hx), ho1.chg ((Chg.refl [] w1).alloc _) (fun k _ hk => by cases hk), (hc.mono (fun x hx => by rw [List.mem_singleton] at hx; rw [hx]; exact List.mem_cons_self ..)).alloc _, FromRow.refl _ _, heap_alloc_new _ _, hr.blt, fun hx => by
      have := (ho1.2.lt _ (rowF_mem.1 hx)).2
      omega, hc.size⟩
theorem pnk_shut (s : PS) : Pnk s.shut = Pnk s := rfl
theorem open_words {t : List UInt8} (h : t = [45] ∨ t = [33] ∨ t = [40]) : t ∈ wordsL := by rcases h with rfl | rfl | rfl <;> decide

set_option maxHeartbeats 2000000 in
theorem prefix_walk (w0 : World) (b : Nat) (L : List Tk) (N : Nat) (K : ExC 81 (unaryT L N) w0 b L N)
    (w : World) (s : PS) (v : Value) (m : Nat) (l : List Nd) (k : Int) (hr : Psr w0 w b L s) (ho : OwnN w (b + 1) v m l) (ht : (curT L s).text = [45] ∨ (curT L s).text = [33]) (hn : remT L s < N + 1) (hp : l.length + remT L s ≤ 20000) :
    Calls Tryd.prog 86 #[.pointer (some ⟨b, 0, none⟩), v, .int .i64 k, tokV (curT L s)] w (ExEnd w0 w b L v ((unaryT L N (openT L s (curT L s).text) l).1 ++ [ndK k (((unaryT L N (openT L s (curT L s).text) l).1.length : Int) - 1) (-1) (curT L s).pos], (unaryT L N (openT L s (curT L s).text) l).2.shut)) := by
  have hL := hr.ok
  have hrem := rem_open (L := L) (t := (curT L s).text) hr.e hr.lt
  have hdp := open_deep hL s (curT L s).text
  have hG := fun s l => unary_goes hL N s l
  have hP := unary_pot hL N (openT L s (curT L s).text) l (open_lt hL hr.lt)
  obtain ⟨ao0, c0, rfl⟩ := ho.shape
  have hbl := hr.blt
  have HA := Lib.hid (EcAt.mk' hr ho (tokO (curT L s)))
  have hw : (curT L s).text ∈ wordsL := by rcases ht with h | h <;> rw [h] <;> decide
  have O := Lib.hid (fun w1 h1 => psr_open w0 w1 b L s (curT L s).text h1 hw)
  obtain ⟨⟨l2, s2⟩, hq⟩ : ∃ q, unaryT L N (openT L s (curT L s).text) l = q := ⟨_, rfl⟩
  have K1 := Lib.hid (fun w v => K w (openT L s (curT L s).text) v m l)
  have HG := hG (openT L s (curT L s).text) l
  rw [hq] at K1 hP HG ⊢
  generalize openT L s (curT L s).text = so at *
  have HN := Lib.hid (And.intro hn (And.intro hp (And.intro hrem (And.intro hdp (And.intro hP HG)))))
  have hm2 : m ≤ 20000 := by have := ho.1; omega
  have HD : Hid (s.deep + 1 = so.deep) := Lib.hid hdp.symm
  have hs9 := hr.deep
  unfold tokV
  generalize curT L s = t at *
  obtain ⟨kd, tt, p⟩ := t
  simp only at ht O hw
  unfold tokO at HA
  simp only at HA ⊢
  clear hr ho K hn hp hrem hdp hG hP HG hq hL ht hw
  go_enter Tryd.func86, Tryd.ntmps86
  have ct : (w.alloc (.cells #[.int .i64 kd, .string (tx tt), .int .i64 (p : Int)] 37)).cell? ⟨w.heap.size, 1, none⟩ = some (.string (tx tt)) := cellsN HA.out.z 1 _ rfl
  go_wp2_with fail
  refine (O.out _ HA.out.r).mono ?_
  rintro e1 w1 hr
  rcases hr.out1 with ⟨h0, hv, X⟩ | ⟨h0, rfl, X⟩
  case inr =>
    clear hr
    go_wp2_with fail
    have g := HN.out.2.2.2.2.2.err h0
    subst g
    exact ⟨rfl, HA.out.c.more HA.out.f X.out (fun x hx => .inl (by simpa using hx)), .inr ⟨h0, rfl⟩⟩
  obtain rfl : e1 = _ := hv
  have H1 := Lib.hid (HA.out.keep X.out.1 X.out.2)
  clear hr X O
  go_wp2_with fail
  refine (K1.out _ _ H1.out.r H1.out.o (by have := HN.out.1; have := HN.out.2.2.1; omega) (by have := HN.out.2.1; have := HN.out.2.2.1; omega)).mono ?_
  rintro e2 w2 ⟨cc, ⟨h2, ao2, m2, c2, rfl, o2, r2, f2⟩ | ⟨h2, rfl⟩⟩
  case inr =>
    have HF := Lib.hid (H1.out.c.more H1.out.f cc (fun x hx => List.mem_cons.1 hx))
    clear cc
    go_wp2_with fail
    exact ⟨rfl, HF.out, .inr ⟨h2, rfl⟩⟩
  have H2 := Lib.hid (H1.out.after o2 r2 cc f2)
  have hm2' : m2 ≤ 20000 := by have := o2.1; have := HN.out.2.2.2.2.1; have := HN.out.2.1; have := HN.out.2.2.1; simp only at *; omega
  clear cc o2 r2 f2 K1 H1
  have hsd : 1 ≤ s2.deep := by
    have := HN.out.2.2.2.2.2.deep
    have := HN.out.2.2.2.1
    simp only at *
    omega
  go_wp2_with fail
  refine (psr_shut w0 w2 b L s2 H2.out.r hsd).mono ?_
  rintro e3 w3 hr
  obtain ⟨rfl, X3⟩ := hr.out1
  have H3 := Lib.hid (H2.out.keep X3.out.1 X3.out.2)
  clear hr X3 H2 hsd
  have cp : w3.cell? ⟨w.heap.size, 2, none⟩ = some (.int .i64 (p : Int)) := cellsN H3.out.z 2 _ rfl
  have FL : Hid (m2 + 1 ≤ 1000000) := Lib.hid (by omega)
  have hb3 := Lib.hid H3.out.r.blt
  go_wp2_with (at_builtin; refine wpList_append_gen elemNode rfl (.tmp 18) (.tmp 26) rfl (b + 1) _ m2 _ rfl (H3.out.o.2.alloc _) _ 1 (nv ⟨k, 0, [], [], (m2 : Int) - 1, -1, p⟩) rfl (node_litZ _ ⟨k, 0, [], [], (m2 : Int) - 1, -1, p⟩ _ rfl) (nv_one _) (m2 + 1) rfl FL (by decide) (by have := hb3.out; simp; omega) ?_; intro ao7 c7 w7 hown7 hb7 hg7 ho7; have HA := Lib.hid (And.intro hown7 (And.intro hg7 ho7)); clear hown7 hb7 hg7 ho7)
  go_ret
  have := H3.out.node ⟨k, 0, [], [], (m2 : Int) - 1, -1, p⟩ HA.out.1 HA.out.2.1 HA.out.2.2
  rw [show (m2 : Int) = (l2.length : Int) by rw [H3.out.o.1]] at this
  exact this

end Go.Proofs.YtfcfbdemfbkgmaaDoor

namespace Go.Proofs.YtfcfbdemfbkgmaaDoor
open Go.RowKit Go.Lib
set_option maxRecDepth 100000

/-- A slice's block is of a kind. -/
def BlkP (P : Nat → Prop) (v : Value) : Prop := ∀ a n c, v = .slice (some a) n c → P a.block
theorem BlkP.nil (P : Nat → Prop) (n c : Nat) : BlkP P (.slice none n c) := fun a _ _ h => by cases h
theorem BlkP.mono {P Q : Nat → Prop} {v : Value} (h : BlkP P v) (hq : ∀ k, P k → Q k) : BlkP Q v := fun a n c e => hq _ (h a n c e)
theorem Cells.chg {w w' : World} {v : Value} {size n : Nat} {xs : List Value} {F : List Nat} {P : Nat → Prop} (h : Cells w v size n xs) (hb : BlkP P v) (hc : Chg F w w') (hP : ∀ k, P k → k ∉ F) : Cells w' v size n xs := by
  obtain ⟨ao, cap, rfl, h0, h1, h2, h3⟩ := h
  refine ⟨ao, cap, rfl, h0, h1, h2, fun a ha j u hj => ?_⟩
  have e : (a.add j).block = a.block := by unfold Addr.add; split <;> rfl
  exact hc.cell (h3 a ha j u hj) (by rw [e]; exact hP _ (hb a _ _ (by rw [ha])))

/-- Cells in parts of one size, each read as something. -/
def Parts {α : Type} (size : Nat) (R : α → List Value → Prop) : List α → List Value → Prop
  | [], cs => cs = []
  | a :: l, cs => ∃ c d, cs = c ++ d ∧ c.length = size ∧ R a c ∧ Parts size R l d
theorem Parts.length {α : Type} {size : Nat} {R : α → List Value → Prop} : ∀ {l : List α} {cs : List Value}, Parts size R l cs → cs.length = l.length * size
  | [], cs, h => by
    change cs = [] at h
    simp [h]
  | a :: l, cs, ⟨c, d, e, h1, _, h2⟩ => by
    rw [e, List.length_append, h1, Parts.length h2, List.length_cons, Nat.succ_mul, Nat.add_comm]
theorem Parts.snoc {α : Type} {size : Nat} {R : α → List Value → Prop} {a : α} {c : List Value} (hc : c.length = size) (ha : R a c) : ∀ {l : List α} {cs : List Value}, Parts size R l cs → Parts size R (l ++ [a]) (cs ++ c)
  | [], cs, h => by
    change cs = [] at h
    subst h
    exact ⟨c, [], by simp, hc, ha, rfl⟩
  | x :: l, cs, ⟨c1, d, e, h1, h2, h3⟩ => ⟨c1, d ++ c, by rw [e, List.append_assoc], h1, h2, Parts.snoc hc ha h3⟩
theorem Parts.imp {α : Type} {size : Nat} {R S : α → List Value → Prop} (h : ∀ a c, R a c → S a c) : ∀ {l : List α} {cs : List Value}, Parts size R l cs → Parts size S l cs
  | [], _, hp => hp
  | _ :: _, _, ⟨c, d, e, h1, h2, h3⟩ => ⟨c, d, e, h1, h _ _ h2, Parts.imp h h3⟩
theorem Parts.get {α : Type} {size : Nat} {R : α → List Value → Prop} : ∀ {l : List α} {cs : List Value} {k : Nat} {a : α}, Parts size R l cs → l[k]? = some a → R a ((cs.drop (k * size)).take size) ∧ ((cs.drop (k * size)).take size).length = size
  | [], _, _, _, _, h => by simp at h
  | x :: l, cs, 0, a, ⟨c, d, e, h1, h2, h3⟩, h => by
    simp only [List.getElem?_cons_zero, Option.some.injEq] at h
    subst h
    rw [e, Nat.zero_mul, List.drop_zero, List.take_left' h1]
    exact ⟨h2, h1⟩
  | x :: l, cs, k + 1, a, ⟨c, d, e, h1, h2, h3⟩, h => by
    rw [List.getElem?_cons_succ] at h
    have := Parts.get h3 h
    rw [e, Nat.succ_mul, Nat.add_comm, ← List.drop_drop, List.drop_left' h1]
    exact this
/-- A slice of such parts. -/
def RowsP {α : Type} (w : World) (P : Nat → Prop) (size : Nat) (R : α → List Value → Prop) (v : Value) (n : Nat) (l : List α) : Prop := n = l.length ∧ n ≤ 100000 ∧ BlkP P v ∧ ∃ cs, Cells w v size n cs ∧ Parts size R l cs
theorem RowsP.nil {α : Type} (w : World) (P : Nat → Prop) (size : Nat) (R : α → List Value → Prop) : RowsP w P size R (.slice none 0 0) 0 [] :=
  ⟨rfl, Nat.zero_le _, BlkP.nil _ _ _, [], ⟨none, 0, rfl, by simp, Nat.le_refl _, fun _ => ⟨rfl, rfl⟩, fun a h => by cases h⟩, rfl⟩
theorem RowsP.shape {α : Type} {w : World} {P : Nat → Prop} {size : Nat} {R : α → List Value → Prop} {v : Value} {n : Nat} {l : List α} (h : RowsP w P size R v n l) : ∃ ao c, v = .slice ao n c := by
  obtain ⟨_, _, _, _, ⟨ao, c, rfl, _⟩, _⟩ := h
  exact ⟨ao, c, rfl⟩
theorem RowsP.chg {α : Type} {w w' : World} {P Q : Nat → Prop} {size : Nat} {R S : α → List Value → Prop} {v : Value} {n : Nat} {l : List α} {F : List Nat} (h : RowsP w P size R v n l) (hc : Chg F w w') (hP : ∀ k, P k → k ∉ F) (hQ : ∀ k, P k → Q k) (hR : ∀ a c, R a c → S a c) : RowsP w' Q size S v n l := by
  obtain ⟨h1, h2, h3, cs, h4, h5⟩ := h
  exact ⟨h1, h2, h3.mono hQ, cs, h4.chg h3 hc hP, h5.imp hR⟩

/-- Nodes that are read. -/
def NdV (o : Nd) (c : List Value) : Prop := c = nv o
def NodesP (w : World) (P : Nat → Prop) (v : Value) (n : Nat) (l : List Nd) : Prop := RowsP w P 7 NdV v n l
theorem nodes_parts : ∀ l : List Nd, Parts 7 NdV l (nvs l)
  | [] => rfl
  | o :: l => ⟨nv o, nvs l, by simp [nvs], rfl, rfl, nodes_parts l⟩
theorem OwnN.nodes {w : World} {base : Nat} {v : Value} {n : Nat} {l : List Nd} {P : Nat → Prop} (h : OwnN w base v n l) (hn : n ≤ 100000) (hP : ∀ k, v.ownBlock = some k → P k) : NodesP w P v n l :=
  ⟨h.1, hn, fun a m c e => by
    rcases h.2.2 with ⟨rfl, rfl⟩ | ⟨g, cap, cur, rfl, _⟩
    · cases e
    · simp only [Value.slice.injEq, Option.some.injEq] at e
      obtain ⟨rfl, _⟩ := e
      exact hP g rfl, nvs l, Cells.own h.2 (by decide), nodes_parts l⟩
/-- A list of arguments: one cell, a slice of nodes. -/
def ArgV (w : World) (P : Nat → Prop) (l : List Nd) (c : List Value) : Prop := ∃ v n, c = [v] ∧ NodesP w P v n l
def ArgsP (w : World) (P : Nat → Prop) (v : Value) (n : Nat) (l : List (List Nd)) : Prop := RowsP w P 1 (ArgV w P) v n l
theorem NodesP.chg {w w' : World} {P Q : Nat → Prop} {v : Value} {n : Nat} {l : List Nd} {F : List Nat} (h : NodesP w P v n l) (hc : Chg F w w') (hP : ∀ k, P k → k ∉ F) (hQ : ∀ k, P k → Q k) : NodesP w' Q v n l := RowsP.chg h hc hP hQ fun _ _ h => h
theorem ArgsP.chg {w w' : World} {P Q : Nat → Prop} {v : Value} {n : Nat} {l : List (List Nd)} {F : List Nat} (h : ArgsP w P v n l) (hc : Chg F w w') (hP : ∀ k, P k → k ∉ F) (hQ : ∀ k, P k → Q k) : ArgsP w' Q v n l :=
  RowsP.chg h hc hP hQ fun _ _ ⟨v, n, e, h⟩ => ⟨v, n, e, h.chg hc hP hQ⟩

/-- A statement's cells. -/
def stmHead (h : SH) (vE vA vB vC : Value) : List Value := [.int .i64 h.kind, .int .i64 (h.pos : Int), .string (tx h.mod), .string (tx h.name), .string (tx h.label), .bool h.has, .string (tx h.toMod), .string (tx h.to), vE, vA, vB, vC]
mutual
def StmV (w : World) (P : Nat → Prop) : Stm → List Value → Prop
  | .mk h body els, cs => ∃ vE nE vA nA vB nB vC nC, cs = stmHead h vE vA vB vC ∧ NodesP w P vE nE h.e ∧ ArgsP w P vA nA h.args ∧
    (nB = body.length ∧ nB ≤ 100000 ∧ BlkP P vB ∧ ∃ cb, Cells w vB 12 nB cb ∧ StmsV w P body cb) ∧ (nC = els.length ∧ nC ≤ 100000 ∧ BlkP P vC ∧ ∃ cc, Cells w vC 12 nC cc ∧ StmsV w P els cc)
def StmsV (w : World) (P : Nat → Prop) : List Stm → List Value → Prop
  | [], cs => cs = []
  | s :: r, cs => ∃ c d, cs = c ++ d ∧ c.length = 12 ∧ StmV w P s c ∧ StmsV w P r d
end
theorem stms_parts {w : World} {P : Nat → Prop} : ∀ (l : List Stm) (cs : List Value), StmsV w P l cs ↔ Parts 12 (StmV w P) l cs
  | [], cs => by unfold StmsV; exact Iff.rfl
  | s :: r, cs => by
    unfold StmsV
    constructor
    · rintro ⟨c, d, e, h1, h2, h3⟩
      exact ⟨c, d, e, h1, h2, (stms_parts r d).1 h3⟩
    · rintro ⟨c, d, e, h1, h2, h3⟩
      exact ⟨c, d, e, h1, h2, (stms_parts r d).2 h3⟩
def StmsP (w : World) (P : Nat → Prop) (v : Value) (n : Nat) (l : List Stm) : Prop := RowsP w P 12 (StmV w P) v n l
theorem StmV.iff {w : World} {P : Nat → Prop} {h : SH} {body els : List Stm} {cs : List Value} :
    StmV w P (.mk h body els) cs ↔ ∃ vE nE vA nA vB nB vC nC, cs = stmHead h vE vA vB vC ∧ NodesP w P vE nE h.e ∧ ArgsP w P vA nA h.args ∧ StmsP w P vB nB body ∧ StmsP w P vC nC els := by
  unfold StmV StmsP RowsP
  constructor
  · rintro ⟨vE, nE, vA, nA, vB, nB, vC, nC, e, h1, h2, ⟨b1, b2, b3, cb, b4, b5⟩, ⟨c1, c2, c3, cc, c4, c5⟩⟩
    exact ⟨vE, nE, vA, nA, vB, nB, vC, nC, e, h1, h2, ⟨b1, b2, b3, cb, b4, (stms_parts _ _).1 b5⟩, ⟨c1, c2, c3, cc, c4, (stms_parts _ _).1 c5⟩⟩
  · rintro ⟨vE, nE, vA, nA, vB, nB, vC, nC, e, h1, h2, ⟨b1, b2, b3, cb, b4, b5⟩, ⟨c1, c2, c3, cc, c4, c5⟩⟩
    exact ⟨vE, nE, vA, nA, vB, nB, vC, nC, e, h1, h2, ⟨b1, b2, b3, cb, b4, (stms_parts _ _).2 b5⟩, ⟨c1, c2, c3, cc, c4, (stms_parts _ _).2 c5⟩⟩
mutual
theorem StmV.chg {w w' : World} {P Q : Nat → Prop} {F : List Nat} (hc : Chg F w w') (hP : ∀ k, P k → k ∉ F) (hQ : ∀ k, P k → Q k) : ∀ (s : Stm) (cs : List Value), StmV w P s cs → StmV w' Q s cs
  | .mk h body els, cs, hs => by
    unfold StmV at hs ⊢
    obtain ⟨vE, nE, vA, nA, vB, nB, vC, nC, e, h1, h2, ⟨b1, b2, b3, cb, b4, b5⟩, ⟨c1, c2, c3, cc, c4, c5⟩⟩ := hs
    exact ⟨vE, nE, vA, nA, vB, nB, vC, nC, e, h1.chg hc hP hQ, h2.chg hc hP hQ, ⟨b1, b2, b3.mono hQ, cb, b4.chg b3 hc hP, StmsV.chg hc hP hQ body cb b5⟩, ⟨c1, c2, c3.mono hQ, cc, c4.chg c3 hc hP, StmsV.chg hc hP hQ els cc c5⟩⟩
theorem StmsV.chg {w w' : World} {P Q : Nat → Prop} {F : List Nat} (hc : Chg F w w') (hP : ∀ k, P k → k ∉ F) (hQ : ∀ k, P k → Q k) : ∀ (l : List Stm) (cs : List Value), StmsV w P l cs → StmsV w' Q l cs
  | [], cs, hs => by
    unfold StmsV at hs ⊢
    exact hs
  | s :: r, cs, hs => by
    unfold StmsV at hs ⊢
    obtain ⟨c, d, e, h1, h2, h3⟩ := hs
    exact ⟨c, d, e, h1, StmV.chg hc hP hQ s c h2, StmsV.chg hc hP hQ r d h3⟩
end
theorem StmsP.chg {w w' : World} {P Q : Nat → Prop} {v : Value} {n : Nat} {l : List Stm} {F : List Nat} (h : StmsP w P v n l) (hc : Chg F w w') (hP : ∀ k, P k → k ∉ F) (hQ : ∀ k, P k → Q k) : StmsP w' Q v n l :=
  RowsP.chg h hc hP hQ fun s c hs => StmV.chg hc hP hQ s c hs
theorem StmV.length {w : World} {P : Nat → Prop} {s : Stm} {cs : List Value} (h : StmV w P s cs) : cs.length = 12 := by
  obtain ⟨h0, body, els⟩ := s
  rw [StmV.iff] at h
  obtain ⟨_, _, _, _, _, _, _, _, rfl, _⟩ := h
  rfl

end Go.Proofs.YtfcfbdemfbkgmaaDoor
