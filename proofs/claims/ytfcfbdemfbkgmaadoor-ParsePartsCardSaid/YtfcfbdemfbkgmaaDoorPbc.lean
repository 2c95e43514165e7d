/- The reference's expressions, whole. Numbers and types by name. -/
import Derived.Test.YtfcfbdemfbkgmaaDoorTre
import Derived.Deep.Cut
import Derived.Deep.CutBlock
import Derived.Deep.CutRange
import Derived.Test.YtfcfbdemfbkgmaaDoorQpc
/- The code's unary, over itself and comparison; expr. Numbers and types by name. -/
namespace Go.Proofs.YtfcfbdemfbkgmaaDoor
open Go.RowKit Go.Lib
set_option maxRecDepth 100000

theorem tokO_info (t : Tk) : (Tryd.prog.info? 37).map (·.size) = some (#[Value.int .i64 t.kind, .string (tx t.text), .int .i64 (t.pos : Int)]).size := tok_info t
theorem isT_not {L : List Tk} {s : PS} {t : List UInt8} (hw : isT L s t = decide ((curT L s).text = t)) (h : ¬ (curT L s).text = t) : isT L s t = false := by rw [hw, decide_eq_false h]

set_option maxHeartbeats 4000000 in
theorem cunary_walk (w0 : World) (b : Nat) (L : List Tk) (N : Nat) (hL : TokL L) (KU : ExC 81 (unaryT L N) w0 b L N) (KE : ExC 65 (exprT L (unaryT L N) N) w0 b L N) :
    ExC 81 (unaryT L (N + 1)) w0 b L (N + 1) := by
  intro w s v m l hr ho hn hp
  obtain ⟨ao0, c0, rfl⟩ := ho.shape
  obtain ⟨R, hR⟩ : ∃ R, unaryT L (N + 1) s l = R := ⟨_, rfl⟩
  rw [hR]
  unfold unaryT at hR
  simp only at hR
  have he := hr.e
  rw [if_neg (by rw [he]; simp)] at hR
  have w1' := isT_text hr.x hr.lt he (t := [45]) (by decide)
  have w2' := isT_text hr.x hr.lt he (t := [33]) (by decide)
  have w3' := isT_text hr.x hr.lt he (t := [40]) (by decide)
  have P := psr_peek w0 w b L s hr
  have PX := Lib.hid (fun w v m l k h1 h2 h3 h4 h5 => prefix_walk w0 b L N KU w s v m l k h1 h2 h3 h4 h5)
  have HK := Lib.hid (And.intro hL (And.intro KU KE))
  have HN := Lib.hid (And.intro hn hp)
  have HH := Lib.hid (And.intro hr ho)
  have hm2 : m ≤ 20000 := by have := ho.1; omega
  have hkw := hr.x.word _ (cur_memT hr.lt)
  have NB := Lib.hid (fun w1 h1 => psr_number w0 w1 b L s h1)
  have QN := Lib.hid (fun w1 h1 => psr_qname w0 w1 b L s h1)
  have OP := Lib.hid (fun w1 h1 => psr_open w0 w1 b L s [40] h1 (by decide))
  unfold tokV at P PX
  unfold numQ at NB
  obtain ⟨T, hT⟩ : ∃ T, curT L s = T := ⟨_, rfl⟩
  have HT := Lib.hid hT
  rw [hT] at P hR w1' w2' w3' PX hkw NB
  obtain ⟨kd, tt, p⟩ := T
  simp only at P hR w1' w2' w3' PX hkw NB
  have HR := Lib.hid hR
  have HW := Lib.hid (And.intro w1' (And.intro w2' (And.intro w3' hkw)))
  clear hr ho KU KE hL hn hp hR he w1' w2' w3' hT hkw
  go_enter Tryd.func81, Tryd.ntmps81
  go_wp2_with fail
  refine P.mono ?_
  rintro e1 w1 hr
  obtain ⟨rfl, X1⟩ := hr.out1
  have H1 : Hid (EcAt w0 w (w1.alloc (tokO ⟨kd, tt, p⟩)) b L (.slice ao0 m c0) (.slice ao0 m c0) m w1.heap.size (tokO ⟨kd, tt, p⟩) s l) := Lib.hid (EcAt.after1 X1.out.1 HH.out.2 X1.out.2 _ rfl)
  clear hr X1 P
  unfold tokO at H1
  have ck : (w1.alloc (.cells #[.int .i64 kd, .string (tx tt), .int .i64 (p : Int)] 37)).cell? ⟨w1.heap.size, 0, none⟩ = some (.int .i64 kd) := cellsN H1.out.z 0 _ rfl
  have ct : (w1.alloc (.cells #[.int .i64 kd, .string (tx tt), .int .i64 (p : Int)] 37)).cell? ⟨w1.heap.size, 1, none⟩ = some (.string (tx tt)) := cellsN H1.out.z 1 _ rfl
  by_cases hk2 : kd = 2
  · subst hk2
    have hnw : tt ∉ wordsL := fun hm => by rcases HW.out.2.2.2 hm with h | h <;> exact absurd h (by decide)
    have q1 : isT L s [45] = false := by rw [HW.out.1]; exact decide_eq_false (fun e => hnw (by rw [e]; decide))
    have q2 : isT L s [33] = false := by rw [HW.out.2.1]; exact decide_eq_false (fun e => hnw (by rw [e]; decide))
    have q3 : isT L s [40] = false := by rw [HW.out.2.2.1]; exact decide_eq_false (fun e => hnw (by rw [e]; decide))
    have hR := HR.out
    rw [q1, q2, q3, if_neg (by simp), if_neg (by simp), if_pos rfl] at hR
    have NB2 := NB.out
    rw [if_pos rfl] at NB2
    have NBH := Lib.hid NB2
    have HR2 := Lib.hid hR
    clear NB NB2 hR HR HW PX QN OP HK hnw q1 q2 q3 ct
    go_upto_region 3 with fail
    have HD := Lib.hid H1.out.drew
    have cp : (w1.alloc (.cells #[.int .i64 2, .string (tx tt), .int .i64 (p : Int)] 37)).drew.cell? ⟨w1.heap.size, 2, none⟩ = some (.int .i64 (p : Int)) := cellsN HD.out.z 2 _ rfl
    have FL : Hid (m + 1 ≤ 1000000) := Lib.hid (by omega)
    clear H1 ck
    go_region_law (first | (refine step_append_gen elemNode rfl (.tmp 14) (.tmp 20) rfl (b + 1) _ m (nvs l) (by simp [Act.eval]) (H3.out.o.2.alloc _) _ 1 (nv ⟨1, (numV tt : Nat), [], [], -1, -1, p⟩) (by simp [Act.eval]) (node_lit w3 ⟨1, (numV tt : Nat), [], [], -1, -1, p⟩) (nv_one _) (m + 1) rfl FL (by decide) HB3.out ?_; intro ao7 c7 w7 hown7 hb7 hg7 ho7) | (go_simp; go_at_call 41; refine (NBH.out _ HD.out.r).mono ?_; rintro e3 w3 hr; refine Or.elim hr.out1 ?_ (fun q => absurd HD.out.r.e q.1); rintro ⟨h2, hv, X3⟩; obtain rfl : e3 = _ := hv; clear hr; have H3 := Lib.hid (HD.out.keep X3.out.1 X3.out.2); have cp : w3.cell? ⟨w1.heap.size, 2, none⟩ = some (.int .i64 (p : Int)) := cellsN H3.out.z 2 _ rfl; have HB3 : Hid (b + 1 ≤ (w3.alloc (.cells #[.int .i64 1, .int .i64 (numV tt : Nat), .string ⟨#[]⟩, .string ⟨#[]⟩, .int .i64 (-1), .int .i64 (-1), .int .i64 (p : Int)] 97)).heap.size) := Lib.hid (by have := H3.out.r.blt; simp; omega)))
    all_goals
      have HA := Lib.hid (And.intro hown7 (And.intro hg7 ho7))
      clear hown7 hb7 hg7 ho7
      go_wp2_with fail
      go_ret
      have := H3.out.node ⟨1, (numV tt : Nat), [], [], -1, -1, p⟩ HA.out.1 HA.out.2.1 HA.out.2.2
      rw [← HR2.out]
      exact this
  have hk2' : (kd == 2) = false := by simpa using hk2
  by_cases hk1 : kd = 1
  · subst hk1
    have hnw : tt ∉ wordsL := fun hm => by rcases HW.out.2.2.2 hm with h | h <;> exact absurd h (by decide)
    have q1 : isT L s [45] = false := by rw [HW.out.1]; exact decide_eq_false (fun e => hnw (by rw [e]; decide))
    have q2 : isT L s [33] = false := by rw [HW.out.2.1]; exact decide_eq_false (fun e => hnw (by rw [e]; decide))
    have q3 : isT L s [40] = false := by rw [HW.out.2.2.1]; exact decide_eq_false (fun e => hnw (by rw [e]; decide))
    have hR := HR.out
    rw [q1, q2, q3, if_neg (by simp), if_neg (by simp), if_neg hk2, if_pos rfl] at hR
    have HR2 := Lib.hid hR
    clear NB hR HR HW PX OP HK hnw q1 q2 q3 ct
    go_wp2_with fail
    refine (QN.out _ H1.out.r).mono ?_
    rintro e3 w3 hr
    rcases hr.out1 with ⟨h0, hv, X3⟩ | ⟨h0, rfl, X3⟩
    case inr =>
      have HF := Lib.hid (H1.out.c.more H1.out.f X3.out (fun x hx => .inl (by simpa using hx)))
      clear hr
      go_wp2_with fail
      rw [← HR2.out]
      exact ⟨rfl, HF.out, .inr ⟨h0, rfl⟩⟩
    obtain rfl : e3 = _ := hv
    have H3 := Lib.hid (H1.out.keep X3.out.1 X3.out.2)
    have cp : w3.cell? ⟨w1.heap.size, 2, none⟩ = some (.int .i64 (p : Int)) := cellsN H3.out.z 2 _ rfl
    have FL : Hid (m + 1 ≤ 1000000) := Lib.hid (by omega)
    have hb3 := Lib.hid H3.out.r.blt
    clear hr X3 H1 ck
    go_wp2_with (at_builtin; refine wpList_append_gen elemNode rfl (.tmp 31) (.tmp 37) rfl (b + 1) _ m _ rfl (H3.out.o.2.alloc _) _ 1 (nv ⟨2, 0, (qnameT L s).1.1, (qnameT L s).1.2, -1, -1, p⟩) rfl (node_lit _ ⟨2, 0, (qnameT L s).1.1, (qnameT L s).1.2, -1, -1, p⟩) (nv_one _) (m + 1) rfl FL (by decide) (by have := hb3.out; simp; omega) ?_; intro ao7 c7 w7 hown7 hb7 hg7 ho7; have HA := Lib.hid (And.intro hown7 (And.intro hg7 ho7)); clear hown7 hb7 hg7 ho7)
    go_ret
    have := H3.out.node ⟨2, 0, (qnameT L s).1.1, (qnameT L s).1.2, -1, -1, p⟩ HA.out.1 HA.out.2.1 HA.out.2.2
    rw [← HR2.out]
    exact this
  have hk1' : (kd == 1) = false := by simpa using hk1
  by_cases h45 : tt = [45]
  · subst h45
    have hR := HR.out
    rw [if_pos (.inl (by rw [HW.out.1]; exact decide_eq_true rfl)), if_neg (by decide)] at hR
    have HR2 := Lib.hid hR
    have y1 := tx_list [45]
    clear NB hR HR HW OP HK QN
    go_wp2_with (refine wpList_load_row rfl 37 (.tmp 5) rfl w1.heap.size rfl _ _ _ _ H1.out.z Tryd.underlying37 rfl (tok_info ⟨kd, [45], p⟩) ?_)
    refine (PX.out _ _ m l 3 H1.out.r H1.out.o (by simp) HN.out.1 HN.out.2).mono ?_
    rintro e3 w3 ⟨cc, ⟨h0, ao3, m3, c3, rfl, o3, r3, f3⟩ | ⟨h0, rfl⟩⟩
    · have HF := Lib.hid (And.intro (H1.out.c.more H1.out.f cc (fun x hx => List.mem_cons.1 hx)) (And.intro o3 (And.intro r3 (H1.out.f.trans f3 H1.out.c.size))))
      clear cc o3 r3 f3
      go_wp2_with fail
      go_ret
      rw [← HR2.out]
      exact ⟨HF.out.1, .inl ⟨h0, ao3, m3, c3, rfl, HF.out.2.1, HF.out.2.2.1, HF.out.2.2.2⟩⟩
    · have HF := Lib.hid (H1.out.c.more H1.out.f cc (fun x hx => List.mem_cons.1 hx))
      clear cc
      go_wp2_with fail
      rw [← HR2.out]
      exact ⟨rfl, HF.out, .inr ⟨h0, rfl⟩⟩
  have h45' : (tt == [45]) = false := by simpa using h45
  by_cases h33 : tt = [33]
  · subst h33
    have hR := HR.out
    rw [if_pos (.inr (by rw [HW.out.2.1]; exact decide_eq_true rfl)), if_pos rfl] at hR
    have HR2 := Lib.hid hR
    have y1 := tx_list [33]
    clear NB hR HR HW OP HK QN
    go_wp2_with (refine wpList_load_row rfl 37 (.tmp 5) rfl w1.heap.size rfl _ _ _ _ H1.out.z Tryd.underlying37 rfl (tok_info ⟨kd, [33], p⟩) ?_)
    refine (PX.out _ _ m l 4 H1.out.r H1.out.o (by simp) HN.out.1 HN.out.2).mono ?_
    rintro e3 w3 ⟨cc, ⟨h0, ao3, m3, c3, rfl, o3, r3, f3⟩ | ⟨h0, rfl⟩⟩
    · have HF := Lib.hid (And.intro (H1.out.c.more H1.out.f cc (fun x hx => List.mem_cons.1 hx)) (And.intro o3 (And.intro r3 (H1.out.f.trans f3 H1.out.c.size))))
      clear cc o3 r3 f3
      go_wp2_with fail
      go_ret
      rw [← HR2.out]
      exact ⟨HF.out.1, .inl ⟨h0, ao3, m3, c3, rfl, HF.out.2.1, HF.out.2.2.1, HF.out.2.2.2⟩⟩
    · have HF := Lib.hid (H1.out.c.more H1.out.f cc (fun x hx => List.mem_cons.1 hx))
      clear cc
      go_wp2_with fail
      rw [← HR2.out]
      exact ⟨rfl, HF.out, .inr ⟨h0, rfl⟩⟩
  have h33' : (tt == [33]) = false := by simpa using h33
  have y1 := tx_list tt
  have hR := HR.out
  rw [if_neg (by rw [HW.out.1, HW.out.2.1, decide_eq_false h45, decide_eq_false h33]; simp), if_neg hk2, if_neg hk1] at hR
  clear NB HR PX QN
  go_wp2_with fail
  refine (OP.out _ H1.out.r).mono ?_
  rintro e3 w3 hr
  by_cases h40 : isT L s [40] = true
  · rw [if_pos h40] at hR
    have HR2 := Lib.hid hR
    have hrem := rem_open (L := L) (t := [40]) H1.out.r.e H1.out.r.lt
    have hdp := open_deep HK.out.1 s [40]
    have hge : ∀ s l, Goes L s (exprT L (unaryT L N) N s l).2 := fun s l => expr_goes HK.out.1 (unary_goes HK.out.1 N) N s l
    have HO := Lib.hid (And.intro hrem (And.intro hdp hge))
    rcases hr.out1 with ⟨h0, hv, X3⟩ | ⟨h0, rfl, X3⟩
    case inr =>
      have HF := Lib.hid (H1.out.c.more H1.out.f X3.out (fun x hx => .inl (by simpa using hx)))
      have hx := (HO.out.2.2 (openT L s [40]) l).err h0
      have hy := (want_goes HK.out.1 (openT L s [40]) [41]).err h0
      clear hr hR hrem hdp hge
      go_wp2_with fail
      rw [← HR2.out, hx, hy]
      exact ⟨rfl, HF.out, .inr ⟨h0, rfl⟩⟩
    obtain rfl : e3 = _ := hv
    have H3 := Lib.hid (H1.out.keep X3.out.1 X3.out.2)
    clear hr hR X3 H1 hrem hdp hge ck ct
    go_wp2_with fail
    refine (HK.out.2.2 _ _ _ m l H3.out.r H3.out.o (by have := HO.out.1; have := HN.out.1; omega) (by have := HO.out.1; have := HN.out.2; omega)).mono ?_
    obtain ⟨⟨l4, s4⟩, hq⟩ : ∃ q, exprT L (unaryT L N) N (openT L s [40]) l = q := ⟨_, rfl⟩
    have HG4 := HO.out.2.2 (openT L s [40]) l
    have hR := HR2.out
    rw [hq] at HG4 hR ⊢
    have HR3 := Lib.hid hR
    have HG := Lib.hid HG4
    clear hq HG4 hR HR2
    rintro e4 w4 ⟨cc, ⟨h4, ao4, m4, c4, rfl, o4, r4, f4⟩ | ⟨h4, rfl⟩⟩
    case inr =>
      have HF := Lib.hid (H3.out.c.more H3.out.f cc (fun x hx => List.mem_cons.1 hx))
      have hy := (want_goes HK.out.1 s4 [41]).err h4
      clear cc
      go_wp2_with fail
      rw [← HR3.out]
      try simp only
      rw [hy]
      exact ⟨rfl, HF.out, .inr ⟨h4, rfl⟩⟩
    have H4 := Lib.hid (H3.out.after o4 r4 cc f4)
    clear cc o4 r4 f4 H3
    go_wp2_with fail
    refine (psr_expect w0 _ b L s4 [41] H4.out.r (by decide)).mono ?_
    rintro e5 w5 hr
    rcases hr.out1 with ⟨h5, hv, X5⟩ | ⟨h5, rfl, X5⟩
    case inr =>
      have HF := Lib.hid (H4.out.c.more H4.out.f X5.out (fun x hx => .inl (by simpa using hx)))
      clear hr
      go_wp2_with fail
      rw [← HR3.out]
      exact ⟨rfl, HF.out, .inr ⟨h5, rfl⟩⟩
    obtain rfl : e5 = _ := hv
    have H5 := Lib.hid (H4.out.keep X5.out.1 X5.out.2)
    have hsd : 1 ≤ (wantT L s4 [41]).deep := by
      have := (want_goes HK.out.1 s4 [41]).deep
      have := HG.out.deep
      have := HO.out.2.1
      first | omega | (simp only at *; omega)
    clear hr X5 H4
    go_wp2_with fail
    refine (psr_shut w0 _ b L _ H5.out.r hsd).mono ?_
    rintro e6 w6 hr
    obtain ⟨rfl, X6⟩ := hr.out1
    have H6 := Lib.hid (H5.out.keep X6.out.1 X6.out.2)
    clear hr X6 H5 hsd
    go_wp2_with fail
    go_ret
    rw [← HR3.out]
    exact H6.out.told
  · have h40 : isT L s [40] = false := by simpa using h40
    rw [if_neg (by rw [h40]; simp)] at hR
    have HR2 := Lib.hid hR
    have he := H1.out.r.e
    have ho : openT L s [40] = { s with e := 11, pos := (curT L s).pos, deep := s.deep + 1 } := by
      unfold openT
      simp only
      rw [h40, if_neg (by simp), wantT, h40, if_neg (by simp), failT, if_pos he]
    rw [ho] at hr
    rcases hr.out1 with ⟨h0, hv, X3⟩ | ⟨h0, rfl, X3⟩
    · exact absurd h0 (show ¬ (11 : Int) = 0 by decide)
    · have HF := Lib.hid (H1.out.c.more H1.out.f X3.out (fun x hx => .inl (by simpa using hx)))
      clear hr hR ho
      go_wp2_with fail
      rw [← HR2.out, failT, if_pos he]
      exact ⟨rfl, HF.out, .inr ⟨h0, rfl⟩⟩

theorem cexpr_ok (w0 : World) (b : Nat) (L : List Tk) (hL : TokL L) : ∀ N, ExC 81 (unaryT L N) w0 b L N ∧ ExC 65 (exprT L (unaryT L N) N) w0 b L N := by
  have step : ∀ N, ExC 81 (unaryT L N) w0 b L N → ExC 65 (exprT L (unaryT L N) N) w0 b L N := fun N hU => by
    have gU := unary_goes hL N
    have pU := unary_pot hL N
    have hT : ExC 79 (termT L (unaryT L N) N) w0 b L N := cterm_walk _ w0 b L N gU pU hU
    have gT : ∀ s l, Goes L s (termT L (unaryT L N) N s l).2 := fun s l => opT_goes hL _ gU N s l
    have pT : PotOk L (termT L (unaryT L N) N) := opT_pot hL _ gU pU N
    have hS : ExC 73 (sumT L (unaryT L N) N) w0 b L N := csum_walk _ w0 b L N gT pT hT
    exact ccomp_walk _ w0 b L N (fun s l => opT_goes hL _ gT N s l) (opT_pot hL _ gT pT N) hS
  intro N
  induction N with
  | zero => exact ⟨fun w s v m l _ _ hn => absurd hn (Nat.not_lt_zero _), fun w s v m l _ _ hn => absurd hn (Nat.not_lt_zero _)⟩
  | succ N ih =>
    have hU := cunary_walk w0 b L N hL ih.1 ih.2
    exact ⟨hU, step (N + 1) hU⟩

/-- What an expression from its beginning leaves: nodes in new memory. -/
def NdsC (w : World) (l : List Nd) : World → Ending → Prop := fun w' e => ∃ ao m c, e = .returned (.slice ao m c) ∧ m ≤ 20000 ∧ NodesP w' (fun k => w.heap.size ≤ k ∧ k < w'.heap.size) (.slice ao m c) m l
theorem psr_expr (w0 w : World) (b : Nat) (L : List Tk) (s : PS) (h : Psr w0 w b L s) :
    Calls Tryd.prog 58 #[.pointer (some ⟨b, 0, none⟩)] w (Ends w0 w b L (exprN L s).2 (NdsC w (exprN L s).1)) := by
  have hr := rem_lt (L := L) h.lt
  have hf := h.ok.few
  have hp := expr_pot h.ok (unary_goes h.ok (L.length + 1)) (unary_pot h.ok (L.length + 1)) (L.length + 1) s [] h.lt
  have P := (cexpr_ok w0 b L h.ok (L.length + 1)).2 w s (.slice none 0 0) 0 [] h (OwnN.nil _ _) hr (by simp only [List.length_nil]; omega)
  change Calls _ _ _ _ (ExEnd w0 w b L _ (exprN L s)) at P
  change (exprN L s).1.length + remT L (exprN L s).2 ≤ _ at hp
  have HP := Lib.hid (show (exprN L s).1.length ≤ 20000 by simp only [List.length_nil] at hp; omega)
  generalize exprN L s = R at *
  clear h hr hf hp
  go_enter Tryd.func58, Tryd.ntmps58
  go_wp2_with fail
  refine P.mono ?_
  rintro e w' ⟨hc, ⟨h0, ao, m, c, rfl, h1, h2, h3⟩ | ⟨h0, rfl⟩⟩
  · have hm : m ≤ 20000 := by have := h1.1; have := HP.out; omega
    have hb : ∀ k, (Value.slice ao m c).ownBlock = some k → w.heap.size ≤ k ∧ k < w'.heap.size := fun k hk => ⟨by
      rcases h3 with h3 | h3
      · rw [h3] at hk
        cases hk
      · exact h3 k hk, (h1.2.lt k hk).2⟩
    have HF := Lib.hid (show Ends w0 w b L R.2 (NdsC w R.1) (.returned (.slice ao m c)) w' from ⟨hc.mono (fun x hx => by simpa [rowF, Value.ownBlock] using hx), .inl ⟨h0, h2, ao, m, c, rfl, hm, h1.nodes (by omega) hb⟩⟩)
    clear hc h1 h2 h3 hb
    go_wp2_with fail
    go_ret
    exact HF.out
  · have HF := Lib.hid (show Chg [b] w w' from hc.mono (fun x hx => by simpa [rowF, Value.ownBlock] using hx))
    clear hc
    go_wp2_with fail
    exact ⟨rfl, HF.out, .inr ⟨h0, rfl⟩⟩

end Go.Proofs.YtfcfbdemfbkgmaaDoor

namespace Go.Proofs.YtfcfbdemfbkgmaaDoor
open Go.RowKit Go.Lib
set_option maxRecDepth 100000

/-- What an expression from its beginning leaves: nodes in new memory. -/
def ExN (w0 w : World) (b n : Nat) (vl : Value) (L : List Tk) (r : List Nd × PS) (e : Ending) (w' : World) : Prop :=
  ∃ ao m c, e = .returned (.slice ao m c) ∧ OwnN w' (b + 1) (.slice ao m c) m r.1 ∧ Rdr w0 w' b n vl L r.2 ∧ Chg [b] w w' ∧ (∀ k, (Value.slice ao m c).ownBlock = some k → w.heap.size ≤ k) ∧ m ≤ 20000
end Go.Proofs.YtfcfbdemfbkgmaaDoor
