/- The reference's proc. Numbers and types by name. -/
import Derived.Test.YtlgfijjkbomejaaGreatDoorQpe
import Derived.Deep.Cut
import Derived.Deep.CutBlock
import Derived.Deep.CutRange
namespace Go.Proofs.YtlgfijjkbomejaaGreatDoor
open Go.RowKit Go.Lib
set_option maxRecDepth 100000

def listOf {α : Type} (L : List Tk) (one : PS → α × PS) (s : PS) (shut : List UInt8) : List α × PS := if isT L s shut = true then ([], s) else listLoop L one (L.length + 1) s []
theorem list_of {α : Type} (L : List Tk) (one : PS → α × PS) (s : PS) (shut : List UInt8) : listT L one s shut = ((listOf L one s shut).1, wantT L (listOf L one s shut).2 shut) := rfl
theorem listOf_goes {α : Type} {L : List Tk} (hL : TokL L) {one : PS → α × PS} (h1 : ∀ s, Goes L s (one s).2) (s : PS) (shut : List UInt8) : Goes L s (listOf L one s shut).2 := by
  unfold listOf
  split
  · exact Goes.refl L s
  · exact listLoop_goes hL h1 _ _ _
theorem listLoop_step {α : Type} {L : List Tk} {one : PS → α × PS} {q : Nat} {s : PS} {acc : List α} {G : List α × PS} (h : listLoop L one (q + 1) s acc = G) (he : s.e = 0) : (if isT L (one s).2 [44] = true then listLoop L one q (one s).2.go (acc ++ [(one s).1]) else (acc ++ [(one s).1], (one s).2)) = G := by
  unfold listLoop at h
  rw [if_neg (by simp [he])] at h
  exact h
theorem list_less {α : Type} {L : List Tk} {one : PS → α × PS} {s : PS} (h1 : Goes L s (one s).2) (hs : s.i < L.length) (h : isT L (one s).2 [44] = true) : remT L (one s).2.go < remT L s := by
  have h2 := isT_e h
  have h3 := h1.rem
  have h4 := rem_go (L := L) h2.1 (h1.lt hs)
  omega

/-- Another block of the call's own is written. -/
theorem PrAt.other {w0 w wr w1 : World} {b n : Nat} {vl : Value} {L : List Tk} {T U X : Nat} {p : Prc} {vP vU : Value} {mP mU : Nat} {s : PS} (H : PrAt w0 w wr b n vl L T U p vP vU mP mU s) (hX : w.heap.size ≤ X) (hT : X ≠ T) (hU : X ≠ U) (h1 : vP.ownBlock ≠ some X) (h2 : vU.ownBlock ≠ some X) (hc : Chg [X] wr w1) : PrAt w0 w w1 b n vl L T U p vP vU mP mU s := by
  have hb := H.rc.bw
  exact ⟨⟨H.rc.r.chg hc (fun y hy => by simp only [List.mem_singleton] at hy; omega) (H.rc.r.r.chg hc (by simp only [List.mem_singleton]; omega)) H.rc.r.lt H.rc.r.deep, H.rc.c.trans' hc (fun y hy => by simp only [List.mem_singleton] at hy; subst hy; exact .inr hX), (hc.block T (Array.getElem?_eq_some_iff.1 H.rc.sb).1 (by simp only [List.mem_singleton]; omega)).trans H.rc.sb, (hc.block U (Array.getElem?_eq_some_iff.1 H.rc.z).1 (by simp only [List.mem_singleton]; omega)).trans H.rc.z, hb, H.rc.wT, H.rc.wU, H.rc.tu⟩,
    H.op.chg hc (fun k hk hm => h1 (by simp only [List.mem_singleton] at hm; rw [← hm]; exact hk)), H.ou.chg hc (fun k hk hm => h2 (by simp only [List.mem_singleton] at hm; rw [← hm]; exact hk)), H.lP, H.lU, H.pu⟩
theorem OwnR.one {w wr : World} {T U : Nat} {e : TypeId} {size : Nat} {v : Value} {m : Nat} {cs : List Value} (h : OwnR w wr T U e size v m cs) : v.oneCell' = true := by
  rcases h.o.2 with ⟨rfl, _⟩ | ⟨g, cap, cur, rfl, _⟩ <;> rfl
theorem prc_ones (p : Prc) {vP vU vB : Value} (h1 : vP.oneCell' = true) (h2 : vU.oneCell' = true) (h3 : vB.oneCell' = true) : (prcV p vP vU vB).toArray.all (·.oneCell') = true := by
  simp only [prcV, List.all_toArray, List.all_cons, List.all_nil, h1, h2, h3]
  rfl
theorem par_info (p : Par) : (Tryz.prog.info? 90).map (·.size) = some (parV p).toArray.size := by
  show _ = some 3
  kernel_rfl

set_option maxHeartbeats 4000000 in
theorem rdr_proc (w0 w : World) (b n : Nat) (vl : Value) (L : List Tk) (s : PS) (h : Rdr w0 w b n vl L s) (hd : Dok s) :
    Calls Tryz.prog 70 #[.pointer (some ⟨b, 0, none⟩)] w (PrTold w0 w b n vl L (procT L s)) := by
  obtain ⟨R, hR⟩ : ∃ R, procT L s = R := ⟨_, rfl⟩
  rw [hR]
  unfold procT at hR
  simp only [list_of] at hR
  have HR := Lib.hid hR
  have hbw := h.blt
  have hc0 : Chg [] w (w.alloc (.cells #[.string ⟨#[]⟩, .slice none 0 0, .bool false, .string ⟨#[]⟩, .string ⟨#[]⟩, .slice none 0 0, .slice none 0 0, .int .i64 0] 66)) := (Chg.refl [] w).alloc _
  have H0 := Lib.hid (And.intro (h.chg hc0 (fun x hx => by cases hx) (h.r.chg hc0 (by simp)) h.lt h.deep) (And.intro (hc0.mono (G := [b]) (fun x hx => by cases hx)) (heap_alloc_new w (.cells #[.string ⟨#[]⟩, .slice none 0 0, .bool false, .string ⟨#[]⟩, .string ⟨#[]⟩, .slice none 0 0, .slice none 0 0, .int .i64 0] 66))))
  have HL := Lib.hid (And.intro h.ok hd)
  clear hR h hc0 hd
  go_enter Tryz.func70, Tryz.ntmps70
  go_wp2_with fail
  refine (rdr_here w0 _ b n _ L s H0.out.1).mono ?_
  rintro e1 w1 hr
  obtain ⟨rfl, X1⟩ := hr.out1
  clear hr
  go_wp2_with fail
  refine (rdr_name w0 _ b n _ L s X1.out.1).mono ?_
  rintro e2 w2 hr
  obtain ⟨rfl, X2⟩ := hr.out1
  clear hr
  obtain ⟨q, hq⟩ : ∃ q, (curT L s).pos = q := ⟨_, rfl⟩
  obtain ⟨nm, hnm⟩ : ∃ x, (nameT L s).1 = x := ⟨_, rfl⟩
  obtain ⟨s1, hs1⟩ : ∃ x, (nameT L s).2 = x := ⟨_, rfl⟩
  rw [hq, hnm, hs1] at HR
  have hg1 : Goes L s s1 := by rw [← hs1]; exact name_goes HL.out.1 s
  have hd1 : Dok s1 := hg1.dok HL.out.2
  have HD1 := Lib.hid hd1
  have h1 : PrAt w0 w (w2.alloc (.cells #[.string (tx nm), .slice none 0 0, .bool false, .string ⟨#[]⟩, .string ⟨#[]⟩, .slice none 0 0, .slice none 0 0, .int .i64 (q : Int)] 66)) b n vl L w2.heap.size w.heap.size ⟨nm, [], false, [], [], [], [], q⟩ (.slice none 0 0) (.slice none 0 0) 0 0 s1 := by
    have c12 := X1.out.2.trans X2.out.2
    have hs2 := c12.size
    simp only [World.size_alloc] at hs2
    have hca : Chg [] w2 (w2.alloc (.cells #[.string (tx nm), .slice none 0 0, .bool false, .string ⟨#[]⟩, .string ⟨#[]⟩, .slice none 0 0, .slice none 0 0, .int .i64 (q : Int)] 66)) := (Chg.refl [] w2).alloc _
    have hr2 : Rdr w0 w2 b n vl L s1 := by rw [← hs1]; exact X2.out.1
    have hz := (c12.block w.heap.size (by simp) (by simp only [List.mem_singleton]; omega)).trans H0.out.2.2
    exact ⟨⟨hr2.chg hca (fun x hx => by cases hx) (hr2.r.chg hca (by simp)) hr2.lt hr2.deep, (H0.out.2.1.trans c12).trans' hca (fun x hx => by cases hx), heap_alloc_new w2 _, (hca.block w.heap.size (by omega) (by simp)).trans hz, hbw, by omega, Nat.le_refl _, by omega⟩, OwnR.nil _ _ _ _ _ _, OwnR.nil _ _ _ _ _ _, rfl, rfl, fun k hk => by cases hk⟩
  have H1 := Lib.hid h1
  clear h1 X1 X2 H0 hg1 hd1
  try rw [hq]
  try rw [hnm]
  clear hq hnm hs1
  go_upto_region 2 with fail
  generalize w2.alloc (.cells #[.string (tx nm), .slice none 0 0, .bool false, .string ⟨#[]⟩, .string ⟨#[]⟩, .slice none 0 0, .slice none 0 0, .int .i64 (q : Int)] 66) = W at *
  generalize w2.heap.size = T at *
  have HBW := Lib.hid hbw
  clear hbw
  generalize w.heap.size = U at H1 ⊢
  go_wp2_with fail
  refine (rdr_want w0 _ b n _ L s1 [40] H1.out.rc.r).mono ?_
  rintro e3 w3 hr
  obtain ⟨rfl, X3⟩ := hr.out1
  clear hr
  have H3 := Lib.hid (H1.out.keep X3.out.1 X3.out.2)
  have HD3 := Lib.hid ((want_goes HL.out.1 s1 [40]).dok HD1.out)
  clear H1 X3 HD1
  generalize wantT L s1 [40] = s2 at *
  go_wp2_with fail
  refine (rdr_is w0 _ b n _ L s2 [41] H3.out.rc.r).mono ?_
  rintro e4 w4 hr
  obtain ⟨rfl, X4⟩ := hr.out1
  clear hr
  have H4 := Lib.hid (H3.out.keep X4.out.1 X4.out.2)
  clear H3 X4
  obtain ⟨G1, hG1⟩ : ∃ G, listOf L (paramT L) s2 [41] = G := ⟨_, rfl⟩
  simp only [hG1] at HR
  have HG1 := Lib.hid hG1
  have HD5 : Hid (Dok G1.2) := Lib.hid (by rw [← hG1]; exact (listOf_goes HL.out.1 (param_goes HL.out.1) s2 [41]).dok HD3.out)
  clear hG1
  obtain ⟨ib, hib⟩ : ∃ x, isT L s2 [41] = x := ⟨_, rfl⟩
  rw [hib]
  have HI := Lib.hid hib
  clear hib
  go_upto_if 14 with fail
  go_cut [] from 15 to 38 (fun wx => ∃ (vP : Value) (mP : Nat), Hid (PrAt w0 w wx b n vl L T U ⟨nm, G1.1, false, [], [], [], [], q⟩ vP (.slice none 0 0) mP 0 G1.2 ∧ mP ≤ 30000))
  case first =>
    cases ib with
    | true =>
      have he : G1 = ([], s2) := by rw [← HG1.out]; exact if_pos HI.out
      subst he
      go_wp2_with fail
      go_meet
      exact ⟨_, 0, Lib.hid ⟨H4.out, by decide⟩⟩
    | false =>
      have hl : listLoop L (paramT L) (L.length + 1) s2 [] = G1 := by
        have := HG1.out
        unfold listOf at this
        rw [if_neg (by rw [HI.out]; simp)] at this
        exact this
      have hA0 : Hid (PrAt w0 w w4 b n vl L T U ⟨nm, [], false, [], [], [], [], q⟩ (.slice none 0 0) (.slice none 0 0) 0 0 s2 ∧ listLoop L (paramT L) (L.length + 1) s2 [] = G1 ∧ remT L s2 < L.length + 1 ∧ 0 + remT L s2 ≤ 20000) := Lib.hid ⟨H4.out, hl, rem_lt H4.out.rc.r.lt, by have := rem_lt (L := L) H4.out.rc.r.lt; have := HL.out.1.few; omega⟩
      clear hl H4
      go_wp2_with fail
      go_loopw [4] (fun _ wr => ∃ (vP : Value) (m q' : Nat) (s3 : PS) (acc : List Par), Hid (PrAt w0 w wr b n vl L T U ⟨nm, acc, false, [], [], [], [], q⟩ vP (.slice none 0 0) m 0 s3 ∧ listLoop L (paramT L) q' s3 acc = G1 ∧ remT L s3 < q' ∧ m + remT L s3 ≤ 20000))
        (fun _ wr => remW L b wr)
      case atStart => exact ⟨_, 0, _, s2, [], hA0⟩
      case round =>
        obtain ⟨vP, m, q', s3, acc, hG⟩ := hrel
        have r3 := hG.out.1.rc.r.r.c3
        clear hA0
        obtain ⟨q', rfl⟩ : ∃ q2, q' = q2 + 1 := ⟨q' - 1, by have := hG.out.2.2.1; omega⟩
        by_cases he : s3.e = 0
        · rw [he] at r3
          have HE := Lib.hid he
          have hm : m ≤ 20000 := by have := hG.out.2.2.2; omega
          have HST := Lib.hid (listLoop_step hG.out.2.1 he)
          clear he
          go_wp2_with fail
          refine (rdr_here w0 _ b n _ L s3 hG.out.1.rc.r).mono ?_
          rintro e5 w5 hr
          obtain ⟨rfl, X5⟩ := hr.out1
          clear hr r3
          have H5 := Lib.hid (hG.out.1.keep X5.out.1 X5.out.2)
          go_wp2_with fail
          refine (rdr_name w0 _ b n _ L s3 H5.out.rc.r).mono ?_
          rintro e6 w6 hr
          obtain ⟨rfl, X6⟩ := hr.out1
          clear hr
          have H6 := Lib.hid (H5.out.keep X6.out.1 X6.out.2)
          clear H5 X5 X6
          obtain ⟨pp, hpp⟩ : ∃ x, (curT L s3).pos = x := ⟨_, rfl⟩
          obtain ⟨a1, ha1⟩ : ∃ x, (nameT L s3).1 = x := ⟨_, rfl⟩
          obtain ⟨s4, hs4⟩ : ∃ x, (nameT L s3).2 = x := ⟨_, rfl⟩
          rw [hs4] at H6
          have HQ := Lib.hid (And.intro hpp (And.intro ha1 hs4))
          have H7 : Hid (PrAt w0 w (w6.alloc (.cells #[.string (tx a1), .string ⟨#[]⟩, .int .i64 (pp : Int)] 90)) b n vl L T U ⟨nm, acc, false, [], [], [], [], q⟩ vP (.slice none 0 0) m 0 s4) := Lib.hid (by
            have hca : Chg [] w6 (w6.alloc (.cells #[.string (tx a1), .string ⟨#[]⟩, .int .i64 (pp : Int)] 90)) := (Chg.refl [] w6).alloc _
            exact H6.out.keep (H6.out.rc.r.chg hca (fun x hx => by cases hx) (H6.out.rc.r.r.chg hca (by simp)) H6.out.rc.r.lt H6.out.rc.r.deep) (hca.mono (fun x hx => by cases hx)))
          have Q7 : Hid ((w6.alloc (.cells #[.string (tx a1), .string ⟨#[]⟩, .int .i64 (pp : Int)] 90)).heap[w6.heap.size]? = some (.cells (parV ⟨a1, [], pp⟩).toArray 90 (0, 0))) := Lib.hid (heap_alloc_new w6 _)
          have N7 : Hid (w.heap.size ≤ w6.heap.size ∧ w6.heap.size ≠ T ∧ w6.heap.size ≠ U ∧ vP.ownBlock ≠ some w6.heap.size ∧ w6.heap.size ≠ b) := Lib.hid ⟨H6.out.rc.c.size, by have := (Array.getElem?_eq_some_iff.1 H6.out.rc.sb).1; omega, by have := (Array.getElem?_eq_some_iff.1 H6.out.rc.z).1; omega, fun hk => by have := (H6.out.op.o.lt _ hk).2; omega, by have := H6.out.rc.r.blt; omega⟩
          try rw [hpp]
          try rw [ha1]
          clear H6 hpp ha1 hs4
          go_upto_region 6 with fail
          generalize w6.alloc (.cells #[.string (tx a1), .string ⟨#[]⟩, .int .i64 (pp : Int)] 90) = W6 at *
          generalize w6.heap.size = T4 at *
          go_wp2_with fail
          refine (rdr_want w0 _ b n _ L s4 [58] H7.out.rc.r).mono ?_
          rintro e8 w8 hr
          obtain ⟨rfl, X8⟩ := hr.out1
          clear hr
          have H8 := Lib.hid (H7.out.keep X8.out.1 X8.out.2)
          have Q8 := Lib.hid ((X8.out.2.block T4 (Array.getElem?_eq_some_iff.1 Q7.out).1 (by simpa using N7.out.2.2.2.2)).trans Q7.out)
          clear H7 Q7 X8
          go_wp2_with fail
          refine (rdr_name w0 _ b n _ L _ H8.out.rc.r).mono ?_
          rintro e9 w9 hr
          obtain ⟨rfl, X9⟩ := hr.out1
          clear hr
          have H9 := Lib.hid (H8.out.keep X9.out.1 X9.out.2)
          have Q9 := Lib.hid ((X9.out.2.block T4 (Array.getElem?_eq_some_iff.1 Q8.out).1 (by simpa using N7.out.2.2.2.2)).trans Q8.out)
          clear H8 Q8 X9
          obtain ⟨lb, hlb⟩ : ∃ x, (nameT L (wantT L s4 [58])).1 = x := ⟨_, rfl⟩
          obtain ⟨s5, hs5⟩ : ∃ x, (nameT L (wantT L s4 [58])).2 = x := ⟨_, rfl⟩
          rw [hs5] at H9
          have hpt : paramT L s3 = (⟨a1, lb, pp⟩, s5) := by
            obtain ⟨h1, h2, h3⟩ := HQ.out
            rw [← h1, ← h2, ← hlb, ← hs5, ← h3]
            rfl
          try rw [hlb]
          have hst := HST.out
          rw [hpt] at hst
          have hls : isT L s5 [44] = true → remT L s5.go < remT L s3 := fun h => by
            have h1 := list_less (one := paramT L) (param_goes HL.out.1 s3) hG.out.1.rc.r.lt
            rw [hpt] at h1
            exact h1 h
          have HPT := Lib.hid (And.intro hst hls)
          have q1 := cellsN Q9.out 1 (.string ⟨#[]⟩) rfl
          have z1 : w9.frozen? ⟨T4, 1, none⟩ = false := by
            simp only [World.frozen?]
            rw [Q9.out]
            simp
          have c10 : Chg [T4] w9 (w9.setCell ⟨T4, 1, none⟩ (.string (tx lb))) := (Chg.refl [T4] w9).set (.inl (by simp)) 1 _
          have H10 := Lib.hid (H9.out.other N7.out.1 N7.out.2.1 N7.out.2.2.1 N7.out.2.2.2.1 (by simp [Value.ownBlock]) c10)
          have Q10 : Hid ((w9.setCell ⟨T4, 1, none⟩ (.string (tx lb))).heap[T4]? = some (.cells #[.string (tx a1), .string (tx lb), .int .i64 (pp : Int)] 90 (0, 0))) := Lib.hid (by rw [heap_set Q9.out]; rfl)
          have k1 := H10.out.rc.cell 1 _ rfl
          have FL : Hid (m + 1 ≤ 1000000) := Lib.hid (by omega)
          clear hlb hs5 hpt hst hls c10 HST HQ H9 Q9
          go_upto_region 8 with fail
          clear q1 z1
          generalize w9.setCell ⟨T4, 1, none⟩ (.string (tx lb)) = W10 at *
          go_wp2_with (first | (refine wpList_load_row rfl 90 (.tmp 4) rfl T4 rfl _ _ _ _ Q10.out Tryz.underlying90 rfl (par_info ⟨a1, lb, pp⟩) ?_) | (at_builtin; go_loud (refine wpList_append_gen elemPar rfl (.tmp 31) (.tmp 33) rfl w.heap.size _ m _ rfl (H10.out.op.o.alloc _) _ 1 (parV ⟨a1, lb, pp⟩) rfl (Cells.lit _ (parV ⟨a1, lb, pp⟩) 90 (0, 0) 3 1 rfl) (parV_one _) (m + 1) rfl FL (by decide) (Nat.le_trans H10.out.rc.c.size (by simp)) ?_; intro ao7 c7 w7 hown7 hb7 hg7 ho7; have HA := Lib.hid (PrAt.addP ⟨a1, lb, pp⟩ H10.out hown7 hg7 ho7); have k17 := HA.out.1.cell 1 _ rfl; have f17 := HA.out.1.free 1; clear hown7 hb7 hg7 ho7)))
          clear k1
          refine (rdr_take w0 _ b n _ L s5 [44] HA.out.2.rc.r).mono ?_
          rintro e11 w11 hr
          obtain ⟨rfl, X11⟩ := hr.out1
          clear hr
          cases hB9 : isT L s5 [44] with
          | true =>
            rw [takeT, if_pos hB9] at X11
            have HT := Lib.hid (HA.out.2.keep X11.out.1 X11.out.2)
            have hrm := HPT.out.2 hB9
            have hLP := HPT.out.1
            try simp only at hLP
            rw [if_pos hB9] at hLP
            have hms : remW L b w11 < remW L b wr := by
              rw [HT.out.rc.r.rem, hG.out.1.rc.r.rem]
              exact hrm
            have HMS := Lib.hid (And.intro hms (And.intro hrm hLP))
            clear hrm hms hLP
            go_wp2_with fail
            go_roundw
            case rel =>
              have hfin : Hid (PrAt w0 w w11 b n vl L T U ⟨nm, acc ++ [⟨a1, lb, pp⟩], false, [], [], [], [], q⟩ _ (.slice none 0 0) (m + 1) 0 s5.go ∧ listLoop L (paramT L) q' s5.go (acc ++ [⟨a1, lb, pp⟩]) = G1 ∧ remT L s5.go < q' ∧ (m + 1) + remT L s5.go ≤ 20000) := Lib.hid ⟨HT.out, HMS.out.2.2, by have := HMS.out.2.1; have := hG.out.2.2.1; omega, by have := HMS.out.2.1; have := hG.out.2.2.2; omega⟩
              (repeat apply Exists.intro)
              exact ⟨⟨_, _, _, _, _, hfin⟩, rfl⟩
            case measure => exact HMS.out.1
          | false =>
            rw [takeT, hB9, if_neg (by simp)] at X11
            have HT := Lib.hid (HA.out.2.keep X11.out.1 X11.out.2)
            have hLP := HPT.out.1
            try simp only at hLP
            rw [hB9, if_neg (by simp)] at hLP
            subst hLP
            go_wp2_with fail
            go_meet
            exact ⟨_, m + 1, Lib.hid ⟨HT.out, by omega⟩⟩
        · have he2 : (s3.e == 0) = false := by simpa using he
          have hst : G1 = (acc, s3) := by
            have := hG.out.2.1
            unfold listLoop at this
            rw [if_pos he] at this
            exact this.symm
          subst hst
          go_wp2_with fail
          go_meet
          exact ⟨vP, m, Lib.hid ⟨hG.out.1, by have := hG.out.2.2.2; omega⟩⟩
  case rest =>
    obtain ⟨vP, mP, hC⟩ := hcut
    have HP9 : Hid (mP ≤ 30000) := Lib.hid hC.out.2
    have HA1 := Lib.hid hC.out.1
    clear hC H4 HI HG1 HD3
    obtain ⟨p1, g2⟩ := G1
    try simp only at HR HA1 HD5
    go_wp2_with fail
    refine (rdr_want w0 _ b n _ L g2 [41] HA1.out.rc.r).mono ?_
    rintro e3 w3 hr
    obtain ⟨rfl, X3⟩ := hr.out1
    clear hr
    have HA2 := Lib.hid (HA1.out.keep X3.out.1 X3.out.2)
    have HD6 := Lib.hid ((want_goes HL.out.1 g2 [41]).dok HD5.out)
    clear HA1 X3 HD5
    generalize wantT L g2 [41] = s7 at *
    go_wp2_with fail
    refine (rdr_take w0 _ b n _ L s7 [45, 62] HA2.out.rc.r).mono ?_
    rintro e4 w4 hr
    obtain ⟨rfl, X4⟩ := hr.out1
    clear hr
    obtain ⟨hb, hhb⟩ : ∃ x, isT L s7 [45, 62] = x := ⟨_, rfl⟩
    obtain ⟨rs, hrs⟩ : ∃ x, (if hb = true then nameT L s7.go else ([], s7)) = x := ⟨_, rfl⟩
    rw [hhb]
    simp only [hhb] at HR
    simp only [hrs] at HR
    have hdr : Dok rs.2 := by
      rw [← hrs]
      split
      · rename_i hh
        subst hh
        have := take_goes HL.out.1 s7 [45, 62]
        rw [takeT, if_pos hhb] at this
        exact (this.trans (name_goes HL.out.1 _)).dok HD6.out
      · exact HD6.out
    have HD7 := Lib.hid hdr
    have HB := Lib.hid (And.intro hhb hrs)
    clear hdr hhb hrs HD6
    obtain ⟨rn, r2⟩ := rs
    try simp only at HR HD7
    go_upto_if 42 with fail
    go_cut [] from 43 to 46 (fun wx => Hid (PrAt w0 w wx b n vl L T U ⟨nm, p1, hb, rn, [], [], [], q⟩ vP (.slice none 0 0) mP 0 r2))
    case first =>
      cases hb with
      | false =>
        obtain ⟨h1, h2⟩ := HB.out
        rw [if_neg (by simp)] at h2
        simp only [Prod.mk.injEq] at h2
        obtain ⟨rfl, rfl⟩ := h2
        rw [takeT, h1, if_neg (by simp)] at X4
        have HA3 := Lib.hid (HA2.out.keep X4.out.1 X4.out.2)
        clear h1
        go_wp2_with fail
        go_meet
        exact HA3
      | true =>
        obtain ⟨h1, h2⟩ := HB.out
        rw [if_pos rfl] at h2
        rw [takeT, if_pos h1] at X4
        have HA3 := Lib.hid (HA2.out.keep X4.out.1 X4.out.2)
        have k2 := HA3.out.rc.cell 2 _ rfl
        have f2 := HA3.out.rc.free 2
        have HA4 := Lib.hid (HA3.out.field 2 (.bool true) ⟨nm, p1, true, [], [], [], [], q⟩ rfl rfl rfl)
        have HN := Lib.hid h2
        clear h1 h2 HA3 X4
        go_wp2_with fail
        refine (rdr_name w0 _ b n _ L s7.go HA4.out.rc.r).mono ?_
        rintro e5 w5 hr
        obtain ⟨rfl, X5⟩ := hr.out1
        clear hr k2 f2
        have HA5 := Lib.hid (HA4.out.keep X5.out.1 X5.out.2)
        rw [HN.out] at HA5
        rw [HN.out]
        have k3 := HA5.out.rc.cell 3 _ rfl
        have f3 := HA5.out.rc.free 3
        have HA6 := Lib.hid (HA5.out.field 3 (.string (tx rn)) ⟨nm, p1, true, rn, [], [], [], q⟩ rfl rfl rfl)
        clear X5 HA4
        go_wp2_with fail
        go_meet
        exact HA6
    case rest =>
      have HA3 := hcut
      clear HA2 X4 HB hcut
      go_wp2_with fail
      refine (rdr_want w0 _ b n _ L r2 kPc HA3.out.rc.r).mono ?_
      rintro e3 w3 hr
      obtain ⟨rfl, X3⟩ := hr.out1
      clear hr
      have HA4 := Lib.hid (HA3.out.keep X3.out.1 X3.out.2)
      have HD8 := Lib.hid ((want_goes HL.out.1 r2 kPc).dok HD7.out)
      clear HA3 X3 HD7
      generalize wantT L r2 kPc = s8 at *
      go_wp2_with fail
      refine (rdr_name w0 _ b n _ L s8 HA4.out.rc.r).mono ?_
      rintro e5 w5 hr
      obtain ⟨rfl, X5⟩ := hr.out1
      clear hr
      have HA5 := Lib.hid (HA4.out.keep X5.out.1 X5.out.2)
      have HD9 := Lib.hid ((name_goes HL.out.1 s8).dok HD8.out)
      clear HA4 X5 HD8
      generalize nameT L s8 = nc at *
      obtain ⟨pcn, s9⟩ := nc
      try simp only at HA5
      try simp only at HR
      try simp only at HD9
      have k4 := HA5.out.rc.cell 4 _ rfl
      have f4 := HA5.out.rc.free 4
      have HA6 := Lib.hid (HA5.out.field 4 (.string (tx pcn)) ⟨nm, p1, hb, rn, pcn, [], [], q⟩ rfl rfl rfl)
      clear HA5
      go_wp2_with fail
      refine (rdr_want w0 _ b n _ L s9 kUses HA6.out.rc.r).mono ?_
      rintro e6 w6 hr
      obtain ⟨rfl, X6⟩ := hr.out1
      clear hr k4 f4
      have HA7 := Lib.hid (HA6.out.keep X6.out.1 X6.out.2)
      have HD10 := Lib.hid ((want_goes HL.out.1 s9 kUses).dok HD9.out)
      clear HA6 X6 HD9
      generalize wantT L s9 kUses = s10 at *
      go_wp2_with fail
      refine (rdr_want w0 _ b n _ L s10 [123] HA7.out.rc.r).mono ?_
      rintro e7 w7 hr
      obtain ⟨rfl, X7⟩ := hr.out1
      clear hr
      have HA8 := Lib.hid (HA7.out.keep X7.out.1 X7.out.2)
      have HD11 := Lib.hid ((want_goes HL.out.1 s10 [123]).dok HD10.out)
      clear HA7 X7 HD10
      generalize wantT L s10 [123] = s11 at *
      go_wp2_with fail
      refine (rdr_is w0 _ b n _ L s11 [125] HA8.out.rc.r).mono ?_
      rintro e8 w8 hr
      obtain ⟨rfl, X8⟩ := hr.out1
      clear hr
      have HA9 := Lib.hid (HA8.out.keep X8.out.1 X8.out.2)
      clear HA8 X8
      obtain ⟨G2, hG2⟩ : ∃ G, listOf L (nameT L) s11 [125] = G := ⟨_, rfl⟩
      simp only [hG2] at HR
      have HG2 := Lib.hid hG2
      have HD12 : Hid (Dok G2.2) := Lib.hid (by rw [← hG2]; exact (listOf_goes HL.out.1 (name_goes HL.out.1) s11 [125]).dok HD11.out)
      clear hG2
      obtain ⟨ib2, hib⟩ : ∃ x, isT L s11 [125] = x := ⟨_, rfl⟩
      rw [hib]
      have HI := Lib.hid hib
      clear hib
      go_upto_if 58 with fail
      go_cut [] from 59 to 73 (fun wx => ∃ (vU : Value) (mU : Nat), Hid (PrAt w0 w wx b n vl L T U ⟨nm, p1, hb, rn, pcn, G2.1, [], q⟩ vP vU mP mU G2.2 ∧ mU ≤ 30000))
      case first =>
        cases ib2 with
        | true =>
          have he : G2 = ([], s11) := by rw [← HG2.out]; exact if_pos HI.out
          subst he
          go_wp2_with fail
          go_meet
          exact ⟨_, 0, Lib.hid ⟨HA9.out, by decide⟩⟩
        | false =>
          have hl : listLoop L (nameT L) (L.length + 1) s11 [] = G2 := by
            have := HG2.out
            unfold listOf at this
            rw [if_neg (by rw [HI.out]; simp)] at this
            exact this
          have hA0 : Hid (PrAt w0 w w8 b n vl L T U ⟨nm, p1, hb, rn, pcn, [], [], q⟩ vP (.slice none 0 0) mP 0 s11 ∧ listLoop L (nameT L) (L.length + 1) s11 [] = G2 ∧ remT L s11 < L.length + 1 ∧ 0 + remT L s11 ≤ 20000) := Lib.hid ⟨HA9.out, hl, rem_lt HA9.out.rc.r.lt, by have := rem_lt (L := L) HA9.out.rc.r.lt; have := HL.out.1.few; omega⟩
          clear hl HA9
          go_wp2_with fail
          go_loopw [59] (fun _ wr => ∃ (vU : Value) (m q' : Nat) (s3 : PS) (acc : List (List UInt8)), Hid (PrAt w0 w wr b n vl L T U ⟨nm, p1, hb, rn, pcn, acc, [], q⟩ vP vU mP m s3 ∧ listLoop L (nameT L) q' s3 acc = G2 ∧ remT L s3 < q' ∧ m + remT L s3 ≤ 20000))
            (fun _ wr => remW L b wr)
          case atStart => exact ⟨_, 0, _, s11, [], hA0⟩
          case round =>
            obtain ⟨vU, m, q', s3, acc, hG⟩ := hrel
            have r3 := hG.out.1.rc.r.r.c3
            clear hA0
            obtain ⟨q', rfl⟩ : ∃ q2, q' = q2 + 1 := ⟨q' - 1, by have := hG.out.2.2.1; omega⟩
            by_cases he : s3.e = 0
            · rw [he] at r3
              have HE := Lib.hid he
              have hm : m ≤ 20000 := by have := hG.out.2.2.2; omega
              have HST := Lib.hid (listLoop_step hG.out.2.1 he)
              have hls : isT L (nameT L s3).2 [44] = true → remT L (nameT L s3).2.go < remT L s3 := fun h => list_less (one := nameT L) (name_goes HL.out.1 s3) hG.out.1.rc.r.lt h
              have HLS := Lib.hid hls
              clear he hls
              have HD1 : Hid (PrAt w0 w wr.drew b n vl L T U ⟨nm, p1, hb, rn, pcn, acc, [], q⟩ vP vU mP m s3) := Lib.hid (hG.out.1.keep (hG.out.1.rc.r.drewN 1) ((Chg.refl [b] wr).drewN 1))
              have FL : Hid (m + 1 ≤ 1000000) := Lib.hid (by omega)
              go_upto_region 20 with fail
              have k9 : wr.cell? ⟨T, 5, none⟩ = some vU := hG.out.1.rc.cell 5 _ rfl
              have k9d : wr.drew.cell? ⟨T, 5, none⟩ = some vU := HD1.out.rc.cell 5 _ rfl
              go_region_law (first | (refine step_append_gen elemStr rfl (.tmp 65) (.tmp 68) rfl w.heap.size vU m (usesV acc) (by simp [Act.eval]) HO5.out _ 1 [.string (tx (nameT L s3).1)] (by simp [Act.eval]) HC5.out (by simp [Value.oneCell']) (m + 1) rfl FL (by decide) HB5.out ?_; intro ao7 c7 w7 hown7 hb7 hg7 ho7; have HN := Lib.hid (PrAt.addU (nameT L s3).1 H5.out hown7 hg7 ho7); have k97 := HN.out.1.cell 5 _ rfl; have f97 := HN.out.1.free 5; clear hown7 hb7 hg7 ho7) | (go_simp; go_at_call 67; refine (rdr_name w0 _ b n _ L s3 HD1.out.rc.r).mono ?_; rintro e w5 hr; obtain ⟨rfl, X5⟩ := hr.out1; clear hr; have H5 := Lib.hid (HD1.out.keep X5.out.1 X5.out.2); have k95 : w5.cell? ⟨T, 5, none⟩ = some vU := H5.out.rc.cell 5 _ rfl; have k95b : (w5.alloc (.cells #[.string (tx (nameT L s3).1)] 9)).cell? ⟨T, 5, none⟩ = some vU := ((Chg.refl [] w5).alloc (.cells #[.string (tx (nameT L s3).1)] 9)).cell k95 (by simp); have HO5 : Hid ((w5.alloc (.cells #[.string (tx (nameT L s3).1)] 9)).ownsRow w.heap.size 9 1 vU m (usesV acc)) := Lib.hid (H5.out.ou.o.alloc _); have HC5 := Lib.hid (Cells.lit w5 [.string (tx (nameT L s3).1)] 9 (0, 0) 1 1 rfl); have HB5 : Hid (w.heap.size ≤ (w5.alloc (.cells #[.string (tx (nameT L s3).1)] 9)).heap.size) := Lib.hid (Nat.le_trans H5.out.rc.c.size (by simp))))
              all_goals
                go_wp2_with fail
                refine (rdr_take w0 _ b n _ L _ [44] HN.out.2.rc.r).mono ?_
                rintro e11 w11 hr
                obtain ⟨rfl, X11⟩ := hr.out1
                clear hr
                cases hB9 : isT L (nameT L s3).2 [44] with
                | true =>
                  rw [takeT, if_pos hB9] at X11
                  have HT := Lib.hid (HN.out.2.keep X11.out.1 X11.out.2)
                  have hrm := HLS.out hB9
                  have hLP := HST.out
                  rw [if_pos hB9] at hLP
                  have hms : remW L b w11 < remW L b wr := by
                    rw [HT.out.rc.r.rem, hG.out.1.rc.r.rem]
                    exact hrm
                  have HMS := Lib.hid (And.intro hms (And.intro hrm hLP))
                  clear hrm hms hLP
                  go_wp2_with fail
                  go_roundw
                  case rel =>
                    have hfin : Hid (PrAt w0 w w11 b n vl L T U ⟨nm, p1, hb, rn, pcn, acc ++ [(nameT L s3).1], [], q⟩ vP _ mP (m + 1) (nameT L s3).2.go ∧ listLoop L (nameT L) q' (nameT L s3).2.go (acc ++ [(nameT L s3).1]) = G2 ∧ remT L (nameT L s3).2.go < q' ∧ (m + 1) + remT L (nameT L s3).2.go ≤ 20000) := Lib.hid ⟨HT.out, HMS.out.2.2, by have := HMS.out.2.1; have := hG.out.2.2.1; omega, by have := HMS.out.2.1; have := hG.out.2.2.2; omega⟩
                    (repeat apply Exists.intro)
                    exact ⟨⟨_, _, _, _, _, hfin⟩, rfl⟩
                  case measure => exact HMS.out.1
                | false =>
                  rw [takeT, hB9, if_neg (by simp)] at X11
                  have HT := Lib.hid (HN.out.2.keep X11.out.1 X11.out.2)
                  have hLP := HST.out
                  rw [hB9, if_neg (by simp)] at hLP
                  subst hLP
                  go_wp2_with fail
                  go_meet
                  exact ⟨_, m + 1, Lib.hid ⟨HT.out, by omega⟩⟩
            · have he2 : (s3.e == 0) = false := by simpa using he
              have hst : G2 = (acc, s3) := by
                have := hG.out.2.1
                unfold listLoop at this
                rw [if_pos he] at this
                exact this.symm
              subst hst
              go_wp2_with fail
              go_meet
              exact ⟨vU, m, Lib.hid ⟨hG.out.1, by have := hG.out.2.2.2; omega⟩⟩
      case rest =>
        obtain ⟨vU, mU, hC⟩ := hcut
        clear HA9 HI HG2 HD11
        go_wp2_with fail
        refine (rdr_want w0 _ b n _ L _ [125] hC.out.1.rc.r).mono ?_
        rintro e3 w3 hr
        obtain ⟨rfl, X3⟩ := hr.out1
        clear hr
        have HF1 := Lib.hid (hC.out.1.keep X3.out.1 X3.out.2)
        have HD13 := Lib.hid ((want_goes HL.out.1 G2.2 [125]).dok HD12.out)
        have HU9 : Hid (mU ≤ 30000) := Lib.hid hC.out.2
        clear hC X3 HD12
        generalize wantT L G2.2 [125] = s12 at *
        go_wp2_with fail
        refine (rdr_block w0 _ b n _ L s12 HF1.out.rc.r HD13.out).mono ?_
        rintro e4 w4 ⟨ao, m, c, rfl, hs, r4, c4⟩
        have hK := HF1.out.keep r4 c4
        have k6 := hK.rc.cell 6 _ rfl
        have f6 := hK.rc.free 6
        have HZ := Lib.hid (HF1.out.told (by have := HP9.out; omega) (by have := HU9.out; omega) r4 c4 hs)
        have HON := Lib.hid (prc_ones { (⟨nm, p1, hb, rn, pcn, G2.1, [], q⟩ : Prc) with body := (blockN L s12).1 } hK.op.one hK.ou.one (show (Value.slice ao m c).oneCell' = true from rfl))
        clear hK r4 c4 hs
        go_wp2_with (first | (refine wpList_load_row rfl 66 (.tmp 3) rfl T rfl _ _ _ _ HZ.out.1.sb Tryz.underlying66 rfl (prc_info _ _ _ _) ?_) | (refine wpList_store_row rfl 66 (.tmp 2) (.tmp 79) rfl U _ rfl rfl _ _ HZ.out.1.z (prc_info _ _ _ _) rfl HON.out ?_))
        try simp only [Exit.inBlock, Exit.then]
        refine bodyPost_ret (results_cell_row rfl _ _ U _ _ _ _ rfl (setRow_heap _ U _ _ _ _ HZ.out.1.z) Tryz.underlying66 rfl (prc_info _ _ _ _)) rfl ?_
        have hR := HR.out
        rw [← hR]
        exact HZ.out.2

end Go.Proofs.YtlgfijjkbomejaaGreatDoor
