/- The reference's row of files: one file turns; places. Numbers and types by name. -/
import Derived.Test.YthcdkggkoanjpaaGreatDoorOpr
import Derived.Test.YthcdkggkoanjpaaGreatDoorRd
import Derived.StillTailTactics
namespace Go.Proofs.YthcdkggkoanjpaaGreatDoor
open Go.RowKit Go.Maps Go.Sort Go.WideMaps
theorem elemFile : Elem 77 104 (.agg #[.string ⟨#[]⟩, .slice none 0 0, .int .i64 0]) 3 48 := ⟨Tryz.underlying77, by kernel_rfl, by decide, by decide⟩
theorem turn_below {w w' : World} (h : Below w.heap.size w w') : Turn [] w w' := ⟨h.os, h.tape, h.output, h.size, fun k hk _ => h.block k hk⟩
theorem TellR.nil (w : World) (G : List Nat) : TellR w G [] [] := ⟨rfl, fun j x h => by cases h⟩
theorem TellR.snoc {w : World} {G : List Nat} {xs : List Value} {fs : List Ent} (h : TellR w G xs fs) (x : Ent) (ao : Option Addr) (c : Nat) (hr : Reads w (.slice ao x.2.1.length c) (bv x.2.1)) (hG : x.2.1 ≠ [] → ∀ a, ao = some a → a.block ∈ G) :
    TellR w G (xs ++ [encStr x.1, .slice ao x.2.1.length c, .int .i64 (x.2.2 : Nat)]) (fs ++ [x]) := by
  obtain ⟨hl, hx⟩ := h
  refine ⟨by simp [hl, Nat.add_mul], fun j y hj => ?_⟩
  by_cases hjl : j < fs.length
  · rw [List.getElem?_append_left hjl] at hj
    obtain ⟨ao', c', e1, e2, e3, h4, h5⟩ := hx j y hj
    exact ⟨ao', c', by rw [List.getElem?_append_left (by omega)]; exact e1, by rw [List.getElem?_append_left (by omega)]; exact e2, by rw [List.getElem?_append_left (by omega)]; exact e3, h4, h5⟩
  · have hjl2 : j = fs.length := by
      have := (List.getElem?_eq_some_iff.1 hj).1
      simp at this; omega
    subst hjl2
    rw [List.getElem?_append_right (Nat.le_refl _), Nat.sub_self] at hj
    simp only [List.getElem?_cons_zero, Option.some.injEq] at hj
    subst hj
    refine ⟨ao, c, ?_, ?_, ?_, hr, hG⟩
    · rw [List.getElem?_append_right (by omega), show fs.length * 3 - xs.length = 0 by omega]; rfl
    · rw [List.getElem?_append_right (by omega), show fs.length * 3 + 1 - xs.length = 1 by omega]; rfl
    · rw [List.getElem?_append_right (by omega), show fs.length * 3 + 2 - xs.length = 2 by omega]; rfl
theorem erase_next {fs : List Ent} {i k : Nat} {x : Ent} (hx : fs[i]? = some x) (h : i ≠ k) : (fs.take (i + 1)).eraseIdx k = (fs.take i).eraseIdx k ++ [x] := by
  have hlt := (List.getElem?_eq_some_iff.1 hx).1
  have hl : (fs.take i).length = i := by rw [List.length_take]; omega
  rw [List.take_add_one, hx]
  simp only [Option.toList_some]
  by_cases hk : k < i
  · rw [List.eraseIdx_append_of_lt_length (by omega)]
  · rw [List.eraseIdx_of_length_le (by simp [hl]; omega), List.eraseIdx_of_length_le (by omega)]
theorem erase_skip {fs : List Ent} {k : Nat} {x : Ent} (hx : fs[k]? = some x) : (fs.take (k + 1)).eraseIdx k = (fs.take k).eraseIdx k := by
  have hlt := (List.getElem?_eq_some_iff.1 hx).1
  have hl : (fs.take k).length = k := by rw [List.length_take]; omega
  rw [List.take_add_one, hx]
  simp only [Option.toList_some]
  rw [List.eraseIdx_append_of_length_le (by omega), hl, Nat.sub_self, List.eraseIdx_of_length_le (l := fs.take k) (by omega)]
  simp
set_option maxHeartbeats 2000000 in
theorem ref_drop (r : Nat) (M : MD) (F G : List Nat) (k : Nat) (w : World) (h : RD w r M F G) (hl : M.fs.length < 900000) (hfit : Fit (M.fs.eraseIdx k)) :
    Calls Tryz.prog 137 #[theRef r, .int .i64 k] w fun e w' => e = .returned (.tuple #[]) ∧ RNext w w' r { M with fs := M.fs.eraseIdx k } F G [] := by -- 94
  obtain ⟨hf, s, ao, c, xs, hR, hP, hv, hown, hT, hF, hne, hGd⟩ := h
  obtain ⟨n, hn⟩ : ∃ n, n = M.fs.length := ⟨_, rfl⟩
  have HN := Lib.hid hn
  have HR := Lib.hid (And.intro hR (And.intro hP hfit))
  have HF := Lib.hid (And.intro hF (And.intro hne hGd))
  rw [← hn] at hv hown hl
  have HO := Lib.hid (And.intro hown (And.intro hT hv))
  clear hR hP hv hown hT hne hGd hF hn hf hfit
  unfold theRef
  go_enter Tryz.func137, Tryz.ntmps137
  go_wp2_with fail
  go_loopw [4, 5] (fun lv i wr => ∃ j : Nat, j ≤ n ∧ i = .int .i64 j ∧ Hid (∃ ao' m c' vs, lv = .slice ao' m c' ∧ m = ((M.fs.take j).eraseIdx k).length ∧ wr.ownsRow w.heap.size 104 3 (.slice ao' m c') m vs ∧ TellR wr G vs ((M.fs.take j).eraseIdx k) ∧ Below w.heap.size w wr))
    (fun _ i _ => n - (intOf i).toNat)
  case atStart => exact ⟨0, Nat.zero_le _, rfl, Lib.hid ⟨none, 0, 0, [], rfl, by simp, World.ownsRow_nil _ _ _ _, by simpa using TellR.nil w G, Below.refl _ _⟩⟩
  case round =>
    obtain ⟨j, hj, rfl, hrel⟩ := hrel
    obtain ⟨ao', m, c', vs, rfl, hm, hownL, hTL, hbel⟩ := hrel.out
    clear hrel
    have hRr := HR.out.1.turn (turn_below hbel) (by simp)
    have c5 := hRr.c5
    rw [HO.out.2.2] at c5
    have hownr : wr.ownsRow 0 104 3 (.slice ao n c) n xs := owns_turn HO.out.1 (turn_below hbel) (by simp)
    have e5 := hRr.free 5
    clear hRr
    by_cases h1 : j < n
    · have h3 : (j : Int) < (n : Int) := by omega
      obtain ⟨x, hx⟩ : ∃ x, M.fs[j]? = some x := ⟨_, List.getElem?_eq_getElem (by have := HN.out; omega)⟩
      obtain ⟨ab, cb, q1, q2, q3, hrd, hgb⟩ := HO.out.2.1.2 j x hx
      have hxl : xs.length = n * 3 := by rw [HO.out.2.1.1, HN.out]
      obtain ⟨g, rfl, k1, _⟩ := row_cell hownr hxl q1
      obtain ⟨g2, e2, k2, _⟩ := row_cell hownr hxl q2
      obtain ⟨g3, e3, k3, _⟩ := row_cell hownr hxl q3
      cases e2
      cases e3
      unfold encStr at k1
      by_cases hjk : j = k
      · have hb : ((j : Int) != (k : Int)) = false := by simp [hjk]
        have HX := Lib.hid (And.intro hx (And.intro hownL (And.intro hTL (And.intro hbel (And.intro hm hjk)))))
        clear hx hownL hTL hbel hm hrd hgb hownr q1 q2 q3 hxl
        go_wp2_with fail
        obtain ⟨hx, hownL, hTL, hbel, hm, hjk⟩ := HX.out
        refine ⟨⟨j + 1, by omega, by simp [hjk], Lib.hid ⟨ao', m, c', vs, rfl, ?_, hownL, ?_, hbel⟩⟩, by simp [intOf]; omega⟩
        · rw [hjk] at hx hm ⊢
          rw [erase_skip hx]; exact hm
        · rw [hjk] at hx hTL ⊢
          rw [erase_skip hx]; exact hTL
      · have hb : ((j : Int) != (k : Int)) = true := by simp; omega
        have hml : m ≤ n := by
          rw [hm]
          have := List.length_eraseIdx_le (M.fs.take j) k
          rw [List.length_take] at this
          omega
        have FL : Hid (m + 1 ≤ 1000000) := Lib.hid (by omega)
        have HX := Lib.hid (And.intro hx (And.intro hownL (And.intro hTL (And.intro hbel (And.intro hm (And.intro hjk (And.intro hrd hgb)))))))
        clear hx hownL hTL hbel hm hrd hgb hownr q1 q2 q3 hxl
        go_wp2_with (at_builtin; refine wpList_append_gen elemFile rfl (.tmp 18) (.tmp 26) rfl w.heap.size (.slice ao' m c') m vs rfl (HX.out.2.1.alloc _) _ 1 [encStr x.1, .slice ab x.2.1.length cb, .int .i64 (x.2.2 : Nat)] rfl (Cells.lit wr [encStr x.1, .slice ab x.2.1.length cb, .int .i64 (x.2.2 : Nat)] 104 (0, 0) 3 1 rfl) (by intro u hu; simp only [List.mem_cons, List.not_mem_nil, or_false] at hu; rcases hu with rfl | rfl | rfl <;> rfl) (m + 1) rfl FL (by decide) (Nat.le_trans HX.out.2.2.2.1.size (by simp)) ?_; intro ao6 c6 w6 hown6 hb6 hg6 ho6)
        obtain ⟨hx, hownL, hTL, hbel, hm, hjk, hrd, hgb⟩ := HX.out
        have hbw : Below w.heap.size w w6 := hbel.trans (((Below.refl _ wr).alloc hbel.size _).trans hb6)
        refine ⟨⟨j + 1, by omega, by simp, Lib.hid ⟨ao6, m + 1, c6, _, rfl, ?_, hown6, ?_, hbw⟩⟩, by simp [intOf]; omega⟩
        · rw [erase_next hx hjk, List.length_append, ← hm]; rfl
        · rw [erase_next hx hjk]
          have tw := turn_below hbw
          have t2 : Turn [] wr (wr.alloc (.cells #[encStr x.1, .slice ab x.2.1.length cb, .int .i64 (x.2.2 : Nat)] 104)) := (Turn.refl [] wr).alloc _
          have hTL6 : TellR w6 G vs ((M.fs.take j).eraseIdx k) := by
            refine ⟨hTL.1, fun i y hi => ?_⟩
            obtain ⟨a1, b1, e1, e2, e3, e4, e5⟩ := hTL.2 i y hi
            refine ⟨a1, b1, e1, e2, e3, ?_, e5⟩
            have hmem : y ∈ M.fs := List.mem_of_mem_take (List.mem_of_mem_eraseIdx (List.mem_of_getElem? hi))
            refine (e4.alloc (.cells #[encStr x.1, .slice ab x.2.1.length cb, .int .i64 (x.2.2 : Nat)] 104)).turn (F := (Value.slice ao' m c').ownBlock.toList) (Turn.of_grown hg6 (by intro k e; simp [e])) fun hne2 a n c e => ?_
            simp only [Value.slice.injEq] at e
            have h5 := (HF.out.2.2 _ (e5 (by intro e2; rw [e2] at hne2; exact hne2 rfl) a e.1)).2
            intro hmm
            have := (hownL.lt a.block (by simpa using hmm)).1
            omega
          exact hTL6.snoc x ab cb (hrd.turn tw (by simp)) hgb
    · have h3 : ¬ (j : Int) < (n : Int) := by omega
      obtain rfl : j = n := by omega
      have hkL : M.fs.take j = M.fs := List.take_of_length_le (by have := HN.out; omega)
      rw [hkL] at hm hTL
      have HX := Lib.hid (And.intro hownL (And.intro hTL (And.intro hbel hm)))
      clear hownL hTL hbel hm hownr
      go_wp2_with fail
      trace_state
      go_end0
      obtain ⟨hownL, hTL, hbel, hm⟩ := HX.out
      obtain ⟨hF, hne, hGd⟩ := HF.out
      obtain ⟨hR, hP, hfit⟩ := HR.out
      have tb := turn_below hbel
      have t5 : Turn [r] wr (wr.setCell ⟨r, 5, none⟩ (.slice ao' m c')) := (Turn.refl [r] wr).set (.inl (by simp)) 5 _
      have tw : Turn [r] w (wr.setCell ⟨r, 5, none⟩ (.slice ao' m c')) := (tb.mono (by simp)).trans t5
      have hrl := hR.lt
      have hG : ∀ q ∈ G, q ∉ [r] := fun q hq hm => (hGd q hq).1 (by simp at hm; simp [hm, hF])
      have hlow : ∀ g, (Value.slice ao' m c').ownBlock = some g → w.heap.size ≤ g := fun g hg => (hownL.lt g hg).1
      refine ⟨rfl, r :: (Value.slice ao' m c').ownBlock.toList, G, ⟨hfit, { s with fv := .slice ao' m c' }, ao', c', vs, (hR.turn tb (by simp)).set5 _, ?_, by rw [hm], ?_, hTL.turn t5 hG, by rw [hm], ?_, fun q hq => ⟨fun hqm => ?_, Nat.lt_of_lt_of_le (hGd q hq).2 tw.size⟩⟩, fun q hq => ?_, fun q hq => .inl hq, tw.mono (by rw [hF]; simp)⟩
      · have hP' := hP.turn tw hG
        exact ⟨hP.cap, hP.cr, hP.dn, hP.n, hP.dw, hP'.fail, hP'.keep, hP.failG, hP.keepG, hP.n0⟩
      · rw [← hm]
        exact owns_base (owns_turn hownL t5 (fun g hg => by have := hlow g hg; simp; omega)) (Nat.zero_le _)
      · rw [← hm]
        intro e
        have := hlow r e
        omega
      · simp only [List.mem_cons, Option.mem_toList] at hqm
        rcases hqm with rfl | hqm
        · exact hG q hq (by simp)
        · have := hlow q hqm
          have := (hGd q hq).2
          omega
      · simp only [List.mem_cons, Option.mem_toList] at hq
        rcases hq with rfl | hq
        · exact .inl (by rw [hF]; simp)
        · exact .inr (hlow q hq)
end Go.Proofs.YthcdkggkoanjpaaGreatDoor
namespace Go.Proofs.YthcdkggkoanjpaaGreatDoor
open Go.RowKit Go.Maps Go.Sort Go.WideMaps
def MD.gate (M : MD) : Bool × Int × MD :=
  if M.dw = true then (false, 7, M)
  else if M.n + 1 = M.cr then (M.dn, 7, { M with n := M.n + 1, dw := true })
  else if M.fail.contains (M.n + 1) = true then (false, 6, { M with n := M.n + 1 })
  else (true, 0, { M with n := M.n + 1 })
theorem ints_at {w : World} {ao : Option Addr} {c n : Nat} {zs : List Int} (h : Reads w (.slice ao n c) (iv zs)) {k : Nat} (hk : k < zs.length) : ∃ a, ao = some a ∧ w.cell? (a.add k) = some (.int .i64 (zs.getD k 0)) := by
  obtain ⟨ao', c', e, h0, h1, h2⟩ := h
  simp only [Value.slice.injEq, iv_length] at e h0
  obtain ⟨rfl, rfl, rfl⟩ := e
  cases ao with
  | none =>
    have := (h1 rfl).1
    have : zs = [] := by simpa [iv] using this
    subst this; simp at hk
  | some a =>
    refine ⟨a, rfl, h2 a rfl k _ ?_⟩
    simp [iv, List.getElem?_map, List.getElem?_eq_getElem hk, List.getD_eq_getElem?_getD]
theorem RD.counted {w w' : World} {r : Nat} {M : MD} {F G : List Nat} (h : RD w r M F G) (d : Bool) (t : Turn [r] w w')
    (hC : ∀ s, RefC w r s → RefC w' r { s with n := M.n + 1, dw := d }) : RD w' r { M with n := M.n + 1, dw := d } F G ∧ Turn F w w' := by
  have hr := h.own
  obtain ⟨hf, s, ao, c, xs, hR, hP, hv, hown, hT, rfl, hne, hGd⟩ := h
  have hG : ∀ k ∈ G, k ∉ [r] := fun k hk hm => (hGd k hk).1 (by simp at hm; simp [hm])
  have hP' := hP.turn t hG
  have tF : Turn (r :: (Value.slice ao M.fs.length c).ownBlock.toList) w w' := t.mono (by simp)
  exact ⟨⟨hf, _, ao, c, xs, hC s hR, ⟨hP.cap, hP.cr, hP.dn, rfl, rfl, hP'.fail, hP'.keep, hP.failG, hP.keepG, by have := hP.n0; show 0 ≤ M.n + 1; omega⟩, hv, owns_turn hown t (fun g hg => by simp; rintro rfl; exact hne hg), hT.turn t hG, rfl, hne, fun k hk => ⟨(hGd k hk).1, Nat.lt_of_lt_of_le (hGd k hk).2 t.size⟩⟩, tF⟩
set_option maxHeartbeats 1000000 in
theorem ref_gate (r : Nat) (M : MD) (F G : List Nat) (w : World) (h : RD w r M F G) (hn1 : M.n < 900000) (hfl : M.fail.length < 900000) :
    Calls Tryz.prog 118 #[theRef r] w fun e w' => e = .returned (.tuple #[.bool M.gate.1, .int .i64 M.gate.2.1]) ∧ RD w' r M.gate.2.2 F G ∧ Turn F w w' := by
  have HD := Lib.hid h
  obtain ⟨hf, s, ao, c, xs, hR, hP, hv, hown, hT, hF, hne, hGd⟩ := h
  have hn0 := hP.n0
  have hsd : s.dw = M.dw := hP.dw
  have c7 := hR.c7
  rw [hP.dw] at c7
  unfold theRef
  by_cases hdw : M.dw = true
  · have hga : M.gate = (false, 7, M) := by unfold MD.gate; rw [if_pos hdw]
    rw [hdw] at c7
    clear hP hv hown hT hne hGd hF hR hf
    go_enter Tryz.func118, Tryz.ntmps118
    go_wp2_with fail
    go_ret2
    rw [hga]
    exact ⟨rfl, HD.out, Turn.refl _ _⟩
  · have hdw1 := hdw
    rw [Bool.not_eq_true] at hdw
    rw [hdw] at c7
    have c6 := hR.c6
    have e6 := hR.free 6
    rw [hP.n] at c6
    have u6 : wrap64 (M.n + 1) = M.n + 1 := wrap64_id _ (by omega)
    have HC := Lib.hid (fun s (h : RefC w r s) => h.set6 (M.n + 1))
    have d6 := (hR.set6 (M.n + 1)).c6
    have d2 := (hR.set6 (M.n + 1)).c2
    have d3 := (hR.set6 (M.n + 1)).c3
    have d1 := (hR.set6 (M.n + 1)).c1
    have f7 := (hR.set6 (M.n + 1)).free 7
    have d7 := (hR.set6 (M.n + 1)).c7
    simp only at d6 d2 d3 d1 d7
    rw [hP.dw, hdw] at d7
    rw [hP.cr] at d2
    rw [hP.dn] at d3
    have tw : Turn [r] w (w.setCell ⟨r, 6, none⟩ (.int .i64 (M.n + 1))) := (Turn.refl [r] w).set (.inl (by simp)) 6 _
    have hG : ∀ k ∈ G, k ∉ [r] := fun k hk hm => (hGd k hk).1 (by simp at hm; simp [hm, hF])
    have hfail := hP.fail.turn tw (fun hne2 a n c e => hG _ (hP.failG (by intro e2; rw [e2] at hne2; exact hne2 rfl) a n c e))
    obtain ⟨af, cf, hflv⟩ : ∃ af cf, s.fl = .slice af M.fail.length cf := by obtain ⟨a', c', e, _⟩ := hP.fail; exact ⟨a', c', by rw [e, iv_length]⟩
    rw [hflv] at d1 hfail
    have HT := Lib.hid tw
    have HFA := Lib.hid hfail
    have HSD : Hid (∀ s', RefC w r s' → s'.dw = M.dw) := Lib.hid fun s' h' => by
      have := h'.c7
      rw [hR.c7] at this
      have e : s.dw = s'.dw := by simpa using this
      rw [← e, hsd]
    clear hP hv hown hT hne hGd hF hR hf hfail tw hG hflv hsd
    go_enter Tryz.func118, Tryz.ntmps118
    go_wp2_with fail
    clear c6 c7 e6 u6
    generalize w.setCell ⟨r, 6, none⟩ (.int .i64 (M.n + 1)) = w1 at *
    by_cases hcr : M.n + 1 = M.cr
    · have hga : M.gate = (M.dn, 7, { M with n := M.n + 1, dw := true }) := by unfold MD.gate; rw [if_neg hdw1, if_pos hcr]
      have HGA := Lib.hid hga
      have hb : (M.n + 1 == M.cr) = true := by simpa using hcr
      have HCR := Lib.hid hcr
      clear hcr d1 hga
      go_quiet (fail)
      go_wp2_with fail
      go_ret2
      rw [HGA.out]
      refine ⟨rfl, HD.out.counted true ?_ fun s hs => ?_⟩
      · exact (HT.out.drewN nq).set (.inl (by simp)) 7 _
      · exact (show RefC (w1.drewN nq) r _ from HC.out s hs).set7 true
    · have hga : M.gate = if M.fail.contains (M.n + 1) = true then (false, 6, { M with n := M.n + 1 }) else (true, 0, { M with n := M.n + 1 }) := by unfold MD.gate; rw [if_neg hdw1, if_neg hcr]
      have HGA := Lib.hid hga
      have hb : (M.n + 1 == M.cr) = false := by simpa using hcr
      have eM : ({ M with n := M.n + 1 } : MD) = { M with n := M.n + 1, dw := false } := by rw [← hdw]
      have HEND : ∀ q, RD (w1.drewN q) r { M with n := M.n + 1 } F G ∧ Turn F w (w1.drewN q) := fun q => by
        rw [eM]
        refine HD.out.counted false (HT.out.drewN q) fun s hs => ?_
        have := HC.out s hs
        have e : ({ s with n := M.n + 1, dw := false } : RS) = { s with n := M.n + 1 } := by
          rw [← hdw, ← HSD.out s hs]
        rw [e]
        exact this
      have HE := Lib.hid HEND
      clear hcr HEND eM hga
      go_quiet (fail)
      go_wp2_with fail
      obtain ⟨m, hm⟩ : ∃ m, m = M.fail.length := ⟨_, rfl⟩
      rw [← hm] at d1 HFA hfl
      have HM := Lib.hid hm
      clear hm hb
      go_loopw [4] (fun i wr => ∃ k q : Nat, k ≤ m ∧ i = .int .i64 k ∧ Hid (∀ j, j < k → M.fail.getD j 0 ≠ M.n + 1) ∧ wr = w1.drewN q)
        (fun i _ => m - (intOf i).toNat)
      case atStart => exact ⟨0, nq, Nat.zero_le _, rfl, Lib.hid (fun j hj => by omega), rfl⟩
      case round =>
        obtain ⟨k, q, hk, rfl, hno, rfl⟩ := hrel
        by_cases h1 : k < m
        · have h3 : (k : Int) < (m : Int) := by omega
          obtain ⟨a, rfl, hc⟩ := ints_at HFA.out (k := k) (by have := HM.out; omega)
          generalize hz : M.fail.getD k 0 = z at *
          by_cases hzn : z = M.n + 1
          · have hb : (z == M.n + 1) = true := by simpa using hzn
            have HX := Lib.hid (And.intro hz hzn)
            clear hz hzn
            go_wp2_with fail
            go_quiet (fail)
            go_wp2_with fail
            go_ret2
            have hcon : M.fail.contains (M.n + 1) = true := by
              have hlt : k < M.fail.length := by have := HM.out; omega
              have e : M.fail[k] = M.n + 1 := by
                have := HX.out.1
                rw [List.getD_eq_getElem?_getD, List.getElem?_eq_getElem hlt] at this
                rw [← HX.out.2, ← this]; rfl
              simp only [List.contains_iff_mem]
              rw [← e]
              exact List.getElem_mem hlt
            rw [HGA.out, if_pos hcon]
            rw [World.drewN_drewN]
            exact ⟨rfl, HE.out _⟩
          · have hb : (z == M.n + 1) = false := by simpa using hzn
            have HX := Lib.hid (And.intro hz hzn)
            clear hz hzn
            go_wp2_with fail
            go_quiet (fail)
            go_wp2_with fail
            refine ⟨⟨k + 1, _, by omega, by simp, Lib.hid (fun j hj => ?_), rfl⟩, by simp [intOf]; omega⟩
            by_cases hjk : j < k
            · exact hno.out j hjk
            · obtain rfl : j = k := by omega
              rw [HX.out.1]; exact HX.out.2
        · have h3 : ¬ (k : Int) < (m : Int) := by omega
          obtain rfl : k = m := by omega
          go_wp2_with fail
          go_ret2
          have hcon : ¬ M.fail.contains (M.n + 1) = true := by
            intro hc
            rw [List.contains_iff_mem] at hc
            obtain ⟨j, hj, e⟩ := List.getElem_of_mem hc
            refine hno.out j (by have := HM.out; omega) ?_
            rw [List.getD_eq_getElem?_getD, List.getElem?_eq_getElem hj, ← e]; rfl
          rw [HGA.out, if_neg hcon]
          exact ⟨rfl, HE.out _⟩
end Go.Proofs.YthcdkggkoanjpaaGreatDoor
namespace Go.Proofs.YthcdkggkoanjpaaGreatDoor
open Go.RowKit Go.Maps Go.Sort Go.WideMaps
theorem own_setD {w : World} {base e size g n c : Nat} {xs : List Value} (h : w.ownsRow base e size (.slice (some ⟨g, 0, none⟩) n c) n xs) (j : Nat) (v : Value) (hj : j < xs.length) :
    (w.setCell ⟨g, j, none⟩ v).ownsRow base e size (.slice (some ⟨g, 0, none⟩) n c) n (xs.set j v) := by
  obtain ⟨h1, h2 | ⟨g', cap, cur, e, hb, hg, hnc, hcm, hcs, ht⟩⟩ := h
  · exact absurd h2.1 (by simp)
  · simp only [Value.slice.injEq, Option.some.injEq, Addr.mk.injEq, and_true] at e
    obtain ⟨rfl, _, rfl⟩ := e
    refine ⟨by rw [List.length_set]; omega, .inr ⟨g, c, cur.setIfInBounds j v, rfl, hb, heap_set hg _ _, hnc, hcm, by simpa using hcs, ?_⟩⟩
    rw [← ht]
    simp [List.take_set]
theorem TellR.put {w w' : World} {G : List Nat} {zs : List Value} {L : List Ent} (h : TellR w G zs L) (t : Turn [] w w' ∨ ∃ g, Turn [g] w w' ∧ g ∉ G) (k : Nat) (y : Ent) (ao : Option Addr) (c : Nat) (hr : Reads w' (.slice ao y.2.1.length c) (bv y.2.1)) (hG : y.2.1 ≠ [] → ∀ a, ao = some a → a.block ∈ G) :
    TellR w' G (((zs.set (k * 3) (encStr y.1)).set (k * 3 + 1) (.slice ao y.2.1.length c)).set (k * 3 + 2) (.int .i64 (y.2.2 : Nat))) (L.set k y) := by
  have h' : TellR w' G zs L := by
    rcases t with t | ⟨g, t, hg⟩
    · exact h.turn t (by simp)
    · exact h.turn t (by intro k hk; simp; rintro rfl; exact hg hk)
  obtain ⟨hl, hx⟩ := h'
  refine ⟨by simp [hl], fun j x hj => ?_⟩
  by_cases hjk : j = k
  · subst hjk
    have hlt : j < L.length := by have := (List.getElem?_eq_some_iff.1 hj).1; simpa using this
    rw [List.getElem?_set_self hlt] at hj
    simp only [Option.some.injEq] at hj
    subst hj
    refine ⟨ao, c, ?_, ?_, ?_, hr, hG⟩
    · rw [List.getElem?_set_ne (by omega), List.getElem?_set_ne (by omega), List.getElem?_set_self (by omega)]
    · rw [List.getElem?_set_ne (by omega), List.getElem?_set_self (by simp; omega)]
    · rw [List.getElem?_set_self (by simp; omega)]
  · rw [List.getElem?_set_ne (by omega)] at hj
    obtain ⟨ao', c', e1, e2, e3, h4, h5⟩ := hx j x hj
    refine ⟨ao', c', ?_, ?_, ?_, h4, h5⟩
    · rw [List.getElem?_set_ne (by omega), List.getElem?_set_ne (by omega), List.getElem?_set_ne (by omega)]; exact e1
    · rw [List.getElem?_set_ne (by omega), List.getElem?_set_ne (by omega), List.getElem?_set_ne (by omega)]; exact e2
    · rw [List.getElem?_set_ne (by omega), List.getElem?_set_ne (by omega), List.getElem?_set_ne (by omega)]; exact e3
def movedE (fs : List Ent) (p : Nat) : List Ent := (fs ++ [([], [], 0)]).take (p + 1) ++ fs.drop p
theorem movedE_length (fs : List Ent) {p : Nat} (h : p ≤ fs.length) : (movedE fs p).length = fs.length + 1 := by
  simp only [movedE, List.length_append, List.length_take, List.length_drop, List.length_cons, List.length_nil]; omega
theorem movedE_start (fs : List Ent) : movedE fs fs.length = fs ++ [([], [], 0)] := by
  unfold movedE
  rw [List.take_of_length_le (by simp), List.drop_length, List.append_nil]
theorem movedE_below {fs : List Ent} {p j : Nat} (hp : p ≤ fs.length) (hj : j < p) : (movedE fs p)[j]? = fs[j]? := by
  unfold movedE
  rw [List.getElem?_append_left (by simp; omega), List.getElem?_take, if_pos (by omega), List.getElem?_append_left (by omega)]
theorem movedE_step {fs : List Ent} {p : Nat} {y : Ent} (hp : p + 1 ≤ fs.length) (hy : fs[p]? = some y) : (movedE fs (p + 1)).set (p + 1) y = movedE fs p := by
  unfold movedE
  have hd : fs.drop p = y :: fs.drop (p + 1) := by
    rw [← List.getElem_cons_drop (h := by omega)]
    congr 1
    rw [List.getElem?_eq_getElem (by omega)] at hy
    exact Option.some.inj hy
  have hl : ((fs ++ [([], [], 0)]).take (p + 1)).length = p + 1 := by simp; omega
  rw [hd, List.take_add_one, List.append_assoc, List.set_append_right _ _ (by rw [hl]; omega), hl, Nat.sub_self]
  obtain ⟨z, hz⟩ : ∃ z, (fs ++ [([], [], 0)])[p + 1]? = some z := ⟨_, List.getElem?_eq_getElem (by simp; omega)⟩
  rw [hz]
  rfl
theorem insE_at {fs : List Ent} {x : Ent} {p : Nat} (hp : p ≤ fs.length) (h1 : ∀ j, j < p → ∀ y, fs[j]? = some y → y.1 < x.1) (h2 : ∀ y, fs[p]? = some y → ¬ y.1 < x.1) : insE x fs = fs.take p ++ x :: fs.drop p := by
  induction fs generalizing p with
  | nil => simp [insE]
  | cons y l ih =>
    unfold insE
    cases p with
    | zero => rw [if_neg (h2 y rfl)]; rfl
    | succ p =>
      rw [if_pos (h1 0 (by omega) y rfl), ih (by simpa using hp) (fun j hj z hz => h1 (j + 1) (by omega) z hz) (fun z hz => h2 z hz)]
      rfl
theorem movedE_end {fs : List Ent} {p : Nat} (x : Ent) (hp : p ≤ fs.length) : (movedE fs p).set p x = fs.take p ++ x :: fs.drop p := by
  unfold movedE
  have hl : ((fs ++ [([], [], 0)]).take p).length = p := by simp; omega
  obtain ⟨z, hz⟩ : ∃ z, (fs ++ [([], [], 0)])[p]? = some z := ⟨_, List.getElem?_eq_getElem (by simp; omega)⟩
  rw [List.take_add_one, hz, List.append_assoc, List.set_append_right _ _ (by rw [hl]; omega), hl, Nat.sub_self]
  rw [List.take_append_of_le_length hp]
  rfl
end Go.Proofs.YthcdkggkoanjpaaGreatDoor
namespace Go.Proofs.YthcdkggkoanjpaaGreatDoor
open Go.RowKit Go.Maps Go.Sort Go.WideMaps
theorem gate_cases (M : MD) : ∃ ok er M1, M.gate = (ok, er, M1) ∧ M1.fs = M.fs ∧ M1.cap = M.cap ∧ M1.fail = M.fail ∧ M1.keep = M.keep ∧
    ∀ op : Opn, M.act op = if ok = true then (tell7 M1 (op M.cap M.fs).1, { M1 with fs := (op M.cap M.fs).2 }) else (er, M1) := by
  unfold MD.gate MD.act tell7
  by_cases hdw : M.dw = true
  · rw [if_pos hdw]
    exact ⟨_, _, _, rfl, rfl, rfl, rfl, rfl, fun op => by rw [if_pos hdw, if_neg (by simp)]⟩
  · rw [if_neg hdw]
    by_cases hcr : M.n + 1 = M.cr
    · rw [if_pos hcr]
      refine ⟨_, _, _, rfl, rfl, rfl, rfl, rfl, fun op => ?_⟩
      rw [if_neg hdw, if_pos hcr]
      by_cases hdn : M.dn = true
      · rw [if_pos hdn, if_pos hdn, if_pos rfl]
      · rw [if_neg hdn, if_neg hdn]
    · rw [if_neg hcr]
      by_cases hfa : M.fail.contains (M.n + 1) = true
      · rw [if_pos hfa]
        exact ⟨_, _, _, rfl, rfl, rfl, rfl, rfl, fun op => by rw [if_neg hdw, if_neg hcr, if_pos hfa, if_neg (by simp)]⟩
      · rw [if_neg hfa]
        exact ⟨_, _, _, rfl, rfl, rfl, rfl, rfl, fun op => by rw [if_neg hdw, if_neg hcr, if_neg hfa, if_pos rfl, if_neg hdw]⟩
theorem place_none {k : List UInt8} {fs : List Ent} (h : fs.find? (isName k) = none) : placeE k fs = -1 := by
  unfold placeE
  have : fs.findIdx? (isName k) = none := by
    rw [List.findIdx?_eq_none_iff]
    intro x hx
    have := List.find?_eq_none.1 h x hx
    simpa using this
  rw [this]
theorem place_some {k : List UInt8} {fs : List Ent} {x : Ent} (hr : Rising fs) (h : fs.find? (isName k) = some x) :
    ∃ i : Nat, placeE k fs = i ∧ fs[i]? = some x ∧ (∀ u : Ent → Ent, fs.set i (u x) = updE k u fs) ∧ fs.eraseIdx i = woE k fs := by
  obtain ⟨hm, hk⟩ := find_memE h
  obtain ⟨i, hi, rfl⟩ := List.getElem_of_mem hm
  have hne : ∀ j (hj : j < fs.length), isName k fs[j] = true → j = i := by
    intro j hj e
    have e2 : fs[j].1 = fs[i].1 := (isName_iff.1 e).trans hk.symm
    rcases Nat.lt_trichotomy j i with hlt | he | hlt
    · have := List.pairwise_iff_getElem.1 hr j i hj hi hlt
      rw [e2] at this
      exact absurd this (List.lt_irrefl _)
    · exact he
    · have := List.pairwise_iff_getElem.1 hr i j hi hj hlt
      rw [e2] at this
      exact absurd this (List.lt_irrefl _)
  have hf : fs.findIdx? (isName k) = some i := by
    rw [List.findIdx?_eq_some_iff_getElem]
    refine ⟨hi, isName_iff.2 hk, fun j hj => ?_⟩
    intro e
    have := hne j (by omega) (by simpa using e)
    omega
  refine ⟨i, by unfold placeE; rw [hf], List.getElem?_eq_getElem hi, fun u => ?_, ?_⟩
  · apply List.ext_getElem?
    intro j
    unfold updE
    rw [List.getElem?_map]
    by_cases hj : j < fs.length
    · rw [List.getElem?_eq_getElem hj]
      simp only [Option.map_some]
      by_cases hji : j = i
      · subst hji
        rw [List.getElem?_set_self hi, if_pos (isName_iff.2 hk)]
      · rw [List.getElem?_set_ne (fun e => hji e.symm), if_neg (fun e => hji (hne j hj e)), List.getElem?_eq_getElem hj]
    · rw [List.getElem?_eq_none (by simp; omega), List.getElem?_eq_none (by omega)]
      rfl
  · unfold woE
    rw [List.eraseIdx_eq_take_drop_succ]
    conv => rhs; rw [← List.take_append_drop i fs, ← List.getElem_cons_drop (h := hi)]
    rw [List.filter_append, List.filter_cons_of_neg (by simp [isName_iff.2 hk])]
    congr 1
    · symm
      rw [List.filter_eq_self]
      intro y hy
      obtain ⟨j, hj, rfl⟩ := List.getElem_of_mem hy
      rw [List.length_take] at hj
      rw [List.getElem_take]
      cases e : isName k fs[j] with
      | false => rfl
      | true => have := hne j (by omega) e; omega
    · symm
      rw [List.filter_eq_self]
      intro y hy
      obtain ⟨j, hj, rfl⟩ := List.getElem_of_mem hy
      rw [List.length_drop] at hj
      rw [List.getElem_drop]
      cases e : isName k (fs[i + 1 + j]'(by omega)) with
      | false => rfl
      | true => have := hne (i + 1 + j) (by omega) e; omega
theorem place_any {k : List UInt8} {fs : List Ent} : (0 ≤ placeE k fs) ↔ fs.any (isName k) = true := by
  unfold placeE
  cases h : fs.findIdx? (isName k) with
  | none =>
    rw [List.findIdx?_eq_none_iff] at h
    constructor
    · intro h0; simp only at h0; omega
    · intro ha
      obtain ⟨x, hx, hn⟩ := List.any_eq_true.1 ha
      rw [h x hx] at hn; cases hn
  | some i =>
    rw [List.findIdx?_eq_some_iff_getElem] at h
    obtain ⟨hi, hn, _⟩ := h
    constructor
    · intro _; exact List.any_eq_true.2 ⟨_, List.getElem_mem hi, hn⟩
    · intro _; simp only; omega
theorem set_same {xs : List Value} {i : Nat} {v : Value} (h : xs[i]? = some v) : xs.set i v = xs := by
  obtain ⟨hi, rfl⟩ := List.getElem?_eq_some_iff.1 h
  exact List.set_getElem_self hi
theorem TellR.bytes {w w' : World} {G : List Nat} {zs : List Value} {L : List Ent} {g : Nat} (h : TellR w G zs L) (t : Turn [g] w w') (hg : g ∉ G) {k : Nat} {x : Ent} (hx : L[k]? = some x) (l : List UInt8) (ao : Option Addr) (c : Nat) (hr : Reads w' (.slice ao l.length c) (bv l)) (hG : l ≠ [] → ∀ a, ao = some a → a.block ∈ G) :
    TellR w' G (zs.set (k * 3 + 1) (.slice ao l.length c)) (L.set k (x.1, l, x.2.2)) := by
  obtain ⟨_, _, e1, e2, e3, _⟩ := h.2 k x hx
  have := h.put (.inr ⟨g, t, hg⟩) k (x.1, l, x.2.2) ao c hr hG
  simp only at this
  rw [set_same e1, set_same (i := k * 3 + 2) (by rw [List.getElem?_set_ne (by omega)]; exact e3)] at this
  exact this
theorem TellR.synced {w w' : World} {G : List Nat} {zs : List Value} {L : List Ent} {g : Nat} (h : TellR w G zs L) (t : Turn [g] w w') (hg : g ∉ G) {k : Nat} {x : Ent} (hx : L[k]? = some x) (q : Nat) :
    TellR w' G (zs.set (k * 3 + 2) (.int .i64 q)) (L.set k (x.1, x.2.1, q)) := by
  obtain ⟨ao, c, e1, e2, e3, e4, e5⟩ := h.2 k x hx
  have := h.put (.inr ⟨g, t, hg⟩) k (x.1, x.2.1, q) ao c (e4.turn t fun hne a n c e => by
    simp only [Value.slice.injEq] at e
    have h5 := e5 (by intro e2; rw [e2] at hne; exact hne rfl) a e.1
    simp only [List.mem_singleton]
    intro e3
    exact hg (by rw [← e3]; exact h5)) e5
  simp only at this
  rw [set_same e1, set_same e2] at this
  exact this
theorem RD.filed {w w' : World} {r n c g : Nat} {M : MD} {F G G' : List Nat} {s : RS} {xs' : List Value} {k : Nat} {y : Ent} (hR : RefC w r s) (hP : RP w s M G) (hv : s.fv = .slice (some ⟨g, 0, none⟩) n c) (hn : n = M.fs.length) (hF : F = [r, g]) (hne : g ≠ r) (hgw : g < w.heap.size) (hGd : ∀ q ∈ G, q ∉ F ∧ q < w.heap.size)
    (hfit : Fit (M.fs.set k y)) (t : Turn [g] w w') (hown : w'.ownsRow 0 104 3 (.slice (some ⟨g, 0, none⟩) n c) n xs') (hT : TellR w' G' xs' (M.fs.set k y)) (hG : ∀ q ∈ G, q ∈ G') (hG' : ∀ q ∈ G', q ∈ G ∨ w.heap.size ≤ q) (hG2 : ∀ q ∈ G', q < w'.heap.size) :
    RNext w w' r { M with fs := M.fs.set k y } F G [] := by
  subst hn hF
  have hl : (M.fs.set k y).length = M.fs.length := by simp
  have hGg : ∀ q ∈ G, q ∉ [g] := fun q hq hm => (hGd q hq).1 (by simp at hm; simp [hm])
  have hP' := hP.turn t hGg
  have hrl := hR.lt
  refine ⟨[r, g], G', ⟨hfit, s, some ⟨g, 0, none⟩, c, xs', hR.turn t (by simpa using fun e => hne e.symm), ⟨hP.cap, hP.cr, hP.dn, hP.n, hP.dw, hP'.fail, hP'.keep, fun h a n c e => hG _ (hP.failG h a n c e), fun h a n c e => hG _ (hP.keepG h a n c e), hP.n0⟩, by rw [hl]; exact hv, by rw [hl]; exact hown, hT, by rw [hl]; rfl, by rw [hl]; simpa [Value.ownBlock] using hne, fun q hq => ⟨fun hm => ?_, hG2 q hq⟩⟩, fun q hq => .inl hq, fun q hq => (hG' q hq).imp id .inr, t.mono (by simp)⟩
  rcases hG' q hq with h | h
  · exact (hGd q h).1 hm
  · simp only [List.mem_cons, List.not_mem_nil, or_false] at hm
    rcases hm with e | e <;> omega
end Go.Proofs.YthcdkggkoanjpaaGreatDoor
