/- The reference's gate. Numbers and types by name. -/
import Derived.Test.YtmpjjnjggiipjaaRd
namespace Go.Proofs.Ytmpjjnjggiipjaa
open Go.RowKit Go.Maps Go.Sort Go.WideMaps

def MD.gate (M : MD) : Bool × Int × MD :=
  if M.dw = true then (false, 7, M)
  else if M.n + 1 = M.cr then (M.dn, 7, { M with n := M.n + 1, dw := true })
  else if M.fail.contains (M.n + 1) = true then (false, 6, { M with n := M.n + 1 })
  else (true, 0, { M with n := M.n + 1 })

theorem ints_at {w : World} {ao : Option Addr} {c n : Nat} {zs : List Int} (h : Reads w (.slice ao n c) (iv zs)) {k : Nat} (hk : k < zs.length) : ∃ a, ao = some a ∧ w.cell? (a.add k) = some (.int .i64 (zs.getD k 0)) := by
  obtain ⟨ao', c', e, h0, h1, h2⟩ := h
  simp only [Value.slice.injEq, iv_length] at e h0
  obtain ⟨rfl, rfl, rfl⟩ := e
  cases ao with
  | none =>
    have := (h1 rfl).1
    have : zs = [] := by simpa [iv] using this
    subst this; simp at hk
  | some a =>
    refine ⟨a, rfl, h2 a rfl k _ ?_⟩
    simp [iv, List.getElem?_map, List.getElem?_eq_getElem hk, List.getD_eq_getElem?_getD]

theorem RD.counted {w w' : World} {r : Nat} {M : MD} {F G : List Nat} (h : RD w r M F G) (d : Bool) (t : Turn [r] w w')
    (hC : ∀ s, RefC w r s → RefC w' r { s with n := M.n + 1, dw := d }) : RD w' r { M with n := M.n + 1, dw := d } F G ∧ Turn F w w' := by
  have hr := h.own
  obtain ⟨hf, s, ao, c, xs, hR, hP, hv, hown, hT, rfl, hne, hGd⟩ := h
  have hG : ∀ k ∈ G, k ∉ [r] := fun k hk hm => (hGd k hk).1 (by simp at hm; simp [hm])
  have hP' := hP.turn t hG
  have tF : Turn (r :: (Value.slice ao M.fs.length c).ownBlock.toList) w w' := t.mono (by simp)
  exact ⟨⟨hf, _, ao, c, xs, hC s hR, ⟨hP.cap, hP.cr, hP.dn, rfl, rfl, hP'.fail, hP'.keep, hP.failG, hP.keepG, by have := hP.n0; show 0 ≤ M.n + 1; omega⟩, hv, owns_turn hown t (fun g hg => by simp; rintro rfl; exact hne hg), hT.turn t hG, rfl, hne, fun k hk => ⟨(hGd k hk).1, Nat.lt_of_lt_of_le (hGd k hk).2 t.size⟩⟩, tF⟩

set_option maxHeartbeats 1000000 in
theorem ref_gate (r : Nat) (M : MD) (F G : List Nat) (w : World) (h : RD w r M F G) (hn1 : M.n < 900000) (hfl : M.fail.length < 900000) :
    Calls Try.prog 42 #[theRef r] w fun e w' => e = .returned (.tuple #[.bool M.gate.1, .int .i64 M.gate.2.1]) ∧ RD w' r M.gate.2.2 F G ∧ Turn F w w' := by
  have HD := Lib.hid h
  obtain ⟨hf, s, ao, c, xs, hR, hP, hv, hown, hT, hF, hne, hGd⟩ := h
  have hn0 := hP.n0
  have hsd : s.dw = M.dw := hP.dw
  have c7 := hR.c7
  rw [hP.dw] at c7
  unfold theRef
  by_cases hdw : M.dw = true
  · have hga : M.gate = (false, 7, M) := by unfold MD.gate; rw [if_pos hdw]
    rw [hdw] at c7
    clear hP hv hown hT hne hGd hF hR hf
    go_enter Try.func42, Try.ntmps42
    go_wp2_with fail
    go_ret2
    rw [hga]
    exact ⟨rfl, HD.out, Turn.refl _ _⟩
  · have hdw1 := hdw
    rw [Bool.not_eq_true] at hdw
    rw [hdw] at c7
    have c6 := hR.c6
    have e6 := hR.free 6
    rw [hP.n] at c6
    have u6 : wrap64 (M.n + 1) = M.n + 1 := wrap64_id _ (by omega)
    have HC := Lib.hid (fun s (h : RefC w r s) => h.set6 (M.n + 1))
    have d6 := (hR.set6 (M.n + 1)).c6
    have d2 := (hR.set6 (M.n + 1)).c2
    have d3 := (hR.set6 (M.n + 1)).c3
    have d1 := (hR.set6 (M.n + 1)).c1
    have f7 := (hR.set6 (M.n + 1)).free 7
    have d7 := (hR.set6 (M.n + 1)).c7
    simp only at d6 d2 d3 d1 d7
    rw [hP.dw, hdw] at d7
    rw [hP.cr] at d2
    rw [hP.dn] at d3
    have tw : Turn [r] w (w.setCell ⟨r, 6, none⟩ (.int .i64 (M.n + 1))) := (Turn.refl [r] w).set (.inl (by simp)) 6 _
    have hG : ∀ k ∈ G, k ∉ [r] := fun k hk hm => (hGd k hk).1 (by simp at hm; simp [hm, hF])
    have hfail := hP.fail.turn tw (fun hne2 a n c e => hG _ (hP.failG (by intro e2; rw [e2] at hne2; exact hne2 rfl) a n c e))
    obtain ⟨af, cf, hflv⟩ : ∃ af cf, s.fl = .slice af M.fail.length cf := by obtain ⟨a', c', e, _⟩ := hP.fail; exact ⟨a', c', by rw [e, iv_length]⟩
    rw [hflv] at d1 hfail
    have HT := Lib.hid tw
    have HFA := Lib.hid hfail
    have HSD : Hid (∀ s', RefC w r s' → s'.dw = M.dw) := Lib.hid fun s' h' => by
      have := h'.c7
      rw [hR.c7] at this
      have e : s.dw = s'.dw := by simpa using this
      rw [← e, hsd]
    clear hP hv hown hT hne hGd hF hR hf hfail tw hG hflv hsd
    go_enter Try.func42, Try.ntmps42
    go_wp2_with fail
    clear c6 c7 e6 u6
    generalize w.setCell ⟨r, 6, none⟩ (.int .i64 (M.n + 1)) = w1 at *
    by_cases hcr : M.n + 1 = M.cr
    · have hga : M.gate = (M.dn, 7, { M with n := M.n + 1, dw := true }) := by unfold MD.gate; rw [if_neg hdw1, if_pos hcr]
      have HGA := Lib.hid hga
      have hb : (M.n + 1 == M.cr) = true := by simpa using hcr
      have HCR := Lib.hid hcr
      clear hcr d1 hga
      go_quiet (fail)
      go_wp2_with fail
      go_ret2
      rw [HGA.out]
      refine ⟨rfl, HD.out.counted true ?_ fun s hs => ?_⟩
      · exact (HT.out.drewN nq).set (.inl (by simp)) 7 _
      · exact (show RefC (w1.drewN nq) r _ from HC.out s hs).set7 true
    · have hga : M.gate = if M.fail.contains (M.n + 1) = true then (false, 6, { M with n := M.n + 1 }) else (true, 0, { M with n := M.n + 1 }) := by unfold MD.gate; rw [if_neg hdw1, if_neg hcr]
      have HGA := Lib.hid hga
      have hb : (M.n + 1 == M.cr) = false := by simpa using hcr
      have eM : ({ M with n := M.n + 1 } : MD) = { M with n := M.n + 1, dw := false } := by rw [← hdw]
      have HEND : ∀ q, RD (w1.drewN q) r { M with n := M.n + 1 } F G ∧ Turn F w (w1.drewN q) := fun q => by
        rw [eM]
        refine HD.out.counted false (HT.out.drewN q) fun s hs => ?_
        have := HC.out s hs
        have e : ({ s with n := M.n + 1, dw := false } : RS) = { s with n := M.n + 1 } := by
          rw [← hdw, ← HSD.out s hs]
        rw [e]
        exact this
      have HE := Lib.hid HEND
      clear hcr HEND eM hga
      go_quiet (fail)
      go_wp2_with fail
      obtain ⟨m, hm⟩ : ∃ m, m = M.fail.length := ⟨_, rfl⟩
      rw [← hm] at d1 HFA hfl
      have HM := Lib.hid hm
      clear hm hb
      go_loopw [4] (fun i wr => ∃ k q : Nat, k ≤ m ∧ i = .int .i64 k ∧ Hid (∀ j, j < k → M.fail.getD j 0 ≠ M.n + 1) ∧ wr = w1.drewN q)
        (fun i _ => m - (intOf i).toNat)
      case atStart => exact ⟨0, nq, Nat.zero_le _, rfl, Lib.hid (fun j hj => by omega), rfl⟩
      case round =>
        obtain ⟨k, q, hk, rfl, hno, rfl⟩ := hrel
        by_cases h1 : k < m
        · have h3 : (k : Int) < (m : Int) := by omega
          obtain ⟨a, rfl, hc⟩ := ints_at HFA.out (k := k) (by have := HM.out; omega)
          generalize hz : M.fail.getD k 0 = z at *
          by_cases hzn : z = M.n + 1
          · have hb : (z == M.n + 1) = true := by simpa using hzn
            have HX := Lib.hid (And.intro hz hzn)
            clear hz hzn
            go_wp2_with fail
            go_quiet (fail)
            go_wp2_with fail
            go_ret2
            have hcon : M.fail.contains (M.n + 1) = true := by
              have hlt : k < M.fail.length := by have := HM.out; omega
              have e : M.fail[k] = M.n + 1 := by
                have := HX.out.1
                rw [List.getD_eq_getElem?_getD, List.getElem?_eq_getElem hlt] at this
                rw [← HX.out.2, ← this]; rfl
              simp only [List.contains_iff_mem]
              rw [← e]
              exact List.getElem_mem hlt
            rw [HGA.out, if_pos hcon]
            rw [World.drewN_drewN]
            exact ⟨rfl, HE.out _⟩
          · have hb : (z == M.n + 1) = false := by simpa using hzn
            have HX := Lib.hid (And.intro hz hzn)
            clear hz hzn
            go_wp2_with fail
            go_quiet (fail)
            go_wp2_with fail
            refine ⟨⟨k + 1, _, by omega, by simp, Lib.hid (fun j hj => ?_), rfl⟩, by simp [intOf]; omega⟩
            by_cases hjk : j < k
            · exact hno.out j hjk
            · obtain rfl : j = k := by omega
              rw [HX.out.1]; exact HX.out.2
        · have h3 : ¬ (k : Int) < (m : Int) := by omega
          obtain rfl : k = m := by omega
          go_wp2_with fail
          go_ret2
          have hcon : ¬ M.fail.contains (M.n + 1) = true := by
            intro hc
            rw [List.contains_iff_mem] at hc
            obtain ⟨j, hj, e⟩ := List.getElem_of_mem hc
            refine hno.out j (by have := HM.out; omega) ?_
            rw [List.getD_eq_getElem?_getD, List.getElem?_eq_getElem hj, ← e]; rfl
          rw [HGA.out, if_neg hcon]
          exact ⟨rfl, HE.out _⟩

end Go.Proofs.Ytmpjjnjggiipjaa
