/- The reference's Rename. Numbers and types by name. -/
import Derived.Test.YtmpjjnjggiipjaaRo
namespace Go.Proofs.Ytmpjjnjggiipjaa
open Go.RowKit Go.Maps Go.Sort Go.WideMaps

theorem RD.wide {w : World} {r : Nat} {M : MD} {F G : List Nat} (h : RD w r M F G) (H : List Nat) (hH : ∀ q ∈ H, q ∉ F ∧ q < w.heap.size) : RD w r M F (G ++ H) := by
  obtain ⟨hf, s, ao, c, xs, hR, hP, hv, hown, hT, hF, hne, hGd⟩ := h
  refine ⟨hf, s, ao, c, xs, hR, ⟨hP.cap, hP.cr, hP.dn, hP.n, hP.dw, hP.fail, hP.keep, fun h a n c e => List.mem_append_left _ (hP.failG h a n c e), fun h a n c e => List.mem_append_left _ (hP.keepG h a n c e), hP.n0⟩, hv, hown, hT.more fun k hk => List.mem_append_left _ hk, hF, hne, fun q hq => ?_⟩
  rcases List.mem_append.1 hq with hq | hq
  · exact hGd q hq
  · exact hH q hq

theorem woE_none {k : List UInt8} {fs : List Ent} (h : fs.find? (isName k) = none) : woE k fs = fs := by
  unfold woE
  rw [List.filter_eq_self]
  intro x hx
  have := List.find?_eq_none.1 h x hx
  simpa using this

set_option maxHeartbeats 2000000 in
theorem ref_rename (r : Nat) (M : MD) (F G : List Nat) (src dst : ByteArray) (w : World) (h : RD w r M F G) (hl : Lim M) (hz : dst.size ≤ 1000000) :
    Calls Try.prog 25 #[theRef r, .string src, .string dst] w (Left (RActed w r M F G (opRename src.data.toList dst.data.toList))) := by
  have hll := hl.fs.len
  have hri := h.1.rising
  obtain ⟨ok, er, M1, HM, HGt⟩ := gated r M F G w h hl
  clear h
  unfold theRef
  cases ok with
  | false =>
    go_enter Try.func25, Try.ntmps25
    go_wp2_with fail
    refine HGt.out.mono ?_
    rintro e w1 ⟨rfl, hD1, t1⟩
    have HD := Lib.hid (acted_no (op := opRename src.data.toList dst.data.toList) HM.out hD1 t1)
    clear hD1 t1 HGt
    go_wp2_with fail
    go_ret
    exact ⟨er, rfl, HD.out⟩
  | true =>
    cases hf : M.fs.find? (isName src.data.toList) with
    | none =>
      have HPL : Hid (placeE src.data.toList M1.fs = -1) := Lib.hid (by rw [HM.out.fs]; exact place_none hf)
      have HF := Lib.hid hf
      clear hf
      go_enter Try.func25, Try.ntmps25
      go_wp2_with fail
      refine HGt.out.mono ?_
      rintro e w1 ⟨rfl, hD1, t1⟩
      have HD := Lib.hid (acted_same (op := opRename src.data.toList dst.data.toList) (k := 3) HM.out (by unfold opRename; rw [HF.out]) hD1 t1)
      have hT := ref_told r M1 F G 3 w1 hD1
      have hA := ref_at r M1 F G src w1 hD1 (by rw [HM.out.fs]; exact hll)
      rw [HPL.out] at hA
      unfold theRef at hT hA
      clear hD1 t1 HGt
      go_wp2_with fail
      refine hA.mono ?_
      rintro e w2 ⟨rfl, rfl⟩
      clear hA
      go_wp2_with fail
      refine hT.mono ?_
      rintro e w2 ⟨rfl, rfl⟩
      clear hT
      go_wp2_with fail
      go_ret
      exact ⟨_, rfl, HD.out⟩
    | some x =>
      obtain ⟨i, hi, hx, hset, her⟩ := place_some hri hf
      have HPL : Hid (placeE src.data.toList M1.fs = i) := Lib.hid (by rw [HM.out.fs]; exact hi)
      have HF := Lib.hid (And.intro hf (And.intro her hx))
      have hi0 : ¬ ((i : Nat) : Int) < 0 := by omega
      clear hf hi hx hset her
      have hne := name_empty dst
      by_cases hk : dst.data.toList = []
      · have hne2 : dst.toList.isEmpty = true := by rw [hne]; simpa using hk
        have HK := Lib.hid hk
        clear hne hk
        go_enter Try.func25, Try.ntmps25
        go_wp2_with fail
        refine HGt.out.mono ?_
        rintro e w1 ⟨rfl, hD1, t1⟩
        have HD := Lib.hid (acted_same (op := opRename src.data.toList dst.data.toList) (k := 1) HM.out (by unfold opRename; rw [HF.out.1]; simp only; rw [if_pos HK.out]) hD1 t1)
        have hT := ref_told r M1 F G 1 w1 hD1
        have hA := ref_at r M1 F G src w1 hD1 (by rw [HM.out.fs]; exact hll)
        rw [HPL.out] at hA
        unfold theRef at hT hA
        clear hD1 t1 HGt
        go_wp2_with fail
        refine hA.mono ?_
        rintro e w2 ⟨rfl, rfl⟩
        clear hA
        go_wp2_with fail
        refine hT.mono ?_
        rintro e w2 ⟨rfl, rfl⟩
        clear hT
        go_wp2_with fail
        go_ret
        exact ⟨_, rfl, HD.out⟩
      · have hne2 : dst.toList.isEmpty = false := by rw [hne]; simpa using hk
        have HK := Lib.hid hk
        clear hne hk
        have hbe := name_beq src dst
        by_cases heq : src.data.toList = dst.data.toList
        · have hbe2 : (src.toList == dst.toList) = true := by rw [hbe]; simpa using heq
          have HE := Lib.hid heq
          clear hbe heq
          go_enter Try.func25, Try.ntmps25
          go_wp2_with fail
          refine HGt.out.mono ?_
          rintro e w1 ⟨rfl, hD1, t1⟩
          have HD := Lib.hid (acted_same (op := opRename src.data.toList dst.data.toList) (k := 0) HM.out (by unfold opRename; rw [HF.out.1]; simp only; rw [if_neg HK.out, if_pos HE.out]) hD1 t1)
          have hT := ref_told r M1 F G 0 w1 hD1
          have hA := ref_at r M1 F G src w1 hD1 (by rw [HM.out.fs]; exact hll)
          rw [HPL.out] at hA
          unfold theRef at hT hA
          clear hD1 t1 HGt
          go_wp2_with fail
          refine hA.mono ?_
          rintro e w2 ⟨rfl, rfl⟩
          clear hA
          go_wp2_with fail
          refine hT.mono ?_
          rintro e w2 ⟨rfl, rfl⟩
          clear hT
          go_wp2_with fail
          go_ret
          exact ⟨_, rfl, HD.out⟩
        · have hbe2 : (src.toList == dst.toList) = false := by rw [hbe]; simpa using heq
          have HE := Lib.hid heq
          clear hbe heq
          go_enter Try.func25, Try.ntmps25
          go_wp2_with fail
          refine HGt.out.mono ?_
          rintro e w1 ⟨rfl, hD1, t1⟩
          have hA := ref_at r M1 F G src w1 hD1 (by rw [HM.out.fs]; exact hll)
          rw [HPL.out] at hA
          unfold theRef at hA
          have HD1 := Lib.hid hD1
          have HT := Lib.hid t1
          obtain ⟨hfit, s, ao, c, xs, hR, hP, hv, hown, hTe, hFF, hnn, hGd⟩ := hD1
          have c5 := hR.c5
          rw [hv] at c5
          obtain ⟨ab, cb, q1, q2, q3, hrb, hgb⟩ := hTe.2 i x (by rw [HM.out.fs]; exact HF.out.2.2)
          obtain ⟨g, rfl, k1, _⟩ := row_cell hown (by rw [hTe.1]) q1
          obtain ⟨_, e, k2, _⟩ := row_cell hown (by rw [hTe.1]) q2
          cases e
          obtain ⟨_, e, k3, _⟩ := row_cell hown (by rw [hTe.1]) q3
          cases e
          unfold encStr at k1
          have i1 : ((i : Nat) : Int) < (M1.fs.length : Int) := by
            have := (List.getElem?_eq_some_iff.1 HF.out.2.2).1
            rw [HM.out.fs]; omega
          have HX := Lib.hid (And.intro hrb hgb)
          have c5' := fun o => cell_new c5 o
          have k1' := fun o => cell_new k1 o
          have k2' := fun o => cell_new k2 o
          have k3' := fun o => cell_new k3 o
          clear hfit hR hP hv hown hTe hFF hnn hGd t1 HGt q1 q2 q3 hrb hgb
          go_wp2_with fail
          refine hA.mono ?_
          rintro e w2 ⟨rfl, rfl⟩
          clear hA
          go_wp2_with fail
          have tB : Turn [] w1 (w1.alloc (.cells #[.string dst, .slice ab x.2.1.length cb, .int .i64 (x.2.2 : Nat)] 79)) := (Turn.refl [] w1).alloc _
          have hbox := heap_alloc_new w1 (.cells #[.string dst, .slice ab x.2.1.length cb, .int .i64 (x.2.2 : Nat)] 79)
          have hbx : w1.heap.size ∉ F := fun hm => by have := HD1.out.lt.1 _ hm; omega
          have hrd := ref_drop r M1 F G i _ (HD1.out.new tB) (by rw [HM.out.fs]; exact hll) (by rw [HM.out.fs, HF.out.2.1, ← HM.out.fs]; exact HD1.out.1.wo _)
          unfold theRef at hrd
          generalize w1.alloc (.cells #[.string dst, .slice ab x.2.1.length cb, .int .i64 (x.2.2 : Nat)] 79) = wB at *
          refine hrd.mono ?_
          rintro e w3 ⟨rfl, F3, G3, hD3, h3F, h3G, t3⟩
          have e3 : M1.fs.eraseIdx i = woE src.data.toList M1.fs := by rw [HM.out.fs]; exact HF.out.2.1
          rw [e3] at hD3
          have hb3 := t3.heap hbox hbx
          have HB := Lib.hid (And.intro tB (And.intro hbx (And.intro h3F (And.intro h3G t3))))
          have hl3 : (woE src.data.toList M1.fs).length < 900000 := by rw [HM.out.fs]; exact Nat.lt_of_le_of_lt (List.length_filter_le _ _) hll
          have hA := ref_at r _ F3 G3 dst w3 hD3 hl3
          unfold theRef at hA
          have HD3 := Lib.hid (And.intro hD3 (And.intro hb3 hl3))
          have hcont : ∀ w4 F4 G4, RD w4 r { M1 with fs := woE dst.data.toList (woE src.data.toList M1.fs) } F4 G4 → (∀ k ∈ F4, k ∈ F3 ∨ w3.heap.size ≤ k) → (∀ k ∈ G4, k ∈ G3 ∨ k ∈ ([] : List Nat) ∨ w3.heap.size ≤ k) → Turn F3 w3 w4 →
              w4.cell? ⟨w1.heap.size, 0, none⟩ = some (.string dst) ∧ w4.cell? ⟨w1.heap.size, 1, none⟩ = some (.slice ab x.2.1.length cb) ∧ w4.cell? ⟨w1.heap.size, 2, none⟩ = some (.int .i64 (x.2.2 : Nat)) ∧
              Calls Try.prog 45 #[.pointer (some ⟨r, 0, none⟩), .agg #[.string dst, .slice ab x.2.1.length cb, .int .i64 (x.2.2 : Nat)]] w4 fun e w' => e = .returned (.tuple #[]) ∧
                RNext w w' r { M1 with fs := insE (dst.data.toList, x.2.1, x.2.2) (woE dst.data.toList (woE src.data.toList M.fs)) } F G [] ∧
                ∃ F5 G5, RD w' r { M1 with fs := insE (dst.data.toList, x.2.1, x.2.2) (woE dst.data.toList (woE src.data.toList M.fs)) } F5 G5 := by
            intro w4 F4 G4 hD4 h4F h4G t4
            obtain ⟨hrb, hgb⟩ := HX.out
            have hD1 := HD1.out
            have hGx : x.2.1 ≠ [] → ∀ a, ab = some a → a.block ∉ F ∧ a.block < w1.heap.size := fun hne a e => by
              have := hD1.lt.2 _ (hgb hne a e)
              exact this
            have hs3 := t3.size
            have hsB := tB.size
            have hn3 : ∀ q, q ∉ F → q < w1.heap.size → q ∉ F3 := fun q hq hlt hm => by
              rcases h3F q hm with e | e
              · exact hq e
              · omega
            have hn4 : ∀ q, q ∉ F → q < w1.heap.size → q ∉ F4 := fun q hq hlt hm => by
              rcases h4F q hm with e | e
              · exact hn3 q hq hlt e
              · omega
            have hbx3 : w1.heap.size ∉ F3 := fun hm => by
              rcases h3F _ hm with e | e
              · exact hbx e
              · have := lt_of hbox; omega
            have hb4 := t4.heap hb3 hbx3
            refine ⟨cells_of hb4 0 _ rfl, cells_of hb4 1 _ rfl, cells_of hb4 2 _ rfl, ?_⟩
            have hr4 : Reads w4 (.slice ab x.2.1.length cb) (bv x.2.1) := ((hrb.turn tB (by simp)).turn t3 fun hne a n c e => by
              simp only [Value.slice.injEq] at e
              exact (hGx (by intro e2; rw [e2] at hne; exact hne rfl) a e.1).1).turn t4 fun hne a n c e => by
              simp only [Value.slice.injEq] at e
              have := hGx (by intro e2; rw [e2] at hne; exact hne rfl) a e.1
              exact hn3 _ this.1 this.2
            obtain ⟨H, hH1, hH2, hH3⟩ : ∃ H : List Nat, (x.2.1 ≠ [] → ∀ a, ab = some a → a.block ∈ H) ∧ (∀ q ∈ H, q ∉ F4 ∧ q < w4.heap.size) ∧ ∀ q ∈ H, q ∈ G := by
              by_cases hne : x.2.1 = []
              · exact ⟨[], fun h => absurd hne h, by simp, by simp⟩
              · cases hab : ab with
                | none => exact ⟨[], fun _ a e => (by cases e), by simp, by simp⟩
                | some a =>
                  refine ⟨[a.block], fun _ a' e => (by cases e; simp), fun q hq => ?_, fun q hq => ?_⟩
                  · simp only [List.mem_singleton] at hq
                    subst hq
                    have := hGx hne a hab
                    exact ⟨hn4 _ this.1 this.2, by have := t4.size; omega⟩
                  · simp only [List.mem_singleton] at hq
                    subst hq
                    exact hgb hne a hab
            have hfit4 := hD4.1
            have hxm := List.mem_of_getElem? HF.out.2.2
            have hany : (woE dst.data.toList (woE src.data.toList M1.fs)).any (isName dst.data.toList) = false := by rw [woE_any, if_pos rfl]
            have hP := ref_put r _ F4 (G4 ++ H) (dst.data.toList, x.2.1, x.2.2) ab cb w4 (hD4.wide H hH2) (by rw [HM.out.fs]; exact Nat.lt_of_le_of_lt (Nat.le_trans (List.length_filter_le _ _) (List.length_filter_le _ _)) hll) (hfit4.ins hany (by
              have hsy := hD1.1.sy x (by rw [HM.out.fs]; exact hxm)
              exact hsy) hz) hr4 (fun hne a e => List.mem_append_right _ (hH1 hne a e))
            unfold encStr theRef at hP
            rw [str_mk] at hP
            refine hP.mono ?_
            rintro e w5 ⟨rfl, F5, G5, hD5, h5F, h5G, t5⟩
            simp only [HM.out.fs] at hD5
            refine ⟨rfl, ⟨F5, G5, hD5, fun q hq => ?_, fun q hq => ?_, ?_⟩, F5, G5, hD5⟩
            · have hsz := HT.out.size
              have h4s := t4.size
              rcases h5F q hq with e | e
              · rcases h4F q e with e | e
                · rcases h3F q e with e | e
                  · exact .inl e
                  · exact .inr (by omega)
                · exact .inr (by omega)
              · exact .inr (by omega)
            · have hsz := HT.out.size
              have h4s := t4.size
              rcases h5G q hq with e | e | e
              · rcases List.mem_append.1 e with e | e
                · rcases h4G q e with e | e | e
                  · rcases h3G q e with e | e | e
                    · exact .inl e
                    · cases e
                    · exact .inr (.inr (by omega))
                  · cases e
                  · exact .inr (.inr (by omega))
                · exact .inl (hH3 q e)
              · cases e
              · exact .inr (.inr (by omega))
            · have tB3 : Turn F w1 w3 := (tB.mono (by simp)).trans t3
              have tw3 := HT.out.trans tB3
              have tw4 := tw3.trans' (G := F3) t4 (fun q hq => (h3F q hq).imp id (fun e => by have := HT.out.size; omega))
              exact tw4.trans' (G := F4) t5 (fun q hq => by
                rcases h4F q hq with e | e
                · exact (h3F q e).imp id (fun e => by have := HT.out.size; omega)
                · exact .inr (by have := HT.out.size; omega))
          have HCO := Lib.hid hcont
          have hl3 : (woE src.data.toList M1.fs).length < 900000 := by rw [HM.out.fs]; exact Nat.lt_of_le_of_lt (List.length_filter_le _ _) hll
          have hA := ref_at r _ F3 G3 dst w3 hD3 hl3
          unfold theRef at hA
          have HD3 := Lib.hid (And.intro hD3 hl3)
          have HOP : Hid (opRename src.data.toList dst.data.toList M.cap M.fs = (0, insE (dst.data.toList, x.2.1, x.2.2) (woE dst.data.toList (woE src.data.toList M.fs)))) := Lib.hid (by
            unfold opRename
            rw [HF.out.1]
            simp only
            rw [if_neg HK.out, if_neg HE.out])
          have hri3 := hD3.1.rising
          clear c5 c5' k1 k2 k3 k1' k2' k3' tB hbox hbx hrd hD3 h3F h3G t3 e3 hb3 hl3 hcont
          cases hfd : (woE src.data.toList M1.fs).find? (isName dst.data.toList) with
          | none =>
            rw [place_none hfd] at hA
            have HW := Lib.hid (woE_none hfd)
            clear hfd hri3
            go_wp2_with fail
            refine hA.mono ?_
            rintro e w4 ⟨rfl, rfl⟩
            obtain ⟨b0, b1, b2, hP⟩ := HCO.out w3 F3 G3 (by rw [HW.out]; exact HD3.out.1) (fun k hk => .inl hk) (fun k hk => .inl hk) (Turn.refl _ _)
            have HP := Lib.hid hP
            clear hA hP
            go_wp2_with fail
            refine HP.out.mono ?_
            rintro e w5 ⟨rfl, hN, F5, G5, hD5⟩
            have hT := ref_told r _ F5 G5 0 w5 hD5
            unfold theRef at hT
            have HN := Lib.hid (acted_yes (op := opRename src.data.toList dst.data.toList) (k := 0) HM.out (by rw [HOP.out]) (by rw [HOP.out]) hN)
            clear hN hD5 b0 b1 b2 HP
            go_wp2_with fail
            refine hT.mono ?_
            rintro e w6 ⟨rfl, rfl⟩
            clear hT
            go_wp2_with fail
            go_ret
            exact ⟨_, rfl, HN.out⟩
          | some y =>
            obtain ⟨j, hj, hy, hset, her⟩ := place_some hri3 hfd
            rw [hj] at hA
            have hj0 : (0 : Int) ≤ ((j : Nat) : Int) := by omega
            have hrd2 := ref_drop r _ F3 G3 j w3 HD3.out.1 HD3.out.2 (by show Fit ((woE src.data.toList M1.fs).eraseIdx j); rw [her]; exact HD3.out.1.1.wo _)
            unfold theRef at hrd2
            have HRD2 := Lib.hid hrd2
            have HER := Lib.hid her
            clear hfd hri3 hj hy hset her hrd2
            go_wp2_with fail
            refine hA.mono ?_
            rintro e w4 ⟨rfl, rfl⟩
            clear hA
            go_wp2_with fail
            refine HRD2.out.mono ?_
            rintro e w4 ⟨rfl, F4, G4, hD4, h4F, h4G, t4⟩
            simp only [HER.out] at hD4
            obtain ⟨b0, b1, b2, hP⟩ := HCO.out w4 F4 G4 hD4 h4F h4G t4
            have HP := Lib.hid hP
            clear hP hD4 h4F h4G t4 HRD2
            go_wp2_with fail
            refine HP.out.mono ?_
            rintro e w5 ⟨rfl, hN, F5, G5, hD5⟩
            have hT := ref_told r _ F5 G5 0 w5 hD5
            unfold theRef at hT
            have HN := Lib.hid (acted_yes (op := opRename src.data.toList dst.data.toList) (k := 0) HM.out (by rw [HOP.out]) (by rw [HOP.out]) hN)
            clear hN hD5 b0 b1 b2 HP
            go_wp2_with fail
            refine hT.mono ?_
            rintro e w6 ⟨rfl, rfl⟩
            clear hT
            go_wp2_with fail
            go_ret
            exact ⟨_, rfl, HN.out⟩

end Go.Proofs.Ytmpjjnjggiipjaa
