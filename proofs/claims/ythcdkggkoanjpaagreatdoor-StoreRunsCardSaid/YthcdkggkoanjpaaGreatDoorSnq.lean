/- The reference's Save, walked. Numbers and types by name. -/
import Derived.Test.YthcdkggkoanjpaaGreatDoorMgs
import Derived.Test.YthcdkggkoanjpaaGreatDoorRen
import Derived.Test.YthcdkggkoanjpaaGreatDoorGen
import Derived.Test.YthcdkggkoanjpaaGreatDoorTro
import Derived.Test.YthcdkggkoanjpaaGreatDoorSnt
namespace Go.Proofs.YthcdkggkoanjpaaGreatDoor
open Go.RowKit Go.Lib
set_option maxRecDepth 100000
theorem ref_size (r : Nat) (M : MD) (F G : List Nat) (name : ByteArray) (w : World) (h : RD w r M F G) (hl : M.fs.length < 900000) :
    Calls Tryz.prog 93 #[theRef r, .string name] w fun e w' => ∃ z : Int, e = .returned (.int .i64 z) ∧ decide (0 ≤ z) = M.fs.any (isName name.data.toList) ∧ w = w' := by
  obtain ⟨hf, s, ao, c, xs, hR, hP, hv, hown, hT, rfl, hne, hGd⟩ := h
  have c5 := hR.c5
  rw [hv] at c5
  have HO := Lib.hid (And.intro hown hT)
  clear hR hP hv hown hT hne hGd
  unfold theRef
  obtain ⟨n, hn⟩ : ∃ n, n = M.fs.length := ⟨_, rfl⟩
  rw [← hn] at c5 hl HO
  have HN := Lib.hid hn
  clear hn
  go_enter Tryz.func93, Tryz.ntmps93
  go_wp2
  go_loopw [5] (fun i wr => ∃ k : Nat, k ≤ n ∧ i = .int .i64 k ∧ Hid (∀ j, j < k → ∀ x, M.fs[j]? = some x → isName name.data.toList x = false) ∧ w = wr)
    (fun i _ => n - (RowKit.intOf i).toNat)
  case atStart => exact ⟨0, Nat.zero_le _, rfl, Lib.hid (fun j hj => by omega), rfl⟩
  case round =>
    obtain ⟨k, hk, rfl, hno, rfl⟩ := hrel
    by_cases h1 : k < n
    · have h3 : (k : Int) < (n : Int) := by omega
      obtain ⟨x, hx⟩ : ∃ x, M.fs[k]? = some x := ⟨_, List.getElem?_eq_getElem (by have := HN.out; omega)⟩
      obtain ⟨a1, c1, e1, e2, _⟩ := HO.out.2.2 k x hx
      obtain ⟨g, e, hc, _⟩ := row_cell HO.out.1 (by rw [HO.out.2.1, HN.out]) e1
      obtain ⟨g', e', hc2, _⟩ := row_cell HO.out.1 (by rw [HO.out.2.1, HN.out]) e2
      rw [e] at e'
      cases e'
      subst e
      unfold encStr at hc
      by_cases hnm : isName name.data.toList x = true
      · have hb : (x.1 == name.toList) = true := by
          rw [ByteArray.toList_eq]; simpa using isName_iff.1 hnm
        have HX := Lib.hid (And.intro hx hnm)
        clear hx hnm e1 e2
        go_wp2_with fail
        go_ret
        refine ⟨_, rfl, ?_, rfl⟩
        rw [decide_eq_true (by omega)]
        exact (List.any_eq_true.2 ⟨x, List.mem_of_getElem? HX.out.1, HX.out.2⟩).symm
      · rw [Bool.not_eq_true] at hnm
        have hb : (x.1 == name.toList) = false := by
          rw [ByteArray.toList_eq]
          have : x.1 ≠ name.data.toList := fun e => by rw [isName_iff.2 e] at hnm; cases hnm
          simpa using this
        have HX := Lib.hid (And.intro hx hnm)
        clear hx hnm e1 e2
        go_wp2_with fail
        refine ⟨⟨k + 1, by omega, by simp, Lib.hid (fun j hj y hy => ?_), trivial⟩, by simp [RowKit.intOf]; omega⟩
        by_cases hjk : j < k
        · exact hno.out j hjk y hy
        · obtain rfl : j = k := by omega
          rw [HX.out.1] at hy
          cases hy
          exact HX.out.2
    · have h3 : ¬ (k : Int) < (n : Int) := by omega
      obtain rfl : k = n := by omega
      go_wp2_with fail
      go_ret
      refine ⟨-1, rfl, ?_, rfl⟩
      rw [decide_eq_false (by omega)]
      symm
      rw [List.any_eq_false]
      intro x hx
      obtain ⟨j, hj, rfl⟩ := List.getElem_of_mem hx
      simp [hno.out j (by have := HN.out; omega) _ (List.getElem?_eq_getElem hj)]
theorem ref_load (r : Nat) (M : MD) (F G : List Nat) (w : World) (h : RD w r M F G) (hl : LimF M.fs) (hlen : (loadP M).1.length ≤ 1000000) :
    Calls Tryz.prog 40 #[theRef r] w fun e w' => ∃ ao q c, e = .returned (.tuple #[.slice ao q c, .int .i64 (loadE M)]) ∧ Prr w' (.slice ao q c) q (loadL M) ∧ Turn [] w w' ∧ ∀ a, (Value.slice ao q c).ownBlock = some a → w.heap.size ≤ a := by
  have HR := ref_read r M F G snapS w h hl
  rw [snapS_list] at HR
  unfold loadL loadE
  unfold loadP at *
  obtain ⟨x, hx⟩ : ∃ x, x = (M.read snapK).1 := ⟨_, rfl⟩
  obtain ⟨k, hk⟩ : ∃ k, k = (M.read snapK).2 := ⟨_, rfl⟩
  rw [← hx, ← hk] at HR ⊢
  rw [← hx] at hlen
  obtain ⟨m, hm⟩ : ∃ m, m = x.length := ⟨_, rfl⟩
  rw [← hm] at HR hlen
  have HM := Lib.hid (And.intro hm hlen)
  unfold theRef snapS at HR
  unfold theRef
  clear h hl hx hk hm hlen
  go_enter Tryz.func40, Tryz.ntmps40
  go_wp2_with fail
  refine HR.mono ?_
  rintro e w1 ⟨ao, c, rfl, hB, t⟩
  have H1 := Lib.hid (And.intro hB t)
  clear hB t HR
  by_cases h0 : k = 0
  · subst h0
    have D := ref_from (.slice ao m c) m x w1 H1.out.1.reads HM.out.1 HM.out.2
    go_wp2_with fail
    refine D.mono ?_
    rintro e w2 hD
    obtain ⟨a2, q2, c2, rfl, h2, h3, h4⟩ := hD.fresh
    have H2 := Lib.hid (And.intro h2 (And.intro h3 h4))
    clear h2 h3 h4 hD D
    go_wp2_with fail
    go_ret2
    refine ⟨a2, q2, c2, ?_, ?_, ?_, fun a ha => Nat.le_trans H1.out.2.size (H2.out.2.2 a ha)⟩
    · rfl
    · exact H2.out.1
    · exact H1.out.2.trans (turn_below H2.out.2.1)
  · by_cases h3 : k = 3
    · subst h3
      go_wp2_with fail
      go_ret2
      exact ⟨none, 0, 0, rfl, Prr.nil _, H1.out.2, fun a h => by cases h⟩
    · have e1 : ldE k x = k := by unfold ldE; rw [if_neg h0, if_neg h3]
      have e2 : ldL k x = [] := by unfold ldL; rw [if_neg h0]
      have HX := Lib.hid (And.intro e1 e2)
      clear e1 e2
      go_wp2_with fail
      go_ret2
      refine ⟨none, 0, 0, ?_, ?_, H1.out.2, fun a h => by cases h⟩
      · rw [HX.out.1]; rfl
      · rw [HX.out.2]; exact Prr.nil _
end Go.Proofs.YthcdkggkoanjpaaGreatDoor
namespace Go.Proofs.YthcdkggkoanjpaaGreatDoor
open Go.RowKit Go.Maps Go.Sort Go.WideMaps
theorem RD.wide {w : World} {r : Nat} {M : MD} {F G : List Nat} (h : RD w r M F G) (H : List Nat) (hH : ∀ q ∈ H, q ∉ F ∧ q < w.heap.size) : RD w r M F (G ++ H) := by
  obtain ⟨hf, s, ao, c, xs, hR, hP, hv, hown, hT, hF, hne, hGd⟩ := h
  refine ⟨hf, s, ao, c, xs, hR, ⟨hP.cap, hP.cr, hP.dn, hP.n, hP.dw, hP.fail, hP.keep, fun h a n c e => List.mem_append_left _ (hP.failG h a n c e), fun h a n c e => List.mem_append_left _ (hP.keepG h a n c e), hP.n0⟩, hv, hown, hT.more fun k hk => List.mem_append_left _ hk, hF, hne, fun q hq => ?_⟩
  rcases List.mem_append.1 hq with hq | hq
  · exact hGd q hq
  · exact hH q hq
theorem woE_none {k : List UInt8} {fs : List Ent} (h : fs.find? (isName k) = none) : woE k fs = fs := by
  unfold woE
  rw [List.filter_eq_self]
  intro x hx
  have := List.find?_eq_none.1 h x hx
  simpa using this
set_option maxHeartbeats 2000000 in
theorem ref_rename (r : Nat) (M : MD) (F G : List Nat) (src dst : ByteArray) (w : World) (h : RD w r M F G) (hl : Lim M) (hz : dst.size ≤ 1000000) :
    Calls Tryz.prog 96 #[theRef r, .string src, .string dst] w (Left (RActed w r M F G (opRename src.data.toList dst.data.toList))) := by
  have hll := hl.fs.len
  have hri := h.1.rising
  obtain ⟨ok, er, M1, HM, HGt⟩ := gated r M F G w h hl
  clear h
  unfold theRef
  cases ok with
  | false =>
    go_enter Tryz.func96, Tryz.ntmps96
    go_wp2_with fail
    refine HGt.out.mono ?_
    rintro e w1 ⟨rfl, hD1, t1⟩
    have HD := Lib.hid (acted_no (op := opRename src.data.toList dst.data.toList) HM.out hD1 t1)
    clear hD1 t1 HGt
    go_wp2_with fail
    go_ret
    exact ⟨er, rfl, HD.out⟩
  | true =>
    cases hf : M.fs.find? (isName src.data.toList) with
    | none =>
      have HPL : Hid (placeE src.data.toList M1.fs = -1) := Lib.hid (by rw [HM.out.fs]; exact place_none hf)
      have HF := Lib.hid hf
      clear hf
      go_enter Tryz.func96, Tryz.ntmps96
      go_wp2_with fail
      refine HGt.out.mono ?_
      rintro e w1 ⟨rfl, hD1, t1⟩
      have HD := Lib.hid (acted_same (op := opRename src.data.toList dst.data.toList) (k := 3) HM.out (by unfold opRename; rw [HF.out]) hD1 t1)
      have hT := ref_told r M1 F G 3 w1 hD1
      have hA := ref_at r M1 F G src w1 hD1 (by rw [HM.out.fs]; exact hll)
      rw [HPL.out] at hA
      unfold theRef at hT hA
      clear hD1 t1 HGt
      go_wp2_with fail
      refine hA.mono ?_
      rintro e w2 ⟨rfl, rfl⟩
      clear hA
      go_wp2_with fail
      refine hT.mono ?_
      rintro e w2 ⟨rfl, rfl⟩
      clear hT
      go_wp2_with fail
      go_ret
      exact ⟨_, rfl, HD.out⟩
    | some x =>
      obtain ⟨i, hi, hx, hset, her⟩ := place_some hri hf
      have HPL : Hid (placeE src.data.toList M1.fs = i) := Lib.hid (by rw [HM.out.fs]; exact hi)
      have HF := Lib.hid (And.intro hf (And.intro her hx))
      have hi0 : ¬ ((i : Nat) : Int) < 0 := by omega
      clear hf hi hx hset her
      have hne := name_empty dst
      by_cases hk : dst.data.toList = []
      · have hne2 : dst.toList.isEmpty = true := by rw [hne]; simpa using hk
        have HK := Lib.hid hk
        clear hne hk
        go_enter Tryz.func96, Tryz.ntmps96
        go_wp2_with fail
        refine HGt.out.mono ?_
        rintro e w1 ⟨rfl, hD1, t1⟩
        have HD := Lib.hid (acted_same (op := opRename src.data.toList dst.data.toList) (k := 1) HM.out (by unfold opRename; rw [HF.out.1]; simp only; rw [if_pos HK.out]) hD1 t1)
        have hT := ref_told r M1 F G 1 w1 hD1
        have hA := ref_at r M1 F G src w1 hD1 (by rw [HM.out.fs]; exact hll)
        rw [HPL.out] at hA
        unfold theRef at hT hA
        clear hD1 t1 HGt
        go_wp2_with fail
        refine hA.mono ?_
        rintro e w2 ⟨rfl, rfl⟩
        clear hA
        go_wp2_with fail
        refine hT.mono ?_
        rintro e w2 ⟨rfl, rfl⟩
        clear hT
        go_wp2_with fail
        go_ret
        exact ⟨_, rfl, HD.out⟩
      · have hne2 : dst.toList.isEmpty = false := by rw [hne]; simpa using hk
        have HK := Lib.hid hk
        clear hne hk
        have hbe := name_beq src dst
        by_cases heq : src.data.toList = dst.data.toList
        · have hbe2 : (src.toList == dst.toList) = true := by rw [hbe]; simpa using heq
          have HE := Lib.hid heq
          clear hbe heq
          go_enter Tryz.func96, Tryz.ntmps96
          go_wp2_with fail
          refine HGt.out.mono ?_
          rintro e w1 ⟨rfl, hD1, t1⟩
          have HD := Lib.hid (acted_same (op := opRename src.data.toList dst.data.toList) (k := 0) HM.out (by unfold opRename; rw [HF.out.1]; simp only; rw [if_neg HK.out, if_pos HE.out]) hD1 t1)
          have hT := ref_told r M1 F G 0 w1 hD1
          have hA := ref_at r M1 F G src w1 hD1 (by rw [HM.out.fs]; exact hll)
          rw [HPL.out] at hA
          unfold theRef at hT hA
          clear hD1 t1 HGt
          go_wp2_with fail
          refine hA.mono ?_
          rintro e w2 ⟨rfl, rfl⟩
          clear hA
          go_wp2_with fail
          refine hT.mono ?_
          rintro e w2 ⟨rfl, rfl⟩
          clear hT
          go_wp2_with fail
          go_ret
          exact ⟨_, rfl, HD.out⟩
        · have hbe2 : (src.toList == dst.toList) = false := by rw [hbe]; simpa using heq
          have HE := Lib.hid heq
          clear hbe heq
          go_enter Tryz.func96, Tryz.ntmps96
          go_wp2_with fail
          refine HGt.out.mono ?_
          rintro e w1 ⟨rfl, hD1, t1⟩
          have hA := ref_at r M1 F G src w1 hD1 (by rw [HM.out.fs]; exact hll)
          rw [HPL.out] at hA
          unfold theRef at hA
          have HD1 := Lib.hid hD1
          have HT := Lib.hid t1
          obtain ⟨hfit, s, ao, c, xs, hR, hP, hv, hown, hTe, hFF, hnn, hGd⟩ := hD1
          have c5 := hR.c5
          rw [hv] at c5
          obtain ⟨ab, cb, q1, q2, q3, hrb, hgb⟩ := hTe.2 i x (by rw [HM.out.fs]; exact HF.out.2.2)
          obtain ⟨g, rfl, k1, _⟩ := row_cell hown (by rw [hTe.1]) q1
          obtain ⟨_, e, k2, _⟩ := row_cell hown (by rw [hTe.1]) q2
          cases e
          obtain ⟨_, e, k3, _⟩ := row_cell hown (by rw [hTe.1]) q3
          cases e
          unfold encStr at k1
          have i1 : ((i : Nat) : Int) < (M1.fs.length : Int) := by
            have := (List.getElem?_eq_some_iff.1 HF.out.2.2).1
            rw [HM.out.fs]; omega
          have HX := Lib.hid (And.intro hrb hgb)
          have c5' := fun o => cell_new c5 o
          have k1' := fun o => cell_new k1 o
          have k2' := fun o => cell_new k2 o
          have k3' := fun o => cell_new k3 o
          clear hfit hR hP hv hown hTe hFF hnn hGd t1 HGt q1 q2 q3 hrb hgb
          go_wp2_with fail
          refine hA.mono ?_
          rintro e w2 ⟨rfl, rfl⟩
          clear hA
          go_wp2_with fail
          have tB : Turn [] w1 (w1.alloc (.cells #[.string dst, .slice ab x.2.1.length cb, .int .i64 (x.2.2 : Nat)] 104)) := (Turn.refl [] w1).alloc _
          have hbox := heap_alloc_new w1 (.cells #[.string dst, .slice ab x.2.1.length cb, .int .i64 (x.2.2 : Nat)] 104)
          have hbx : w1.heap.size ∉ F := fun hm => by have := HD1.out.lt.1 _ hm; omega
          have hrd := ref_drop r M1 F G i _ (HD1.out.new tB) (by rw [HM.out.fs]; exact hll) (by rw [HM.out.fs, HF.out.2.1, ← HM.out.fs]; exact HD1.out.1.wo _)
          unfold theRef at hrd
          generalize w1.alloc (.cells #[.string dst, .slice ab x.2.1.length cb, .int .i64 (x.2.2 : Nat)] 104) = wB at *
          refine hrd.mono ?_
          rintro e w3 ⟨rfl, F3, G3, hD3, h3F, h3G, t3⟩
          have e3 : M1.fs.eraseIdx i = woE src.data.toList M1.fs := by rw [HM.out.fs]; exact HF.out.2.1
          rw [e3] at hD3
          have hb3 := t3.heap hbox hbx
          have HB := Lib.hid (And.intro tB (And.intro hbx (And.intro h3F (And.intro h3G t3))))
          have hl3 : (woE src.data.toList M1.fs).length < 900000 := by rw [HM.out.fs]; exact Nat.lt_of_le_of_lt (List.length_filter_le _ _) hll
          have hA := ref_at r _ F3 G3 dst w3 hD3 hl3
          unfold theRef at hA
          have HD3 := Lib.hid (And.intro hD3 (And.intro hb3 hl3))
          have hcont : ∀ w4 F4 G4, RD w4 r { M1 with fs := woE dst.data.toList (woE src.data.toList M1.fs) } F4 G4 → (∀ k ∈ F4, k ∈ F3 ∨ w3.heap.size ≤ k) → (∀ k ∈ G4, k ∈ G3 ∨ k ∈ ([] : List Nat) ∨ w3.heap.size ≤ k) → Turn F3 w3 w4 →
              w4.cell? ⟨w1.heap.size, 0, none⟩ = some (.string dst) ∧ w4.cell? ⟨w1.heap.size, 1, none⟩ = some (.slice ab x.2.1.length cb) ∧ w4.cell? ⟨w1.heap.size, 2, none⟩ = some (.int .i64 (x.2.2 : Nat)) ∧
              Calls Tryz.prog 120 #[.pointer (some ⟨r, 0, none⟩), .agg #[.string dst, .slice ab x.2.1.length cb, .int .i64 (x.2.2 : Nat)]] w4 fun e w' => e = .returned (.tuple #[]) ∧
                RNext w w' r { M1 with fs := insE (dst.data.toList, x.2.1, x.2.2) (woE dst.data.toList (woE src.data.toList M.fs)) } F G [] ∧
                ∃ F5 G5, RD w' r { M1 with fs := insE (dst.data.toList, x.2.1, x.2.2) (woE dst.data.toList (woE src.data.toList M.fs)) } F5 G5 := by
            intro w4 F4 G4 hD4 h4F h4G t4
            obtain ⟨hrb, hgb⟩ := HX.out
            have hD1 := HD1.out
            have hGx : x.2.1 ≠ [] → ∀ a, ab = some a → a.block ∉ F ∧ a.block < w1.heap.size := fun hne a e => by
              have := hD1.lt.2 _ (hgb hne a e)
              exact this
            have hs3 := t3.size
            have hsB := tB.size
            have hn3 : ∀ q, q ∉ F → q < w1.heap.size → q ∉ F3 := fun q hq hlt hm => by
              rcases h3F q hm with e | e
              · exact hq e
              · omega
            have hn4 : ∀ q, q ∉ F → q < w1.heap.size → q ∉ F4 := fun q hq hlt hm => by
              rcases h4F q hm with e | e
              · exact hn3 q hq hlt e
              · omega
            have hbx3 : w1.heap.size ∉ F3 := fun hm => by
              rcases h3F _ hm with e | e
              · exact hbx e
              · have := lt_of hbox; omega
            have hb4 := t4.heap hb3 hbx3
            refine ⟨cells_of hb4 0 _ rfl, cells_of hb4 1 _ rfl, cells_of hb4 2 _ rfl, ?_⟩
            have hr4 : Reads w4 (.slice ab x.2.1.length cb) (bv x.2.1) := ((hrb.turn tB (by simp)).turn t3 fun hne a n c e => by
              simp only [Value.slice.injEq] at e
              exact (hGx (by intro e2; rw [e2] at hne; exact hne rfl) a e.1).1).turn t4 fun hne a n c e => by
              simp only [Value.slice.injEq] at e
              have := hGx (by intro e2; rw [e2] at hne; exact hne rfl) a e.1
              exact hn3 _ this.1 this.2
            obtain ⟨H, hH1, hH2, hH3⟩ : ∃ H : List Nat, (x.2.1 ≠ [] → ∀ a, ab = some a → a.block ∈ H) ∧ (∀ q ∈ H, q ∉ F4 ∧ q < w4.heap.size) ∧ ∀ q ∈ H, q ∈ G := by
              by_cases hne : x.2.1 = []
              · exact ⟨[], fun h => absurd hne h, by simp, by simp⟩
              · cases hab : ab with
                | none => exact ⟨[], fun _ a e => (by cases e), by simp, by simp⟩
                | some a =>
                  refine ⟨[a.block], fun _ a' e => (by cases e; simp), fun q hq => ?_, fun q hq => ?_⟩
                  · simp only [List.mem_singleton] at hq
                    subst hq
                    have := hGx hne a hab
                    exact ⟨hn4 _ this.1 this.2, by have := t4.size; omega⟩
                  · simp only [List.mem_singleton] at hq
                    subst hq
                    exact hgb hne a hab
            have hfit4 := hD4.1
            have hxm := List.mem_of_getElem? HF.out.2.2
            have hany : (woE dst.data.toList (woE src.data.toList M1.fs)).any (isName dst.data.toList) = false := by rw [woE_any, if_pos rfl]
            have hP := ref_put r _ F4 (G4 ++ H) (dst.data.toList, x.2.1, x.2.2) ab cb w4 (hD4.wide H hH2) (by rw [HM.out.fs]; exact Nat.lt_of_le_of_lt (Nat.le_trans (List.length_filter_le _ _) (List.length_filter_le _ _)) hll) (hfit4.ins hany (by
              have hsy := hD1.1.sy x (by rw [HM.out.fs]; exact hxm)
              exact hsy) hz) hr4 (fun hne a e => List.mem_append_right _ (hH1 hne a e))
            unfold encStr theRef at hP
            rw [str_mk] at hP
            refine hP.mono ?_
            rintro e w5 ⟨rfl, F5, G5, hD5, h5F, h5G, t5⟩
            simp only [HM.out.fs] at hD5
            refine ⟨rfl, ⟨F5, G5, hD5, fun q hq => ?_, fun q hq => ?_, ?_⟩, F5, G5, hD5⟩
            · have hsz := HT.out.size
              have h4s := t4.size
              rcases h5F q hq with e | e
              · rcases h4F q e with e | e
                · rcases h3F q e with e | e
                  · exact .inl e
                  · exact .inr (by omega)
                · exact .inr (by omega)
              · exact .inr (by omega)
            · have hsz := HT.out.size
              have h4s := t4.size
              rcases h5G q hq with e | e | e
              · rcases List.mem_append.1 e with e | e
                · rcases h4G q e with e | e | e
                  · rcases h3G q e with e | e | e
                    · exact .inl e
                    · cases e
                    · exact .inr (.inr (by omega))
                  · cases e
                  · exact .inr (.inr (by omega))
                · exact .inl (hH3 q e)
              · cases e
              · exact .inr (.inr (by omega))
            · have tB3 : Turn F w1 w3 := (tB.mono (by simp)).trans t3
              have tw3 := HT.out.trans tB3
              have tw4 := tw3.trans' (G := F3) t4 (fun q hq => (h3F q hq).imp id (fun e => by have := HT.out.size; omega))
              exact tw4.trans' (G := F4) t5 (fun q hq => by
                rcases h4F q hq with e | e
                · exact (h3F q e).imp id (fun e => by have := HT.out.size; omega)
                · exact .inr (by have := HT.out.size; omega))
          have HCO := Lib.hid hcont
          have hl3 : (woE src.data.toList M1.fs).length < 900000 := by rw [HM.out.fs]; exact Nat.lt_of_le_of_lt (List.length_filter_le _ _) hll
          have hA := ref_at r _ F3 G3 dst w3 hD3 hl3
          unfold theRef at hA
          have HD3 := Lib.hid (And.intro hD3 hl3)
          have HOP : Hid (opRename src.data.toList dst.data.toList M.cap M.fs = (0, insE (dst.data.toList, x.2.1, x.2.2) (woE dst.data.toList (woE src.data.toList M.fs)))) := Lib.hid (by
            unfold opRename
            rw [HF.out.1]
            simp only
            rw [if_neg HK.out, if_neg HE.out])
          have hri3 := hD3.1.rising
          clear c5 c5' k1 k2 k3 k1' k2' k3' tB hbox hbx hrd hD3 h3F h3G t3 e3 hb3 hl3 hcont
          cases hfd : (woE src.data.toList M1.fs).find? (isName dst.data.toList) with
          | none =>
            rw [place_none hfd] at hA
            have HW := Lib.hid (woE_none hfd)
            clear hfd hri3
            go_wp2_with fail
            refine hA.mono ?_
            rintro e w4 ⟨rfl, rfl⟩
            obtain ⟨b0, b1, b2, hP⟩ := HCO.out w3 F3 G3 (by rw [HW.out]; exact HD3.out.1) (fun k hk => .inl hk) (fun k hk => .inl hk) (Turn.refl _ _)
            have HP := Lib.hid hP
            clear hA hP
            go_wp2_with fail
            refine HP.out.mono ?_
            rintro e w5 ⟨rfl, hN, F5, G5, hD5⟩
            have hT := ref_told r _ F5 G5 0 w5 hD5
            unfold theRef at hT
            have HN := Lib.hid (acted_yes (op := opRename src.data.toList dst.data.toList) (k := 0) HM.out (by rw [HOP.out]) (by rw [HOP.out]) hN)
            clear hN hD5 b0 b1 b2 HP
            go_wp2_with fail
            refine hT.mono ?_
            rintro e w6 ⟨rfl, rfl⟩
            clear hT
            go_wp2_with fail
            go_ret
            exact ⟨_, rfl, HN.out⟩
          | some y =>
            obtain ⟨j, hj, hy, hset, her⟩ := place_some hri3 hfd
            rw [hj] at hA
            have hj0 : (0 : Int) ≤ ((j : Nat) : Int) := by omega
            have hrd2 := ref_drop r _ F3 G3 j w3 HD3.out.1 HD3.out.2 (by show Fit ((woE src.data.toList M1.fs).eraseIdx j); rw [her]; exact HD3.out.1.1.wo _)
            unfold theRef at hrd2
            have HRD2 := Lib.hid hrd2
            have HER := Lib.hid her
            clear hfd hri3 hj hy hset her hrd2
            go_wp2_with fail
            refine hA.mono ?_
            rintro e w4 ⟨rfl, rfl⟩
            clear hA
            go_wp2_with fail
            refine HRD2.out.mono ?_
            rintro e w4 ⟨rfl, F4, G4, hD4, h4F, h4G, t4⟩
            simp only [HER.out] at hD4
            obtain ⟨b0, b1, b2, hP⟩ := HCO.out w4 F4 G4 hD4 h4F h4G t4
            have HP := Lib.hid hP
            clear hP hD4 h4F h4G t4 HRD2
            go_wp2_with fail
            refine HP.out.mono ?_
            rintro e w5 ⟨rfl, hN, F5, G5, hD5⟩
            have hT := ref_told r _ F5 G5 0 w5 hD5
            unfold theRef at hT
            have HN := Lib.hid (acted_yes (op := opRename src.data.toList dst.data.toList) (k := 0) HM.out (by rw [HOP.out]) (by rw [HOP.out]) hN)
            clear hN hD5 b0 b1 b2 HP
            go_wp2_with fail
            refine hT.mono ?_
            rintro e w6 ⟨rfl, rfl⟩
            clear hT
            go_wp2_with fail
            go_ret
            exact ⟨_, rfl, HN.out⟩
end Go.Proofs.YthcdkggkoanjpaaGreatDoor
namespace Go.Proofs.YthcdkggkoanjpaaGreatDoor
open Go.RowKit Go.Lib
set_option maxRecDepth 100000
def RavAt (w0 wr : World) (r : Nat) (M : MD) (F G : List Nat) (x : List UInt8) (K j k : Nat) : Prop :=
  ∃ Mk Fk Gk, RD wr r Mk Fk Gk ∧ (∀ q ∈ Fk, q ∈ F ∨ w0.heap.size ≤ q) ∧ (∀ q ∈ Gk, q ∈ G ∨ w0.heap.size ≤ q) ∧ Turn F w0 wr ∧ Well K Mk (j + k) ∧ saveP M x = runOps (restS M.fs x k) Mk ∧ (k = 0 → Mk = M)
def RavEnd (w0 w' : World) (r : Nat) (M : MD) (F G : List Nat) (x : List UInt8) (k : Int) : Prop := k = (saveP M x).1 ∧ RNext w0 w' r (saveP M x).2 F G []
def RavNext (w0 w' : World) (r : Nat) (M : MD) (F G : List Nat) (x : List UInt8) (K j k : Nat) (e : Int) : Prop :=
  (e = 0 → RavAt w0 w' r M F G x K j (k + 1)) ∧ (e ≠ 0 → RavEnd w0 w' r M F G x e)
theorem RNext.trans {w w1 w' : World} {r : Nat} {M2 : MD} {F G F1 G1 : List Nat} (hs : ∀ k ∈ F1, k ∈ F ∨ w.heap.size ≤ k) (hg : ∀ k ∈ G1, k ∈ G ∨ w.heap.size ≤ k) (t : Turn F w w1) (h2 : RNext w1 w' r M2 F1 G1 []) : RNext w w' r M2 F G [] := by
  obtain ⟨F', G', g1, g2, g3, g4⟩ := h2
  refine ⟨F', G', g1, fun k hk => ?_, fun k hk => ?_, t.trans' g4 hs⟩
  · rcases g2 k hk with g | g
    · exact hs k g
    · exact .inr (Nat.le_trans t.size g)
  · rcases g3 k hk with g | g | g
    · exact (hg k g).imp id .inr
    · cases g
    · exact .inr (.inr (Nat.le_trans t.size g))
theorem rav_step {w0 wr : World} {r : Nat} {M : MD} {F G : List Nat} {x : List UInt8} {K j k : Nat} {op : Opn} (h : RavAt w0 wr r M F G x K j k) (hx : restS M.fs x k = op :: restS M.fs x (k + 1)) (ho : Adds op K) (hp : Keeps op) {f : Nat} {args : Array Value}
    (hc : ∀ Mk Fk Gk, RD wr r Mk Fk Gk → (∀ q ∈ Fk, q ∈ F ∨ w0.heap.size ≤ q) → Turn F w0 wr → Well K Mk (j + k) → Calls Tryz.prog f args wr (Left (RActed wr r Mk Fk Gk op))) :
    Calls Tryz.prog f args wr (Left fun e w' => RavNext w0 w' r M F G x K j k e) := by
  obtain ⟨Mk, Fk, Gk, h1, h2, hg, h3, h4, h5, h6⟩ := h
  refine (hc Mk Fk Gk h1 h2 h3 h4).mono ?_
  rintro e w' ⟨k', rfl, rfl, hn⟩
  rw [hx, runOps_one] at h5
  refine ⟨_, rfl, fun h0 => ?_, fun h0 => ?_⟩
  · obtain ⟨F', G', k1, k2, k3, t⟩ := hn
    rw [if_pos h0] at h5
    refine ⟨_, F', G', k1, fun q hq => ?_, fun q hq => ?_, h3.trans' t h2, ?_, h5, fun e => by omega⟩
    · rcases k2 q hq with e | e
      · exact h2 q e
      · exact .inr (Nat.le_trans h3.size e)
    · rcases k3 q hq with e | e | e
      · exact hg q e
      · cases e
      · exact .inr (Nat.le_trans h3.size e)
    · rw [show j + (k + 1) = j + k + 1 by omega]
      exact well_act h4 ho hp
  · rw [if_neg h0] at h5
    exact ⟨by rw [h5], by rw [h5]; exact RNext.trans h2 hg h3 hn⟩
set_option maxHeartbeats 4000000 in
theorem ref_saveS (r : Nat) (M : MD) (F G : List Nat) (v : Value) (n : Nat) (L : List Prm) (w : World) (h : RD w r M F G) (hr : Prr w v n L) (hb : Slim L) {K J j : Nat} (hw : Well K M j) (hj : j + 5 ≤ J) (hR : RoomW K J) (hK : (bytesT L).length ≤ K) :
    Calls Tryz.prog 47 #[theRef r, v] w (Left fun k w' => k = (saveT M L).1 ∧ RNext w w' r (saveT M L).2 F G []) := by
  obtain ⟨ao, c, rfl⟩ := hr.shape
  have HE := reftable_ownS _ n L w hr hb
  have hlen := bytesT_slim hb
  have HN := Lib.hid (And.intro h (And.intro hw (And.intro hj (And.intro hR (And.intro hK hlen)))))
  unfold saveT
  unfold ToldB errT at HE
  unfold theRef
  clear h hr hb hw hj hR hK hlen
  by_cases hRi : Rise L
  rotate_left
  · rw [if_neg hRi] at HE ⊢
    clear hRi
    go_enter Tryz.func47, Tryz.ntmps47
    go_wp2_with fail
    refine HE.mono ?_
    rintro e w1 ⟨a1, m1, c1, rfl, h1, h2⟩
    have HB := Lib.hid h2
    clear h1 h2 HE
    go_wp2_with fail
    go_ret
    have t := turn_below HB.out
    exact ⟨1, rfl, rfl, (RD.new HN.out.1 t).more.after (t.mono (by simp))⟩
  · rw [if_pos hRi] at HE ⊢
    obtain ⟨x, hx⟩ : ∃ x, x = bytesT L := ⟨_, rfl⟩
    rw [← hx] at HE HN ⊢
    clear hRi hx
    have HLI : Hid (∀ (Mk : MD) (k : Nat), Well K Mk (j + k) → k ≤ 4 → Lim Mk) := Lib.hid fun Mk k hw hk => well_limW HN.out.2.2.2.1 hw (by have := HN.out.2.2.1; omega)
    go_enter Tryz.func47, Tryz.ntmps47
    go_wp2_with fail
    refine HE.mono ?_
    rintro e w1 ⟨a1, m1, c1, rfl, h1, h2⟩
    have t1 := turn_below h2
    have hFl := HN.out.1.lt.1
    have hbF : ∀ a, (Value.slice a1 m1 c1).ownBlock = some a → a ∉ F ∧ a < w1.heap.size := fun a ha => ⟨fun hm => by have := (h1.2.lt a ha).1; have := hFl a hm; omega, (h1.2.lt a ha).2⟩
    have HX := Lib.hid (And.intro h1.reads (And.intro hbF t1))
    have hRD : RD w1 r M F G := HN.out.1.new t1
    have at0 : RavAt w1 w1 r M F G x K j 0 := ⟨M, F, G, hRD, fun q hq => .inl hq, fun q hq => .inl hq, Turn.refl _ _, HN.out.2.1, rfl, fun _ => rfl⟩
    have HA0 := Lib.hid at0
    have HS := ref_size r M F G tmpS w1 hRD (HLI.out M 0 HN.out.2.1 (by omega)).fs.len
    rw [tmpS_list] at HS
    unfold theRef tmpS at HS
    clear h1 h2 HE t1 hFl hbF hRD at0
    go_wp2_with fail
    refine HS.mono ?_
    rintro e w2 ⟨z, rfl, hz, rfl⟩
    clear HS
    by_cases hz0 : 0 ≤ z
    case' pos =>
      rw [decide_eq_true hz0] at hz
      have HR := rav_step (op := opRemove tmpK) (f := 94) (args := #[theRef r, .string tmpS]) HA0.out (by show saveOps M.fs x = _; unfold saveOps; rw [if_pos hz.symm]; rfl) (adds_remove K tmpK) (keeps_remove tmpK) fun Mk Fk Gk h1 h2 h3 h4 => ref_remove r Mk Fk Gk tmpS w1 h1 (HLI.out Mk 0 h4 (by omega))
      unfold theRef tmpS at HR
      clear hz
      go_wp2_with fail
      refine HR.mono ?_
      rintro e w2 ⟨k', rfl, hk'⟩
      have HK := Lib.hid hk'
      clear hk' HR HA0
      by_cases h0 : k' = 0
      case' neg =>
        have HN1 := Lib.hid (HK.out.2 h0)
        clear HK
        go_wp2_with fail
        go_ret
        exact ⟨k', rfl, HN1.out.1, HN1.out.2.after (HX.out.2.2.mono (by simp))⟩
      subst h0
      have H1 := Lib.hid (HK.out.1 rfl)
      clear HK hz0
    case' neg =>
      rw [decide_eq_false hz0] at hz
      have H1 : Hid (RavAt w1 w1 r M F G x K j 1) := Lib.hid (by
        obtain ⟨Mk, Fk, Gk, h1, h2, hg, h3, h4, h5, h6⟩ := HA0.out
        obtain rfl := h6 rfl
        refine ⟨Mk, Fk, Gk, h1, h2, hg, h3, well_more h4 (by omega), ?_, fun e => by omega⟩
        rw [h5]
        show runOps (saveOps Mk.fs x) Mk = _
        unfold saveOps
        rw [if_neg (by rw [← hz]; simp)]
        rfl)
      clear HA0 hz
    all_goals
      have HR := rav_step (k := 1) (op := opCreate tmpK) (f := 74) (args := #[theRef r, .string tmpS]) H1.out rfl (adds_create K tmpK) (keeps_create tmpK) fun Mk Fk Gk h1 h2 h3 h4 => ref_create r Mk Fk Gk tmpS _ h1 (HLI.out Mk 1 h4 (by omega)) (by decide)
      unfold theRef at HR
      unfold tmpS at HR
      go_wp2_with fail
      refine HR.mono ?_
      rintro e w3 ⟨k', rfl, hk'⟩
      have HK := Lib.hid hk'
      clear hk' HR H1
      by_cases h0 : k' = 0
      case neg =>
        have HN1 := Lib.hid (HK.out.2 h0)
        clear HK
        go_wp2_with fail
        go_ret
        exact ⟨k', rfl, HN1.out.1, HN1.out.2.after (HX.out.2.2.mono (by simp))⟩
      subst h0
      have H2 := Lib.hid (HK.out.1 rfl)
      clear HK
      have ha := fun (Fk : List Nat) (h2 : ∀ q ∈ Fk, q ∈ F ∨ w1.heap.size ≤ q) (hne : x ≠ []) (a : Addr) (n c : Nat) (e : Value.slice a1 m1 c1 = .slice (some a) n c) (hm : a.block ∈ Fk) => (show False from (h2 _ hm).elim (fun hq => (HX.out.2.1 a.block (by rw [e]; rfl)).1 hq) (fun hq => by have := (HX.out.2.1 a.block (by rw [e]; rfl)).2; omega))
      have HAP := Lib.hid ha
      clear ha
      have HR := rav_step (k := 2) (op := opAppend tmpK x) (f := 95) (args := #[theRef r, .string tmpS, .slice a1 m1 c1]) H2.out rfl (adds_append K tmpK x HN.out.2.2.2.2.1) (keeps_append tmpK x) fun Mk Fk Gk h1 h2 h3 h4 => ref_append r Mk Fk Gk tmpS (.slice a1 m1 c1) x _ h1 (HLI.out Mk 2 h4 (by omega)) h4.held.cap (HX.out.1.turn h3 fun hne a n c e hm => (HX.out.2.1 a.block (by rw [e]; rfl)).1 hm) (by have := HN.out.2.2.2.2.2; omega) (fun hne a n c e hm => HAP.out Fk h2 hne a n c e hm)
      unfold theRef at HR
      unfold tmpS at HR
      go_wp2_with fail
      refine HR.mono ?_
      rintro e w3 ⟨k', rfl, hk'⟩
      have HK := Lib.hid hk'
      clear hk' HR H2
      by_cases h0 : k' = 0
      case neg =>
        have HN1 := Lib.hid (HK.out.2 h0)
        clear HK
        go_wp2_with fail
        go_ret
        exact ⟨k', rfl, HN1.out.1, HN1.out.2.after (HX.out.2.2.mono (by simp))⟩
      subst h0
      have H3 := Lib.hid (HK.out.1 rfl)
      clear HK
      have HR := rav_step (k := 3) (op := opSync tmpK) (f := 78) (args := #[theRef r, .string tmpS]) H3.out rfl (adds_sync K tmpK) (keeps_sync tmpK) fun Mk Fk Gk h1 h2 h3 h4 => ref_sync r Mk Fk Gk tmpS _ h1 (HLI.out Mk 3 h4 (by omega))
      unfold theRef at HR
      unfold tmpS at HR
      go_wp2_with fail
      refine HR.mono ?_
      rintro e w3 ⟨k', rfl, hk'⟩
      have HK := Lib.hid hk'
      clear hk' HR H3
      by_cases h0 : k' = 0
      case neg =>
        have HN1 := Lib.hid (HK.out.2 h0)
        clear HK
        go_wp2_with fail
        go_ret
        exact ⟨k', rfl, HN1.out.1, HN1.out.2.after (HX.out.2.2.mono (by simp))⟩
      subst h0
      have H4 := Lib.hid (HK.out.1 rfl)
      clear HK
      have HR := rav_step (k := 4) (op := opRename tmpK snapK) (f := 96) (args := #[theRef r, .string tmpS, .string snapS]) H4.out rfl (adds_rename K tmpK snapK) (keeps_rename tmpK snapK) fun Mk Fk Gk h1 h2 h3 h4 => ref_rename r Mk Fk Gk tmpS snapS _ h1 (HLI.out Mk 4 h4 (by omega)) (by decide)
      unfold theRef at HR
      unfold tmpS snapS at HR
      go_wp2_with fail
      refine HR.mono ?_
      rintro e w3 ⟨k', rfl, hk'⟩
      have HK := Lib.hid hk'
      clear hk' HR H4
      by_cases h0 : k' = 0
      case neg =>
        have HN1 := Lib.hid (HK.out.2 h0)
        clear HK
        go_wp2_with fail
        go_ret
        exact ⟨k', rfl, HN1.out.1, HN1.out.2.after (HX.out.2.2.mono (by simp))⟩
      subst h0
      have H5 := Lib.hid (HK.out.1 rfl)
      clear HK
      go_wp2_with fail
      go_ret
      obtain ⟨Mk, Fk, Gk, h1, h2, hg, h3, h4, h5, _⟩ := H5.out
      refine ⟨0, rfl, ?_, ?_⟩
      · rw [h5]; rfl
      · rw [h5]
        exact (RNext.trans h2 hg h3 h1.more).after (HX.out.2.2.mono (by simp))
end Go.Proofs.YthcdkggkoanjpaaGreatDoor
