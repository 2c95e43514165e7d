/- Regions that draw their order and end with an operation that may write what was there: one walk, whatever is kept of a world. Numbers and types by name. -/
import Derived.Test.YthcdkggkoanjpaaGreatDoorRd
import Derived.Test.YthcdkggkoanjpaaGreatDoorRo
import Derived.Test.YthcdkggkoanjpaaGreatDoorRu
import Derived.Test.YthcdkggkoanjpaaGreatDoorPuw
namespace Go.Proofs.YthcdkggkoanjpaaGreatDoor
open Go.RowKit Go.Maps Go.Sort Go.WideMaps
theorem ref_remove (r : Nat) (M : MD) (F G : List Nat) (name : ByteArray) (w : World) (h : RD w r M F G) (hl : Lim M) :
    Calls Tryz.prog 94 #[theRef r, .string name] w (Left (RActed w r M F G (opRemove name.data.toList))) := by
  have hll := hl.fs.len
  have hri := h.1.rising
  obtain ⟨ok, er, M1, HM, HGt⟩ := gated r M F G w h hl
  clear h
  unfold theRef
  cases ok with
  | false =>
    go_enter Tryz.func94, Tryz.ntmps94
    go_wp2_with fail
    refine HGt.out.mono ?_
    rintro e w1 ⟨rfl, hD1, t1⟩
    have HD := Lib.hid (acted_no (op := opRemove name.data.toList) HM.out hD1 t1)
    clear hD1 t1 HGt
    go_wp2_with fail
    go_ret
    exact ⟨er, rfl, HD.out⟩
  | true =>
    cases hf : M.fs.find? (isName name.data.toList) with
    | none =>
      have HPL : Hid (placeE name.data.toList M1.fs = -1) := Lib.hid (by rw [HM.out.fs]; exact place_none hf)
      have HF := Lib.hid hf
      clear hf
      go_enter Tryz.func94, Tryz.ntmps94
      go_wp2_with fail
      refine HGt.out.mono ?_
      rintro e w1 ⟨rfl, hD1, t1⟩
      have HD := Lib.hid (acted_same (op := opRemove name.data.toList) (k := 3) HM.out (by unfold opRemove; rw [HF.out]) hD1 t1)
      have hT := ref_told r M1 F G 3 w1 hD1
      have hA := ref_at r M1 F G name w1 hD1 (by rw [HM.out.fs]; exact hll)
      rw [HPL.out] at hA
      unfold theRef at hT hA
      clear hD1 t1 HGt
      go_wp2_with fail
      refine hA.mono ?_
      rintro e w2 ⟨rfl, rfl⟩
      clear hA
      go_wp2_with fail
      refine hT.mono ?_
      rintro e w2 ⟨rfl, rfl⟩
      clear hT
      go_wp2_with fail
      go_ret
      exact ⟨_, rfl, HD.out⟩
    | some x =>
      obtain ⟨i, hi, hx, hset, her⟩ := place_some hri hf
      have HPL : Hid (placeE name.data.toList M1.fs = i) := Lib.hid (by rw [HM.out.fs]; exact hi)
      have HF := Lib.hid (And.intro hf her)
      have hi0 : ¬ ((i : Nat) : Int) < 0 := by omega
      clear hf hi hx hset her
      go_enter Tryz.func94, Tryz.ntmps94
      go_wp2_with fail
      refine HGt.out.mono ?_
      rintro e w1 ⟨rfl, hD1, t1⟩
      have hA := ref_at r M1 F G name w1 hD1 (by rw [HM.out.fs]; exact hll)
      rw [HPL.out] at hA
      have hDr := ref_drop r M1 F G i w1 hD1 (by rw [HM.out.fs]; exact hll) (by rw [HM.out.fs, HF.out.2, ← HM.out.fs]; exact hD1.1.wo _)
      unfold theRef at hDr hA
      have HT := Lib.hid t1
      have HDr := Lib.hid hDr
      clear hD1 t1 HGt hDr
      go_wp2_with fail
      refine hA.mono ?_
      rintro e w2 ⟨rfl, rfl⟩
      clear hA
      go_wp2_with fail
      refine HDr.out.mono ?_
      rintro e w3 ⟨rfl, hN⟩
      obtain ⟨F', G', hD3, h3F, h3G, t3⟩ := hN
      have hT := ref_told r _ F' G' 0 w3 hD3
      unfold theRef at hT
      have HN := Lib.hid (acted_yes (op := opRemove name.data.toList) (k := 0) (fs' := woE name.data.toList M.fs) HM.out (by unfold opRemove; rw [HF.out.1]) (by unfold opRemove; rw [HF.out.1]) (RNext.after HT.out ⟨F', G', by rw [← HF.out.2, ← HM.out.fs]; exact hD3, h3F, h3G, t3⟩))
      clear hD3 h3F h3G t3 HDr
      go_wp2_with fail
      refine hT.mono ?_
      rintro e w4 ⟨rfl, rfl⟩
      clear hT
      go_wp2_with fail
      go_ret
      exact ⟨_, rfl, HN.out⟩
theorem cell_new {w : World} {a : Addr} {v : Value} (h : w.cell? a = some v) (o : Obj) : (w.alloc o).cell? a = some v :=
  (World.cell?_of_block (((Turn.refl [] w).alloc o).block _ (World.block_lt_of_cell? w _ h) (by simp))).trans h
theorem ref_read (r : Nat) (M : MD) (F G : List Nat) (name : ByteArray) (w : World) (h : RD w r M F G) (hl : LimF M.fs) :
    Calls Tryz.prog 72 #[theRef r, .string name] w fun e w' => ∃ ao c, e = .returned (.tuple #[.slice ao (M.read name.data.toList).1.length c, .int .i64 (M.read name.data.toList).2]) ∧
      Bs w' w.heap.size (.slice ao (M.read name.data.toList).1.length c) (M.read name.data.toList).1.length (M.read name.data.toList).1 ∧ Turn [] w w' := by
  have hll := hl.len
  have hlt := hl.tot
  have hA := ref_at r M F G name w h hll
  have hri := h.1.rising
  obtain ⟨hf, s, ao, c, xs, hR, hP, hv, hown, hT, hF, hne, hGd⟩ := h
  have c7 := hR.c7
  have c5 := hR.c5
  rw [hP.dw] at c7
  rw [hv] at c5
  unfold theRef at hA
  unfold theRef
  by_cases hdw : M.dw = true
  · have hrd : M.read name.data.toList = ([], 7) := by unfold MD.read; rw [if_pos hdw]
    have HRD := Lib.hid hrd
    rw [hdw] at c7
    clear hR hP hv hown hT hF hne hGd hA hrd
    go_enter Tryz.func72, Tryz.ntmps72
    go_wp2_with fail
    go_ret2
    rw [HRD.out]
    exact ⟨none, 0, rfl, ⟨rfl, World.ownsRow_nil _ _ _ _⟩, Turn.refl _ _⟩
  · rw [Bool.not_eq_true] at hdw
    rw [hdw] at c7
    cases hfi : M.fs.find? (isName name.data.toList) with
    | none =>
      have hrd : M.read name.data.toList = ([], 3) := by unfold MD.read; rw [if_neg (by simp [hdw]), hfi]
      have HRD := Lib.hid hrd
      rw [place_none hfi] at hA
      clear hR hP hv hown hT hF hne hGd hrd hfi
      go_enter Tryz.func72, Tryz.ntmps72
      go_wp2_with fail
      refine hA.mono ?_
      rintro e w2 ⟨rfl, rfl⟩
      clear hA
      go_wp2_with fail
      go_ret2
      rw [HRD.out]
      exact ⟨none, 0, rfl, ⟨rfl, World.ownsRow_nil _ _ _ _⟩, Turn.refl _ _⟩
    | some x =>
      have hrd : M.read name.data.toList = (x.2.1, 0) := by unfold MD.read; rw [if_neg (by simp [hdw]), hfi]
      obtain ⟨i, hi, hx, hset, her⟩ := place_some hri hfi
      rw [hi] at hA
      obtain ⟨ab, cb, q1, q2, q3, hrb, hgb⟩ := hT.2 i x hx
      obtain ⟨g, rfl, k2, _⟩ := row_cell hown (by rw [hT.1]) q2
      have hil : i < M.fs.length := (List.getElem?_eq_some_iff.1 hx).1
      have hxt := tot_mem (List.mem_of_getElem? hx)
      have i1 : ((i : Nat) : Int) < (M.fs.length : Int) := by omega
      have i0 : ¬ ((i : Nat) : Int) < 0 := by omega
      have HRD := Lib.hid (And.intro hrd hrb)
      have F1 : Hid (x.2.1.length ≤ maxLen) := Lib.hid (by unfold maxLen; omega)
      have F2 : Hid (x.2.1.length * 1 ≤ 140737488355328) := Lib.hid (by omega)
      have c5' := fun o => cell_new c5 o
      have k2' := fun o => cell_new k2 o
      clear hR hP hv hown hT hF hne hGd hrd hfi hi hx hset her q1 q2 q3 hrb hgb hxt
      go_enter Tryz.func72, Tryz.ntmps72
      go_wp2_with fail
      refine hA.mono ?_
      rintro e w2 ⟨rfl, rfl⟩
      clear hA
      go_wp2_with (at_builtin; refine wpList_append_bytes rfl _ _ rfl w.heap.size _ 0 [] rfl (Bs.empty w w.heap.size (Nat.le_refl _)) _ x.2.1.length x.2.1 rfl rfl (HRD.out.2.alloc _) x.2.1.length (Nat.zero_add _).symm F1 F2 (by simp) ?_; intro ao5 c5 w5 hown5 hb5)
      go_ret2
      rw [HRD.out.1]
      exact ⟨ao5, c5, rfl, hown5, turn_below (((Below.refl _ w).alloc (Nat.le_refl _) _).trans hb5)⟩
end Go.Proofs.YthcdkggkoanjpaaGreatDoor
namespace Go.Proofs.YthcdkggkoanjpaaGreatDoor
open Go.RowKit Go.Maps Go.Sort Go.WideMaps
theorem tot_take_next {fs : List Ent} {j : Nat} {y : Ent} (h : fs[j]? = some y) : tot (fs.take (j + 1)) = tot (fs.take j) + y.2.1.length := by
  rw [List.take_add_one, h]
  simp [tot]
theorem tot_take_le (fs : List Ent) (j : Nat) : tot (fs.take j) ≤ tot fs := by
  have := congrArg tot (List.take_append_drop j fs)
  rw [tot_append] at this
  omega
set_option maxRecDepth 100000 in
set_option maxHeartbeats 4000000 in
theorem ref_append (r : Nat) (M : MD) (F G : List Nat) (name : ByteArray) (vb : Value) (l : List UInt8) (w : World) (h : RD w r M F G) (hl : Lim M) (hcap : M.cap ≤ 9223372036854775807) (hr : Reads w vb (bv l)) (hll2 : l.length ≤ 50000000) (hvb : l ≠ [] → ∀ a n c, vb = .slice (some a) n c → a.block ∉ F) :
    Calls Tryz.prog 95 #[theRef r, .string name, vb] w (Left (RActed w r M F G (opAppend name.data.toList l))) := by
  have hll := hl.fs.len
  have hlt := hl.fs.tot
  have hri := h.1.rising
  have hrF := h.lt.1
  obtain ⟨avb, cvb, rfl⟩ : ∃ ao c, vb = .slice ao l.length c := by obtain ⟨ao, c, rfl, _⟩ := hr; exact ⟨ao, c, by rw [bv_length]⟩
  obtain ⟨ok, er, M1, HM, HGt⟩ := gated r M F G w h hl
  obtain ⟨lb, hlb⟩ : ∃ lb, lb = l.length := ⟨_, rfl⟩
  rw [← hlb] at hr hvb hll2 ⊢
  have HLB := Lib.hid (And.intro hlb (And.intro hr hvb))
  clear h hlb hr hvb
  unfold theRef
  cases ok with
  | false =>
    go_enter Tryz.func95, Tryz.ntmps95
    go_wp2_with fail
    refine HGt.out.mono ?_
    rintro e w1 ⟨rfl, hD1, t1⟩
    have HD := Lib.hid (acted_no (op := opAppend name.data.toList l) HM.out hD1 t1)
    clear hD1 t1 HGt
    go_wp2_with fail
    go_ret
    exact ⟨er, rfl, HD.out⟩
  | true =>
    cases hf : M.fs.find? (isName name.data.toList) with
    | none =>
      have HPL : Hid (placeE name.data.toList M1.fs = -1) := Lib.hid (by rw [HM.out.fs]; exact place_none hf)
      have HF := Lib.hid hf
      clear hf
      go_enter Tryz.func95, Tryz.ntmps95
      go_wp2_with fail
      refine HGt.out.mono ?_
      rintro e w1 ⟨rfl, hD1, t1⟩
      have HD := Lib.hid (acted_same (op := opAppend name.data.toList l) (k := 3) HM.out (by unfold opAppend; rw [HF.out]) hD1 t1)
      have hT := ref_told r M1 F G 3 w1 hD1
      have hA := ref_at r M1 F G name w1 hD1 (by rw [HM.out.fs]; exact hll)
      rw [HPL.out] at hA
      unfold theRef at hT hA
      clear hD1 t1 HGt
      go_wp2_with fail
      refine hA.mono ?_
      rintro e w2 ⟨rfl, rfl⟩
      clear hA
      go_wp2_with fail
      refine hT.mono ?_
      rintro e w2 ⟨rfl, rfl⟩
      clear hT
      go_wp2_with fail
      go_ret
      exact ⟨_, rfl, HD.out⟩
    | some x =>
      obtain ⟨i, hi, hx, hset, her⟩ := place_some hri hf
      have HPL : Hid (placeE name.data.toList M1.fs = i) := Lib.hid (by rw [HM.out.fs]; exact hi)
      have hi0 : ¬ ((i : Nat) : Int) < 0 := by omega
      have hil := (List.getElem?_eq_some_iff.1 hx).1
      have hxt := tot_mem (List.mem_of_getElem? hx)
      have HF := Lib.hid (And.intro hf (And.intro (hset (fun x => (x.1, x.2.1 ++ l, x.2.2))) hx))
      obtain ⟨n, hn⟩ : ∃ n, n = M1.fs.length := ⟨_, rfl⟩
      have HN := Lib.hid hn
      have i1 : ((i : Nat) : Int) < (n : Int) := by rw [hn, HM.out.fs]; omega
      have hln : n < 900000 := by rw [hn, HM.out.fs]; exact hll
      clear hf hi hx hset her hil
      go_enter Tryz.func95, Tryz.ntmps95
      go_wp2_with fail
      refine HGt.out.mono ?_
      rintro e w1 ⟨rfl, hD1, t1⟩
      have HD1 := Lib.hid (And.intro hD1 t1)
      have hA := ref_at r M1 F G name w1 hD1 (by rw [HM.out.fs]; exact hll)
      rw [HPL.out] at hA
      unfold theRef at hA
      have hT := ref_told r M1 F G 5 w1 hD1
      unfold theRef at hT
      have hvr : Reads w1 (.slice avb lb cvb) (bv l) := HLB.out.2.1.turn t1 fun hne a n c e => HLB.out.2.2 (by intro e2; rw [e2] at hne; exact hne rfl) a n c e
      obtain ⟨hfit, s, ao, c, xs, hR, hP, hv, hown, hTe, hFF, hnn, hGd⟩ := hD1
      have hxi : M1.fs[i]? = some x := by rw [HM.out.fs]; exact HF.out.2.2
      obtain ⟨ab, cb, q1, q2, q3, hrb, hgb⟩ := hTe.2 i x hxi
      obtain ⟨g, rfl, k2, f2⟩ := row_cell hown (by rw [hTe.1]) q2
      have c5 := hR.c5
      have c0 := hR.c0
      rw [hv, ← hn] at c5
      rw [hP.cap, HM.out.cap] at c0
      have hgw := (hown.lt g rfl).2
      have hgr : g ≠ r := by rintro rfl; exact hnn rfl
      have hgG : g ∉ G := fun hm => (hGd g hm).1 (by rw [hFF]; simp [own_block])
      have HX := Lib.hid (And.intro hfit (And.intro hR (And.intro hP (And.intro hv (And.intro hown (And.intro hTe (And.intro hFF (And.intro hnn (And.intro hGd (And.intro hxi (And.intro hgw (And.intro hgr (And.intro hgG (And.intro q2 (And.intro hvr (And.intro hrb hgb))))))))))))))))
      clear hfit hR hP hv hown hTe hFF hnn hGd t1 HGt q1 q2 q3 hrb hgb hxi hgw hgr hgG hvr hn hrF
      go_wp2_with fail
      refine hA.mono ?_
      rintro e w2 ⟨rfl, rfl⟩
      clear hA
      by_cases hneg : M.cap < 0
      · have HD := Lib.hid (acted_same (op := opAppend name.data.toList l) (k := 5) HM.out (by unfold opAppend; rw [HF.out.1]; simp only; rw [if_pos (by omega)]) HD1.out.1 HD1.out.2)
        go_wp2_with fail
        refine hT.mono ?_
        rintro e w2 ⟨rfl, rfl⟩
        clear hT
        go_wp2_with fail
        go_ret
        exact ⟨_, rfl, HD.out⟩
      · go_wp2_with fail
        go_loopw [10, 11] (fun rv iv wr => ∃ j : Nat, j ≤ n ∧ iv = .int .i64 j ∧ rv = .int .i64 (M.cap - (tot (M.fs.take j) : Nat)) ∧ w1 = wr)
          (fun _ iv _ => n - (intOf iv).toNat)
        case atStart => exact ⟨0, Nat.zero_le _, rfl, by simp [tot], rfl⟩
        case round =>
          obtain ⟨j, hj, rfl, rfl, rfl⟩ := hrel
          have hle := tot_take_le M.fs j
          by_cases h1 : j < n
          · have h3 : (j : Int) < (n : Int) := by omega
            obtain ⟨y, hy⟩ : ∃ y, M.fs[j]? = some y := ⟨_, List.getElem?_eq_getElem (by have := HN.out; rw [HM.out.fs] at this; omega)⟩
            obtain ⟨_, _, p1, p2, _⟩ := HX.out.2.2.2.2.2.1.2 j y (by rw [HM.out.fs]; exact hy)
            obtain ⟨_, e, m2, _⟩ := row_cell HX.out.2.2.2.2.1 (by rw [HX.out.2.2.2.2.2.1.1]) p2
            cases e
            have hnx := tot_take_next hy
            have hle2 := tot_take_le M.fs (j + 1)
            have hu : wrap64 (M.cap - (tot (M.fs.take j) : Nat) - (y.2.1.length : Nat)) = M.cap - (tot (M.fs.take (j + 1)) : Nat) := by rw [wrap64_id _ (by omega)]; omega
            have HU := Lib.hid (And.intro hu hnx)
            clear hy p1 p2 hu hnx hT
            generalize tot (M.fs.take j) = tj at *
            go_wp2_with fail
            refine ⟨⟨j + 1, by omega, by simp, ?_, trivial⟩, by simp [intOf]; omega⟩
            have h1 := HU.out.2
            have e : M.cap - (tj : Int) - (y.2.1.length : Nat) = M.cap - (tot (M.fs.take (j + 1)) : Nat) := by omega
            rw [e, wrap64_id _ (by omega)]
          · have h3 : ¬ (j : Int) < (n : Int) := by omega
            obtain rfl : j = n := by omega
            have hkL : M.fs.take j = M.fs := List.take_of_length_le (by have := HN.out; rw [HM.out.fs] at this; omega)
            rw [hkL] at hle ⊢
            clear hkL h1 hle
            obtain ⟨T, hTT⟩ : ∃ T, T = tot M.fs := ⟨_, rfl⟩
            have HTT := Lib.hid hTT
            rw [← hTT] at hlt hxt ⊢
            clear hTT
            by_cases hbig : M.cap - (T : Nat) < (lb : Int)
            · have HD := Lib.hid (acted_same (op := opAppend name.data.toList l) (k := 5) HM.out (by unfold opAppend; rw [HF.out.1]; simp only; rw [if_pos (by rw [← HTT.out, ← HLB.out.1]; omega)]) HD1.out.1 HD1.out.2)
              go_wp2_with fail
              refine hT.mono ?_
              rintro e w2 ⟨rfl, rfl⟩
              clear hT
              go_wp2_with fail
              go_ret
              exact ⟨_, rfl, HD.out⟩
            · clear hT
              have c5' := fun o => cell_new c5 o
              have k2' := fun o => cell_new k2 o
              obtain ⟨q, hq⟩ : ∃ q, q = x.2.1.length := ⟨_, rfl⟩
              have HQ1 := Lib.hid hq
              rw [← hq] at k2 k2' hxt
              have hqr : Hid (Reads w1 (.slice ab q cb) (bv x.2.1)) := Lib.hid (by rw [hq]; exact HX.out.2.2.2.2.2.2.2.2.2.2.2.2.2.2.2.1)
              clear hq
              have F1 : Hid (q ≤ maxLen) := Lib.hid (by unfold maxLen; omega)
              have F2 : Hid (q * 1 ≤ 140737488355328) := Lib.hid (by omega)
              have F3 : Hid (q + lb ≤ maxLen) := Lib.hid (by unfold maxLen; omega)
              have F4 : Hid ((q + lb) * 1 ≤ 140737488355328) := Lib.hid (by omega)
              have hvr : Hid (Reads w1 (.slice avb lb cvb) (bv l)) := Lib.hid HX.out.2.2.2.2.2.2.2.2.2.2.2.2.2.2.1
              have hgw := HX.out.2.2.2.2.2.2.2.2.2.2.1
              have hrw := HX.out.2.1.lt
              go_wp2_with (first | (at_builtin; refine wpList_append_bytes rfl (.tmp 63) (.tmp 71) rfl w1.heap.size _ 0 [] rfl (Bs.empty w1 w1.heap.size (Nat.le_refl _)) _ q x.2.1 HQ1.out rfl (hqr.out.alloc _) q (Nat.zero_add q).symm F1 F2 (by simp) ?_; intro ao5 cc5 w5 hown5 hb5; have hb15 : Below w1.heap.size w1 w5 := ((Below.refl _ w1).alloc (Nat.le_refl _) _).trans hb5; clear hb5) | (at_builtin; refine wpList_append_bytes rfl (.tmp 73) (.tmp 74) rfl w1.heap.size _ q _ rfl hown5 _ lb l HLB.out.1 rfl (hvr.out.later hb15) (q + lb) rfl F3 F4 hb15.size ?_; intro ao6 cc6 w6 hown6 hb6; have hb16 : Below w1.heap.size w1 w6 := hb15.trans hb6; have c56 : w6.cell? ⟨r, 5, none⟩ = some (.slice (some ⟨g, 0, none⟩) j c) := (World.cell?_of_block (hb16.block _ hrw)).trans c5; have k26 : w6.cell? ⟨g, i * 3 + 1, none⟩ = some (.slice ab q cb) := (World.cell?_of_block (hb16.block _ hgw)).trans k2; have f26 : w6.frozen? ⟨g, i * 3 + 1, none⟩ = false := (World.frozen?_of_block (hb16.block _ hgw)).trans f2; have HY := Lib.hid (And.intro hown6 hb16); clear hown5 hown6 hb15 hb6 hb16))
              obtain ⟨hfit, hR, hP, hv, hown, hTe, hFF, hnn, hGd, hxi, _, hgr, hgG, q2, _, hrb, hgb⟩ := HX.out
              obtain ⟨hown6, hb16⟩ := HY.out
              have t16 := turn_below hb16
              have hown16 := owns_turn hown t16 (by simp)
              have hlen6 : q + lb = (x.2.1 ++ l).length := by rw [List.length_append, ← HQ1.out, ← HLB.out.1]
              have tS : Turn [g] w6 (w6.setCell ⟨g, i * 3 + 1, none⟩ (.slice ao6 (q + lb) cc6)) := (Turn.refl [g] w6).set (.inl (by simp)) _ _
              have hob : ∀ a, ao6 = some a → (Value.slice ao6 (q + lb) cc6).ownBlock = some a.block := by
                intro a hao
                rcases hown6.2.2 with ⟨e2, _⟩ | ⟨g5, _, _, e2, _⟩
                · simp only [Value.slice.injEq] at e2; rw [hao] at e2; cases e2.1
                · simp only [Value.slice.injEq] at e2; rw [e2.1] at hao ⊢; cases hao; rfl
              obtain ⟨H, hH1, hH2⟩ : ∃ H : List Nat, (∀ a, ao6 = some a → a.block ∈ H) ∧ ∀ b ∈ H, w1.heap.size ≤ b ∧ b < w6.heap.size := by
                cases hao : ao6 with
                | none => exact ⟨[], fun a e => (by cases e), by simp⟩
                | some a =>
                  refine ⟨[a.block], fun a' e => (by cases e; simp), fun b hb => ?_⟩
                  simp only [List.mem_singleton] at hb
                  subst hb
                  exact hown6.2.lt a.block (hob a hao)
              have hgH : g ∉ G ++ H := fun hm => by
                rcases List.mem_append.1 hm with hm | hm
                · exact hgG hm
                · have := (hH2 g hm).1; omega
              have hr6 : Reads (w6.setCell ⟨g, i * 3 + 1, none⟩ (.slice ao6 (q + lb) cc6)) (.slice ao6 (x.2.1 ++ l).length cc6) (bv (x.2.1 ++ l)) := by
                rw [← hlen6]
                refine hown6.reads.turn tS fun hne a n c e => ?_
                simp only [Value.slice.injEq] at e
                have := (hown6.2.lt a.block (hob a e.1)).1
                simp only [List.mem_singleton]
                omega
              have hT5 := (hTe.turn t16 (by simp)).more (G' := G ++ H) fun k hk => List.mem_append_left _ hk
              have hT6 := hT5.bytes tS hgH hxi (x.2.1 ++ l) ao6 cc6 hr6 (fun _ a e => List.mem_append_right _ (hH1 a e))
              rw [← hlen6] at hT6
              have hown7 := own_setD hown16 (i * 3 + 1) (.slice ao6 (q + lb) cc6) (by have := (List.getElem?_eq_some_iff.1 q2).1; omega)
              have tAll := (t16.mono (G := [g]) (by simp)).trans tS
              have e6s := tS.size
              have hN := RD.filed (k := i) (y := (x.1, x.2.1 ++ l, x.2.2)) (G' := G ++ H) hR hP hv rfl (by rw [hFF]; rfl) hgr hgw hGd (by
                rw [HM.out.fs, HF.out.2.1, ← HM.out.fs]
                exact hfit.upd _ (fun _ => rfl) fun y hy _ => by have := hfit.sy y hy; simp only [List.length_append]; omega) tAll (by rw [← HN.out] at hown7 ⊢; exact hown7) hT6 (fun k hk => List.mem_append_left _ hk) (fun k hk => (List.mem_append.1 hk).imp id fun h => (hH2 k h).1) (fun k hk => (List.mem_append.1 hk).elim (fun h => Nat.lt_of_lt_of_le (hGd k h).2 tAll.size) fun h => by have := (hH2 k h).2; omega)
              obtain ⟨F2', G2, hD2, h2F, h2G, t2⟩ := hN
              rw [HM.out.fs, HF.out.2.1] at hD2
              have hT := ref_told r _ F2' G2 0 _ hD2
              unfold theRef at hT
              refine hT.mono ?_
              rintro e w7 ⟨rfl, hw7⟩
              have HQ := Lib.hid (acted_yes (op := opAppend name.data.toList l) (k := 0) (fs' := updE name.data.toList (fun x => (x.1, x.2.1 ++ l, x.2.2)) M.fs) HM.out (by unfold opAppend; rw [HF.out.1]; simp only; rw [if_neg (by rw [← HTT.out, ← HLB.out.1]; omega)]) (by unfold opAppend; rw [HF.out.1]; simp only; rw [if_neg (by rw [← HTT.out, ← HLB.out.1]; omega)]) (RNext.after HD1.out.2 ⟨F2', G2, hD2, h2F, h2G, t2⟩))
              rw [hw7] at HQ
              clear hT hw7 hD2 h2F h2G t2 tAll hown7 hT6 hT5 hfit hR hP hv hown hTe hFF hnn hGd hxi hgr hgG q2 hrb hgb hown6 t16 tS hH1 hH2 hgH hown16 hob hr6 hb16 hlen6
              go_wp2_with fail
              go_ret
              exact ⟨_, rfl, HQ.out⟩
end Go.Proofs.YthcdkggkoanjpaaGreatDoor
namespace Go.Proofs.YthcdkggkoanjpaaGreatDoor
open Go.RowKit Go.Lib
section
variable {P : Program} {md : Region.Mode} {ops : Array Oper}
def wpMgs (G : World → World → Prop) (P : Program) (md : Region.Mode) (ops : Array Oper) (k : Nat) (Q : Act → World → Prop) : Nat → Array Bool → Act → World → Prop
  | 0, listed, a, w => Region.ready md ops listed = [] ∧ Q a w
  | fuel + 1, listed, a, w =>
    (Region.ready md ops listed = [] → Q a w) ∧
    ∀ i ∈ Region.ready md ops listed, mvOp P ops i (fun a' w' => (i = k ∨ G w w') ∧ wpMgs G P md ops k Q fuel (listed.setIfInBounds i true) a' w') a w
theorem wpAny_of_mgs {G : World → World → Prop} {k : Nat} {Q : Act → World → Prop} {Q' : Exit → Act → World → Prop} (hQ : ∀ a w, Q a w → Q' .normal a w) : ∀ (fuel : Nat) (listed : Array Bool) (a : Act) (w : World),
    wpMgs G P md ops k Q fuel listed a w → wpAny P md ops Q' fuel listed a w
  | 0, _, _, _, h => ⟨h.1, hQ _ _ h.2⟩
  | fuel + 1, _, _, _, h => ⟨fun h0 => hQ _ _ (h.1 h0), fun i hi => wpOp_mono (fun a' w' h' => wpAny_of_mgs hQ fuel _ a' w' h'.2) (wpOp_of_mvOp (h.2 i hi))⟩
theorem wpMgs_first {G : World → World → Prop} (g0 : ∀ w, G w w) (g1 : ∀ {a b c}, G a b → G b c → G a c) {k : Nat} {Q : Act → World → Prop} {i : Nat} {oi : Oper} {v : Value} (hi : ops[i]? = some oi) (hL : waitB md ops k i = true) (hsel : ∀ (j : Nat) (o : Oper) cs b, ops[j]? = some o → o.op ≠ .select cs b) :
    ∀ (fuel : Nat) (listed : Array Bool) (a : Act) (w : World),
      (∀ j oj, ops[j]? = some oj → j ≠ i → listed.getD j true = false → (∀ e ∈ oj.after, Region.binds md e = true → e.on ≠ i) → oi.apart ops oj = true) →
      i ∈ Region.ready md ops listed → Upg G P ops w oi v a →
      wpMgs G P md ops k Q fuel (listed.setIfInBounds i true) (a.put oi.dst v) w → wpMgs G P md ops k Q (fuel + 1) listed a w := by
  intro fuel
  induction fuel with
  | zero =>
    intro listed a w _ hr hy H
    refine ⟨fun h => (by rw [h] at hr; cases hr), fun j hj => ?_⟩
    by_cases hji : j = i
    · subst hji; exact YieldsAt.mvOp hi (hy w (g0 w)) ⟨.inr (g0 w), H⟩
    · have := ready_mono hj hji
      rw [H.1] at this
      cases this
  | succ fuel ih =>
    intro listed a w hfree hr hy H
    refine ⟨fun h => (by rw [h] at hr; cases hr), fun j hj => ?_⟩
    by_cases hji : j = i
    · subst hji; exact YieldsAt.mvOp hi (hy w (g0 w)) ⟨.inr (g0 w), H⟩
    · have hjk : j ≠ k := by
        rintro rfl
        exact wait_not hL (mem_ready.1 hr).1 hj
      have h1 := mvOp_mono (K' := fun a' w' => G w w' ∧ wpMgs G P md ops k Q fuel ((listed.setIfInBounds i true).setIfInBounds j true) a' w') (fun a' w' h => ⟨h.1.resolve_left hjk, h.2⟩) (H.2 j (ready_mono hj hji))
      obtain ⟨hjun, oj, hoj, hall⟩ := mem_ready.1 hj
      have hnot : ∀ e ∈ oj.after, Region.binds md e = true → e.on ≠ i := fun e he hb heq => by
        have h1 := hall e he hb
        have h0 := (mem_ready.1 hr).1
        rw [heq] at h1
        rcases Nat.lt_or_ge i listed.size with h' | h'
        · simp [h'] at h0 h1; rw [h0] at h1; cases h1
        · simp [Array.getElem?_eq_none h'] at h1
      have h2 := mvOp_putg (G := G) g1 hoj (hfree j oj hoj hji hjun hnot) (fun cs b => hsel i oi cs b hi) (fun cs b => hsel j oj cs b hoj) hy h1
      have hfree' : ∀ q ok, ops[q]? = some ok → q ≠ i → (listed.setIfInBounds j true).getD q true = false →
          (∀ e ∈ ok.after, Region.binds md e = true → e.on ≠ i) → oi.apart ops ok = true := fun q ok hk hki hun hno => by
        refine hfree q ok hk hki ?_ hno
        by_cases hjk : j = q
        · subst hjk; exact hjun
        · rw [getD_set_ne true hjk] at hun; exact hun
      refine mvOp_mono (fun a' w' h3 => ⟨.inr h3.1, ih (listed.setIfInBounds j true) a' w' hfree' (ready_mono hr (Ne.symm hji)) h3.2.1 ?_⟩) h2
      rw [Array.setIfInBounds_comm _ _ hji]
      exact h3.2.2
def wpLgs (G : World → World → Prop) (P : Program) (ops : Array Oper) (k : Nat) (Q : Act → World → Prop) : List (Nat × Bool × Oper) → Act → World → Prop
  | [], a, w => Q a w
  | (_, true, o) :: r, a, w => ∃ v, Upg G P ops w o v a ∧ wpLgs G P ops k Q r (a.put o.dst v) w
  | (j, false, o) :: r, a, w => mvRun P ops o (fun a' w' => (j = k ∨ G w w') ∧ wpLgs G P ops k Q r a' w') a w
theorem wpMgs_of_lin {G : World → World → Prop} (g0 : ∀ w, G w w) (g1 : ∀ {a b c}, G a b → G b c → G a c) {k : Nat} {Q : Act → World → Prop} (hs : Region.noSelect ops = true) : ∀ (l : List (Nat × Bool × Oper)) (listed : Array Bool) (a : Act) (w : World), (∀ x ∈ l, ops[x.1]? = some x.2.2) → (∀ x ∈ l, x.2.1 = true → waitB md ops k x.1 = true) →
    mvB md ops l listed = true → wpLgs G P ops k Q l a w → wpMgs G P md ops k Q l.length listed a w
  | [], _, _, _, _, _, hB, h => ⟨by simpa [mvB] using hB, h⟩
  | (j, true, o) :: r, listed, a, w, hat, hnk, hB, h => by
    simp only [mvB, Bool.and_eq_true] at hB
    obtain ⟨v, hy, hK⟩ := h
    have h0 : ops[j]? = some o := hat (j, true, o) (List.mem_cons_self ..)
    exact wpMgs_first (G := G) g0 g1 h0 (hnk (j, true, o) (List.mem_cons_self ..) rfl) (Region.noSelect_spec hs) r.length listed a w (Region.free_spec h0 hB.1.2) (by simpa using hB.1.1) hy
      (wpMgs_of_lin (G := G) g0 g1 hs r _ _ w (fun x hx => hat x (by simp [hx])) (fun x hx => hnk x (by simp [hx])) hB.2 hK)
  | (j, false, o) :: r, listed, a, w, hat, hnk, hB, h => by
    simp only [mvB, Bool.and_eq_true, decide_eq_true_eq] at hB
    refine ⟨fun h1 => (by rw [hB.1] at h1; cases h1), fun i hi => ?_⟩
    rw [hB.1] at hi
    obtain rfl : i = j := by simpa using hi
    have h0 : ops[i]? = some o := hat (i, false, o) (List.mem_cons_self ..)
    have hm : mvOp P ops i (fun a' w' => (i = k ∨ G w w') ∧ wpLgs G P ops k Q r a' w') a w := by unfold mvOp; simp only [h0]; exact h
    exact mvOp_mono (fun a' w' h' => ⟨h'.1, wpMgs_of_lin (G := G) g0 g1 hs r _ a' w' (fun x hx => hat x (by simp [hx])) (fun x hx => hnk x (by simp [hx])) hB.2 h'.2⟩) hm
theorem wp_region_mgs (G : World → World → Prop) (g0 : ∀ w, G w w) (g1 : ∀ {a b c}, G a b → G b c → G a c) {id : Nat} {Q : Exit → Act → World → Prop} {a : Act} {w : World} {l : List Oper} (k : Nat) (segs : List (Nat × Nat × Bool)) (hm : P.follows .mixedOrders = true) (hB : mvsOk l.toArray k (mvAll segs l) = true)
    (h : wpLgs G P l.toArray k (fun a' w' => Q .normal a' w') (mvAll segs l) a w.drew) : (Code.region id l.toArray true).wp P Q a w := by
  simp only [mvsOk, mvOk, Bool.and_eq_true, beq_iff_eq] at hB
  refine wp_region_any hm (wpAny_of_mgs (G := G) (k := k) (Q := fun a' w' => Q .normal a' w') (fun _ _ h => h) _ _ _ _ ?_)
  have := wpMgs_of_lin (G := G) g0 g1 (md := .any) (k := k) hB.1.1.1 (mvAll segs l) (Array.replicate l.toArray.size false) a w.drew (mvAll_at l segs) (fun x hx hb => by
    have := List.all_eq_true.1 hB.2 x hx
    simp only [Bool.or_eq_true, Bool.not_eq_true'] at this
    rcases this with h | h
    · rw [hb] at h; cases h
    · exact h) hB.1.2 h
  rw [hB.1.1.2] at this
  exact this
theorem wpLgs_nil {G : World → World → Prop} {k : Nat} {Q : Act → World → Prop} {a : Act} {w : World} (h : Q a w) : wpLgs G P ops k Q [] a w := h
theorem wpLgs_still {G : World → World → Prop} {k : Nat} {Q : Act → World → Prop} {j : Nat} {o : Oper} {r : List (Nat × Bool × Oper)} {a : Act} {w : World} (v : Value) (hv : ∀ w', G w w' → ∀ K : Value → Prop, K v → mvVal P ops o a w' K)
    (h : ∀ K : Act → Prop, (∀ a, wpLgs G P ops k Q r a w → K a) → K (a.put o.dst v)) : wpLgs G P ops k Q ((j, true, o) :: r) a w := by
  refine ⟨v, fun w' hg => ?_, h _ fun _ h => h⟩
  have := hv w' hg (fun u => u = v) rfl
  unfold mvVal at this
  unfold YieldsAt
  by_cases hw : Region.wanted o (yielded ops a.tmps) = true
  · left
    rw [if_pos hw] at this
    refine ⟨hw, ?_⟩
    split at this
    · next heq => obtain ⟨rfl, rfl⟩ := this; exact .inl heq
    · next heq => obtain ⟨rfl, rfl⟩ := this; exact .inr (.inl ⟨heq, rfl⟩)
    · next heq => obtain ⟨rfl, u, hc, rfl⟩ := this; exact .inr (.inr ⟨_, _, heq, hc⟩)
    · exact this.elim
  · right
    rw [if_neg hw] at this
    exact ⟨by simpa using hw, this.symm⟩
theorem wpLgs_call {G : World → World → Prop} {k : Nat} {Q : Act → World → Prop} {j : Nat} {o : Oper} {r : List (Nat × Bool × Oper)} {a : Act} {w : World}
    (h : ∀ K : Act → World → Prop, (∀ a w', G w w' → wpLgs G P ops k Q r a w' → K a w') → mvRun P ops o K a w) : wpLgs G P ops k Q ((j, false, o) :: r) a w :=
  mvRun_mono (fun _ _ h => ⟨.inr h.1, h.2⟩) (h (fun a' w' => G w w' ∧ wpLgs G P ops k Q r a' w') fun _ _ hg hk => ⟨hg, hk⟩)
theorem wpLgs_last {G : World → World → Prop} {k : Nat} {Q : Act → World → Prop} {o : Oper} {r : List (Nat × Bool × Oper)} {a : Act} {w : World}
    (h : ∀ K : Act → World → Prop, (∀ a w', wpLgs G P ops k Q r a w' → K a w') → mvRun P ops o K a w) : wpLgs G P ops k Q ((k, false, o) :: r) a w :=
  mvRun_mono (fun _ _ h => ⟨.inl rfl, h⟩) (h (fun a' w' => wpLgs G P ops k Q r a' w') fun _ _ hk => hk)
end
end Go.Proofs.YthcdkggkoanjpaaGreatDoor
