/- The reference's Restart. Numbers and types by name. -/
import Derived.Test.YthglbmnhlnpmkaaGreatMvs
/- The reference's Cut. Numbers and types by name. -/
namespace Go.Proofs.YthglbmnhlnpmkaaGreat
open Go.RowKit Go.Maps Go.Sort Go.WideMaps

/-- append([]byte{}, b...): new memory, what was there is as it was. -/
theorem run_append_clone (ty : TypeId) (base : Nat) (z : Addr) (vb : Value) (m : Nat) (k : List UInt8) (w : World) (hown : Bs w base (.slice (some z) 0 0) 0 []) (hm : m = k.length) (hr : Reads w vb (bv k)) (h63 : m ≤ 1000000000) (hbase : base ≤ w.heap.size) :
    ∃ ao c w', (Builtin.append_ #[46, 46] ty #[.slice (some z) 0 0, vb]).run Tryz.prog w = .ok (.slice ao m c) w' ∧ Bs w' base (.slice ao m c) m k ∧ Grow w w' := by
  obtain ⟨i0, hi, hz0, hz1, hz2⟩ := info_parts info_byte
  obtain ⟨ab, cb, rfl, h0, h1, h2⟩ := hr
  rw [bv_length] at *
  subst hm
  rcases Nat.eq_zero_or_pos k.length with e | hpos
  · have hk : k = [] := List.eq_nil_of_length_eq_zero e
    subst hk
    refine ⟨some z, 0, w, ?_, hown, Grow.refl w⟩
    have hfc : (Builtin.firstCells 1 0 (.slice ab 0 cb)).run Tryz.prog w = .ok #[] w := by
      cases ab with
      | none => exact run_firstCells_none w 1 0 0 cb
      | some a => exact run_firstCells_some w 1 0 a 0 cb [] rfl (fun j v hj => by cases hj)
    cases ab <;> simp [hfc, Builtin.append_, run_underlying Tryz.underlying46, sizeOf, typeInfo, hi, hz1, storeCells, Builtin.lenOf, loadCells]
  · cases ab with
    | none =>
      have := (h1 rfl).1
      have h3 : (bv k).length = 0 := by rw [this]; rfl
      rw [bv_length] at h3; omega
    | some a =>
      obtain ⟨v', w', hrun, hown', hg⟩ := run_append_arg_grows (P := Tryz.prog) w 46 ty 5 i0 (.int .u8 0) 1 1 Tryz.underlying46 hi hz0 hz1 hz2 rfl (by decide) z 0 0 [] rfl (fun j u hj => by cases hj) a k.length cb (bv k) (by rw [bv_length]; omega) (h2 a rfl) (by omega) (by unfold maxLen; omega) (by omega)
      obtain ⟨ao, c, rfl⟩ := owns_shape hown'
      simp only [Nat.zero_add, List.nil_append] at hrun hown'
      exact ⟨ao, c, w', hrun, ⟨rfl, owns_base hown' hbase⟩, below_none hg (Nat.le_refl _)⟩

theorem mvRun_clone {ops : Array Oper} {o : Oper} {a : Act} {w : World} {K : Act → World → Prop} (hgd : o.guard = none) (s x : Operand)
    (ho : o.op = .call { callee := .builtin .append, args := #[s, x], argTypes := #[46, 46] })
    (base : Nat) (z : Addr) (hs : a.eval s = .slice (some z) 0 0) (hown : Bs w base (.slice (some z) 0 0) 0 []) (vb : Value) (m : Nat) (k : List UInt8) (hm : m = k.length) (hx : a.eval x = vb) (hr : Reads w vb (bv k)) (h63 : Hid (m ≤ 1000000000)) (hbase : base ≤ w.heap.size)
    (h : ∀ ao c w', Bs w' base (.slice ao m c) m k → Grow w w' → K (a.put o.dst (.slice ao m c)) w') : mvRun Tryz.prog ops o K a w := by
  obtain ⟨ao, c, w', hr', h2, h3⟩ := run_append_clone o.type base z vb m k w hown hm hr h63.out hbase
  have hw : Region.wanted o (yielded ops a.tmps) = true := by simp [Region.wanted, hgd]
  unfold mvRun
  rw [if_pos hw]
  unfold execOp
  simp only [ho, resolve, invoke, builtin, Sem.run_bind, Sem.run_pure, Result.andThen_ok, List.map_toArray, List.map_cons, List.map_nil, hs, hx, hr', mvUpon]
  exact h ao c w' h2 h3

end Go.Proofs.YthglbmnhlnpmkaaGreat

/- The reference's Append. Numbers and types by name. -/
namespace Go.Proofs.YthglbmnhlnpmkaaGreat
open Go.RowKit Go.Maps Go.Sort Go.WideMaps

theorem tot_take_next {fs : List Ent} {j : Nat} {y : Ent} (h : fs[j]? = some y) : tot (fs.take (j + 1)) = tot (fs.take j) + y.2.1.length := by
  rw [List.take_add_one, h]
  simp [tot]
theorem tot_take_le (fs : List Ent) (j : Nat) : tot (fs.take j) ≤ tot fs := by
  have := congrArg tot (List.take_append_drop j fs)
  rw [tot_append] at this
  omega

set_option maxRecDepth 100000 in
set_option maxHeartbeats 4000000 in
theorem ref_append (r : Nat) (M : MD) (F G : List Nat) (name : ByteArray) (vb : Value) (l : List UInt8) (w : World) (h : RD w r M F G) (hl : Lim M) (hcap : M.cap ≤ 9223372036854775807) (hr : Reads w vb (bv l)) (hll2 : l.length ≤ 50000000) (hvb : l ≠ [] → ∀ a n c, vb = .slice (some a) n c → a.block ∉ F) :
    Calls Tryz.prog 37 #[theRef r, .string name, vb] w (Left (RActed w r M F G (opAppend name.data.toList l))) := by
  have hll := hl.fs.len
  have hlt := hl.fs.tot
  have hri := h.1.rising
  have hrF := h.lt.1
  obtain ⟨avb, cvb, rfl⟩ : ∃ ao c, vb = .slice ao l.length c := by obtain ⟨ao, c, rfl, _⟩ := hr; exact ⟨ao, c, by rw [bv_length]⟩
  obtain ⟨ok, er, M1, HM, HGt⟩ := gated r M F G w h hl
  obtain ⟨lb, hlb⟩ : ∃ lb, lb = l.length := ⟨_, rfl⟩
  rw [← hlb] at hr hvb hll2 ⊢
  have HLB := Lib.hid (And.intro hlb (And.intro hr hvb))
  clear h hlb hr hvb
  unfold theRef
  cases ok with
  | false =>
    go_enter Tryz.func37, Tryz.ntmps37
    go_wp2_with fail
    refine HGt.out.mono ?_
    rintro e w1 ⟨rfl, hD1, t1⟩
    have HD := Lib.hid (acted_no (op := opAppend name.data.toList l) HM.out hD1 t1)
    clear hD1 t1 HGt
    go_wp2_with fail
    go_ret
    exact ⟨er, rfl, HD.out⟩
  | true =>
    cases hf : M.fs.find? (isName name.data.toList) with
    | none =>
      have HPL : Hid (placeE name.data.toList M1.fs = -1) := Lib.hid (by rw [HM.out.fs]; exact place_none hf)
      have HF := Lib.hid hf
      clear hf
      go_enter Tryz.func37, Tryz.ntmps37
      go_wp2_with fail
      refine HGt.out.mono ?_
      rintro e w1 ⟨rfl, hD1, t1⟩
      have HD := Lib.hid (acted_same (op := opAppend name.data.toList l) (k := 3) HM.out (by unfold opAppend; rw [HF.out]) hD1 t1)
      have hT := ref_told r M1 F G 3 w1 hD1
      have hA := ref_at r M1 F G name w1 hD1 (by rw [HM.out.fs]; exact hll)
      rw [HPL.out] at hA
      unfold theRef at hT hA
      clear hD1 t1 HGt
      go_wp2_with fail
      refine hA.mono ?_
      rintro e w2 ⟨rfl, rfl⟩
      clear hA
      go_wp2_with fail
      refine hT.mono ?_
      rintro e w2 ⟨rfl, rfl⟩
      clear hT
      go_wp2_with fail
      go_ret
      exact ⟨_, rfl, HD.out⟩
    | some x =>
      obtain ⟨i, hi, hx, hset, her⟩ := place_some hri hf
      have HPL : Hid (placeE name.data.toList M1.fs = i) := Lib.hid (by rw [HM.out.fs]; exact hi)
      have hi0 : ¬ ((i : Nat) : Int) < 0 := by omega
      have hil := (List.getElem?_eq_some_iff.1 hx).1
      have hxt := tot_mem (List.mem_of_getElem? hx)
      have HF := Lib.hid (And.intro hf (And.intro (hset (fun x => (x.1, x.2.1 ++ l, x.2.2))) hx))
      obtain ⟨n, hn⟩ : ∃ n, n = M1.fs.length := ⟨_, rfl⟩
      have HN := Lib.hid hn
      have i1 : ((i : Nat) : Int) < (n : Int) := by rw [hn, HM.out.fs]; omega
      have hln : n < 900000 := by rw [hn, HM.out.fs]; exact hll
      clear hf hi hx hset her hil
      go_enter Tryz.func37, Tryz.ntmps37
      go_wp2_with fail
      refine HGt.out.mono ?_
      rintro e w1 ⟨rfl, hD1, t1⟩
      have HD1 := Lib.hid (And.intro hD1 t1)
      have hA := ref_at r M1 F G name w1 hD1 (by rw [HM.out.fs]; exact hll)
      rw [HPL.out] at hA
      unfold theRef at hA
      have hT := ref_told r M1 F G 5 w1 hD1
      unfold theRef at hT
      have hvr : Reads w1 (.slice avb lb cvb) (bv l) := HLB.out.2.1.turn t1 fun hne a n c e => HLB.out.2.2 (by intro e2; rw [e2] at hne; exact hne rfl) a n c e
      obtain ⟨hfit, s, ao, c, xs, hR, hP, hv, hown, hTe, hFF, hnn, hGd⟩ := hD1
      have hxi : M1.fs[i]? = some x := by rw [HM.out.fs]; exact HF.out.2.2
      obtain ⟨ab, cb, q1, q2, q3, hrb, hgb⟩ := hTe.2 i x hxi
      obtain ⟨g, rfl, k2, f2⟩ := row_cell hown (by rw [hTe.1]) q2
      have c5 := hR.c5
      have c0 := hR.c0
      rw [hv, ← hn] at c5
      rw [hP.cap, HM.out.cap] at c0
      have hgw := (hown.lt g rfl).2
      have hgr : g ≠ r := by rintro rfl; exact hnn rfl
      have hgG : g ∉ G := fun hm => (hGd g hm).1 (by rw [hFF]; simp [own_block])
      have HX := Lib.hid (And.intro hfit (And.intro hR (And.intro hP (And.intro hv (And.intro hown (And.intro hTe (And.intro hFF (And.intro hnn (And.intro hGd (And.intro hxi (And.intro hgw (And.intro hgr (And.intro hgG (And.intro q2 (And.intro hvr (And.intro hrb hgb))))))))))))))))
      clear hfit hR hP hv hown hTe hFF hnn hGd t1 HGt q1 q2 q3 hrb hgb hxi hgw hgr hgG hvr hn hrF
      go_wp2_with fail
      refine hA.mono ?_
      rintro e w2 ⟨rfl, rfl⟩
      clear hA
      by_cases hneg : M.cap < 0
      · have HD := Lib.hid (acted_same (op := opAppend name.data.toList l) (k := 5) HM.out (by unfold opAppend; rw [HF.out.1]; simp only; rw [if_pos (by omega)]) HD1.out.1 HD1.out.2)
        go_wp2_with fail
        refine hT.mono ?_
        rintro e w2 ⟨rfl, rfl⟩
        clear hT
        go_wp2_with fail
        go_ret
        exact ⟨_, rfl, HD.out⟩
      · go_wp2_with fail
        go_loopw [10, 11] (fun rv iv wr => ∃ j : Nat, j ≤ n ∧ iv = .int .i64 j ∧ rv = .int .i64 (M.cap - (tot (M.fs.take j) : Nat)) ∧ w1 = wr)
          (fun _ iv _ => n - (intOf iv).toNat)
        case atStart => exact ⟨0, Nat.zero_le _, rfl, by simp [tot], rfl⟩
        case round =>
          obtain ⟨j, hj, rfl, rfl, rfl⟩ := hrel
          have hle := tot_take_le M.fs j
          by_cases h1 : j < n
          · have h3 : (j : Int) < (n : Int) := by omega
            obtain ⟨y, hy⟩ : ∃ y, M.fs[j]? = some y := ⟨_, List.getElem?_eq_getElem (by have := HN.out; rw [HM.out.fs] at this; omega)⟩
            obtain ⟨_, _, p1, p2, _⟩ := HX.out.2.2.2.2.2.1.2 j y (by rw [HM.out.fs]; exact hy)
            obtain ⟨_, e, m2, _⟩ := row_cell HX.out.2.2.2.2.1 (by rw [HX.out.2.2.2.2.2.1.1]) p2
            cases e
            have hnx := tot_take_next hy
            have hle2 := tot_take_le M.fs (j + 1)
            have hu : wrap64 (M.cap - (tot (M.fs.take j) : Nat) - (y.2.1.length : Nat)) = M.cap - (tot (M.fs.take (j + 1)) : Nat) := by rw [wrap64_id _ (by omega)]; omega
            have HU := Lib.hid (And.intro hu hnx)
            clear hy p1 p2 hu hnx hT
            generalize tot (M.fs.take j) = tj at *
            go_wp2_with fail
            refine ⟨⟨j + 1, by omega, by simp, ?_, trivial⟩, by simp [intOf]; omega⟩
            have h1 := HU.out.2
            have e : M.cap - (tj : Int) - (y.2.1.length : Nat) = M.cap - (tot (M.fs.take (j + 1)) : Nat) := by omega
            rw [e, wrap64_id _ (by omega)]
          · have h3 : ¬ (j : Int) < (n : Int) := by omega
            obtain rfl : j = n := by omega
            have hkL : M.fs.take j = M.fs := List.take_of_length_le (by have := HN.out; rw [HM.out.fs] at this; omega)
            rw [hkL] at hle ⊢
            clear hkL h1 hle
            obtain ⟨T, hTT⟩ : ∃ T, T = tot M.fs := ⟨_, rfl⟩
            have HTT := Lib.hid hTT
            rw [← hTT] at hlt hxt ⊢
            clear hTT
            by_cases hbig : M.cap - (T : Nat) < (lb : Int)
            · have HD := Lib.hid (acted_same (op := opAppend name.data.toList l) (k := 5) HM.out (by unfold opAppend; rw [HF.out.1]; simp only; rw [if_pos (by rw [← HTT.out, ← HLB.out.1]; omega)]) HD1.out.1 HD1.out.2)
              go_wp2_with fail
              refine hT.mono ?_
              rintro e w2 ⟨rfl, rfl⟩
              clear hT
              go_wp2_with fail
              go_ret
              exact ⟨_, rfl, HD.out⟩
            · clear hT
              have c5' := fun o => cell_new c5 o
              have k2' := fun o => cell_new k2 o
              obtain ⟨q, hq⟩ : ∃ q, q = x.2.1.length := ⟨_, rfl⟩
              have HQ1 := Lib.hid hq
              rw [← hq] at k2 k2' hxt
              have hqr : Hid (Reads w1 (.slice ab q cb) (bv x.2.1)) := Lib.hid (by rw [hq]; exact HX.out.2.2.2.2.2.2.2.2.2.2.2.2.2.2.2.1)
              clear hq
              have F1 : Hid (q ≤ maxLen) := Lib.hid (by unfold maxLen; omega)
              have F2 : Hid (q * 1 ≤ 140737488355328) := Lib.hid (by omega)
              have F3 : Hid (q + lb ≤ maxLen) := Lib.hid (by unfold maxLen; omega)
              have F4 : Hid ((q + lb) * 1 ≤ 140737488355328) := Lib.hid (by omega)
              have hvr : Hid (Reads w1 (.slice avb lb cvb) (bv l)) := Lib.hid HX.out.2.2.2.2.2.2.2.2.2.2.2.2.2.2.1
              have hgw := HX.out.2.2.2.2.2.2.2.2.2.2.1
              have hrw := HX.out.2.1.lt
              go_wp2_with (first | (at_builtin; refine wpList_append_bytes rfl (.tmp 63) (.tmp 71) rfl w1.heap.size _ 0 [] rfl (Bs.empty w1 w1.heap.size (Nat.le_refl _)) _ q x.2.1 HQ1.out rfl (hqr.out.alloc _) q (Nat.zero_add q).symm F1 F2 (by simp) ?_; intro ao5 cc5 w5 hown5 hb5; have hb15 : Below w1.heap.size w1 w5 := ((Below.refl _ w1).alloc (Nat.le_refl _) _).trans hb5; clear hb5) | (at_builtin; refine wpList_append_bytes rfl (.tmp 73) (.tmp 74) rfl w1.heap.size _ q _ rfl hown5 _ lb l HLB.out.1 rfl (hvr.out.later hb15) (q + lb) rfl F3 F4 hb15.size ?_; intro ao6 cc6 w6 hown6 hb6; have hb16 : Below w1.heap.size w1 w6 := hb15.trans hb6; have c56 : w6.cell? ⟨r, 5, none⟩ = some (.slice (some ⟨g, 0, none⟩) j c) := (World.cell?_of_block (hb16.block _ hrw)).trans c5; have k26 : w6.cell? ⟨g, i * 3 + 1, none⟩ = some (.slice ab q cb) := (World.cell?_of_block (hb16.block _ hgw)).trans k2; have f26 : w6.frozen? ⟨g, i * 3 + 1, none⟩ = false := (World.frozen?_of_block (hb16.block _ hgw)).trans f2; have HY := Lib.hid (And.intro hown6 hb16); clear hown5 hown6 hb15 hb6 hb16))
              obtain ⟨hfit, hR, hP, hv, hown, hTe, hFF, hnn, hGd, hxi, _, hgr, hgG, q2, _, hrb, hgb⟩ := HX.out
              obtain ⟨hown6, hb16⟩ := HY.out
              have t16 := turn_below hb16
              have hown16 := owns_turn hown t16 (by simp)
              have hlen6 : q + lb = (x.2.1 ++ l).length := by rw [List.length_append, ← HQ1.out, ← HLB.out.1]
              have tS : Turn [g] w6 (w6.setCell ⟨g, i * 3 + 1, none⟩ (.slice ao6 (q + lb) cc6)) := (Turn.refl [g] w6).set (.inl (by simp)) _ _
              have hob : ∀ a, ao6 = some a → (Value.slice ao6 (q + lb) cc6).ownBlock = some a.block := by
                intro a hao
                rcases hown6.2.2 with ⟨e2, _⟩ | ⟨g5, _, _, e2, _⟩
                · simp only [Value.slice.injEq] at e2; rw [hao] at e2; cases e2.1
                · simp only [Value.slice.injEq] at e2; rw [e2.1] at hao ⊢; cases hao; rfl
              obtain ⟨H, hH1, hH2⟩ : ∃ H : List Nat, (∀ a, ao6 = some a → a.block ∈ H) ∧ ∀ b ∈ H, w1.heap.size ≤ b ∧ b < w6.heap.size := by
                cases hao : ao6 with
                | none => exact ⟨[], fun a e => (by cases e), by simp⟩
                | some a =>
                  refine ⟨[a.block], fun a' e => (by cases e; simp), fun b hb => ?_⟩
                  simp only [List.mem_singleton] at hb
                  subst hb
                  exact hown6.2.lt a.block (hob a hao)
              have hgH : g ∉ G ++ H := fun hm => by
                rcases List.mem_append.1 hm with hm | hm
                · exact hgG hm
                · have := (hH2 g hm).1; omega
              have hr6 : Reads (w6.setCell ⟨g, i * 3 + 1, none⟩ (.slice ao6 (q + lb) cc6)) (.slice ao6 (x.2.1 ++ l).length cc6) (bv (x.2.1 ++ l)) := by
                rw [← hlen6]
                refine hown6.reads.turn tS fun hne a n c e => ?_
                simp only [Value.slice.injEq] at e
                have := (hown6.2.lt a.block (hob a e.1)).1
                simp only [List.mem_singleton]
                omega
              have hT5 := (hTe.turn t16 (by simp)).more (G' := G ++ H) fun k hk => List.mem_append_left _ hk
              have hT6 := hT5.bytes tS hgH hxi (x.2.1 ++ l) ao6 cc6 hr6 (fun _ a e => List.mem_append_right _ (hH1 a e))
              rw [← hlen6] at hT6
              have hown7 := own_setD hown16 (i * 3 + 1) (.slice ao6 (q + lb) cc6) (by have := (List.getElem?_eq_some_iff.1 q2).1; omega)
              have tAll := (t16.mono (G := [g]) (by simp)).trans tS
              have e6s := tS.size
              have hN := RD.filed (k := i) (y := (x.1, x.2.1 ++ l, x.2.2)) (G' := G ++ H) hR hP hv rfl (by rw [hFF]; rfl) hgr hgw hGd (by
                rw [HM.out.fs, HF.out.2.1, ← HM.out.fs]
                exact hfit.upd _ (fun _ => rfl) fun y hy _ => by have := hfit.sy y hy; simp only [List.length_append]; omega) tAll (by rw [← HN.out] at hown7 ⊢; exact hown7) hT6 (fun k hk => List.mem_append_left _ hk) (fun k hk => (List.mem_append.1 hk).imp id fun h => (hH2 k h).1) (fun k hk => (List.mem_append.1 hk).elim (fun h => Nat.lt_of_lt_of_le (hGd k h).2 tAll.size) fun h => by have := (hH2 k h).2; omega)
              obtain ⟨F2', G2, hD2, h2F, h2G, t2⟩ := hN
              rw [HM.out.fs, HF.out.2.1] at hD2
              have hT := ref_told r _ F2' G2 0 _ hD2
              unfold theRef at hT
              refine hT.mono ?_
              rintro e w7 ⟨rfl, hw7⟩
              have HQ := Lib.hid (acted_yes (op := opAppend name.data.toList l) (k := 0) (fs' := updE name.data.toList (fun x => (x.1, x.2.1 ++ l, x.2.2)) M.fs) HM.out (by unfold opAppend; rw [HF.out.1]; simp only; rw [if_neg (by rw [← HTT.out, ← HLB.out.1]; omega)]) (by unfold opAppend; rw [HF.out.1]; simp only; rw [if_neg (by rw [← HTT.out, ← HLB.out.1]; omega)]) (RNext.after HD1.out.2 ⟨F2', G2, hD2, h2F, h2G, t2⟩))
              rw [hw7] at HQ
              clear hT hw7 hD2 h2F h2G t2 tAll hown7 hT6 hT5 hfit hR hP hv hown hTe hFF hnn hGd hxi hgr hgG q2 hrb hgb hown6 t16 tS hH1 hH2 hgH hown16 hob hr6 hb16 hlen6
              go_wp2_with fail
              go_ret
              exact ⟨_, rfl, HQ.out⟩

end Go.Proofs.YthglbmnhlnpmkaaGreat

namespace Go.Proofs.YthglbmnhlnpmkaaGreat
open Go.RowKit Go.Maps Go.Sort Go.WideMaps

theorem resE_at {keep : List Int} {fs : List Ent} {j : Nat} {x : Ent} (hx : fs[j]? = some x) : (resE keep fs j)[j]? = some x := by
  unfold resE
  rw [List.getElem?_mapIdx, hx]
  simp
theorem resE_set {keep : List Int} {fs : List Ent} {j : Nat} {x : Ent} (hx : fs[j]? = some x) : (resE keep fs j).set j (survE (keep.getD j 0) x) = resE keep fs (j + 1) := by
  have hlt := (List.getElem?_eq_some_iff.1 hx).1
  apply List.ext_getElem?
  intro i
  unfold resE
  by_cases hij : i = j
  · subst hij
    rw [List.getElem?_set_self (by simpa using hlt), List.getElem?_mapIdx, hx]
    simp
  · rw [List.getElem?_set_ne (fun e => hij e.symm), List.getElem?_mapIdx, List.getElem?_mapIdx]
    cases fs[i]? with
    | none => rfl
    | some y =>
      simp only [Option.map_some, Option.some.injEq]
      by_cases h1 : i < j
      · rw [if_pos h1, if_pos (by omega)]
      · rw [if_neg h1, if_neg (by omega)]
theorem resE_zero (keep : List Int) (fs : List Ent) : resE keep fs 0 = fs := by
  unfold resE
  apply List.ext_getElem?
  intro i
  rw [List.getElem?_mapIdx]
  cases fs[i]? <;> simp
theorem resE_length (keep : List Int) (fs : List Ent) (j : Nat) : (resE keep fs j).length = fs.length := by simp [resE]

/-- One file behind a crash: the round's two stores. -/
theorem RD.rounded {w w5 : World} {r n c g j q c5 : Nat} {M : MD} {F G : List Nat} {s : RS} {xs : List Value} {x : Ent} {ao5 : Option Addr} (hR : RefC w r s) (hP : RP w s M G) (hv : s.fv = .slice (some ⟨g, 0, none⟩) n c) (hn : n = M.fs.length) (hF : F = [r, g]) (hne : g ≠ r) (hGd : ∀ q ∈ G, q ∉ F ∧ q < w.heap.size)
    (hown : w.ownsRow 0 70 3 (.slice (some ⟨g, 0, none⟩) n c) n xs) (hT : TellR w G xs M.fs) (hx : M.fs[j]? = some x) (hfit : Fit (M.fs.set j (x.1, x.2.1.take q, q))) (hq : q ≤ x.2.1.length) (hb5 : Below w.heap.size w w5) (hown5 : Bs w5 w.heap.size (.slice ao5 q c5) q (x.2.1.take q)) :
    RefC (w5.setCell ⟨g, j * 3 + 1, none⟩ (.slice ao5 q c5)) r s ∧ (w5.setCell ⟨g, j * 3 + 1, none⟩ (.slice ao5 q c5)).cell? ⟨g, j * 3 + 1, none⟩ = some (.slice ao5 q c5) ∧
    (w5.setCell ⟨g, j * 3 + 1, none⟩ (.slice ao5 q c5)).cell? ⟨g, j * 3 + 2, none⟩ = some (.int .i64 (x.2.2 : Nat)) ∧ (w5.setCell ⟨g, j * 3 + 1, none⟩ (.slice ao5 q c5)).frozen? ⟨g, j * 3 + 2, none⟩ = false ∧
    ∃ G2, RD (((w5.setCell ⟨g, j * 3 + 1, none⟩ (.slice ao5 q c5)).drew).setCell ⟨g, j * 3 + 2, none⟩ (.int .i64 (q : Nat))) r { M with fs := M.fs.set j (x.1, x.2.1.take q, q) } F G2 ∧ (∀ k ∈ G2, k ∈ G ∨ w.heap.size ≤ k) ∧ Turn [g] w (((w5.setCell ⟨g, j * 3 + 1, none⟩ (.slice ao5 q c5)).drew).setCell ⟨g, j * 3 + 2, none⟩ (.int .i64 (q : Nat))) := by
  subst hn hF
  have t15 := turn_below hb5
  have hgw := (hown.lt g rfl).2
  have hR5 := hR.turn t15 (by simp)
  have hown15 := owns_turn hown t15 (by simp)
  have hxl : xs.length = M.fs.length * 3 := hT.1
  have hjl := (List.getElem?_eq_some_iff.1 hx).1
  obtain ⟨ab, cb, q1, q2, q3, _⟩ := hT.2 j x hx
  have hgG : g ∉ G := fun hm => (hGd g hm).1 (by simp)
  have tS : Turn [g] w5 (w5.setCell ⟨g, j * 3 + 1, none⟩ (.slice ao5 q c5)) := (Turn.refl [g] w5).set (.inl (by simp)) _ _
  have hR6 := hR5.turn tS (by simpa using fun e => hne e.symm)
  have hown6 := own_setD hown15 (j * 3 + 1) (.slice ao5 q c5) (by omega)
  have q26 : (xs.set (j * 3 + 1) (.slice ao5 q c5))[j * 3 + 1]? = some (.slice ao5 q c5) := List.getElem?_set_self (by omega)
  have q36 : (xs.set (j * 3 + 1) (.slice ao5 q c5))[j * 3 + 2]? = some (.int .i64 (x.2.2 : Nat)) := by rw [List.getElem?_set_ne (by omega)]; exact q3
  obtain ⟨_, e, d2, _⟩ := row_cell hown6 (by rw [List.length_set]; exact hxl) q26
  cases e
  obtain ⟨_, e, d3, g3⟩ := row_cell hown6 (by rw [List.length_set]; exact hxl) q36
  cases e
  have hql : q = (x.2.1.take q).length := by rw [List.length_take]; omega
  have hob : ∀ a, ao5 = some a → (Value.slice ao5 q c5).ownBlock = some a.block := by
    intro a hao
    rcases hown5.2.2 with ⟨e2, _⟩ | ⟨g5, _, _, e2, _⟩
    · simp only [Value.slice.injEq] at e2; rw [hao] at e2; cases e2.1
    · simp only [Value.slice.injEq] at e2; rw [e2.1] at hao ⊢; cases hao; rfl
  have hr6 : Reads (w5.setCell ⟨g, j * 3 + 1, none⟩ (.slice ao5 q c5)) (.slice ao5 (x.2.1.take q).length c5) (bv (x.2.1.take q)) := by
    rw [← hql]
    refine hown5.reads.turn tS fun hne a n c e => ?_
    simp only [Value.slice.injEq] at e
    have := (hown5.2.lt a.block (hob a e.1)).1
    simp only [List.mem_singleton]
    omega
  obtain ⟨H, hH1, hH2⟩ : ∃ H : List Nat, (∀ a, ao5 = some a → a.block ∈ H) ∧ ∀ b ∈ H, w.heap.size ≤ b ∧ b < w5.heap.size := by
    cases hao : ao5 with
    | none => exact ⟨[], fun a e => (by cases e), by simp⟩
    | some a =>
      refine ⟨[a.block], fun a' e => (by cases e; simp), fun b hb => ?_⟩
      simp only [List.mem_singleton] at hb
      subst hb
      exact hown5.2.lt a.block (hob a hao)
  have hgH : g ∉ G ++ H := fun hm => by
    rcases List.mem_append.1 hm with hm | hm
    · exact hgG hm
    · have := (hH2 g hm).1; omega
  have hT5 := (hT.turn t15 (by simp)).more (G' := G ++ H) fun k hk => List.mem_append_left _ hk
  have hT6 := hT5.bytes tS hgH hx (x.2.1.take q) ao5 c5 hr6 (fun _ a e => List.mem_append_right _ (hH1 a e))
  rw [← hql] at hT6
  have tD : Turn [g] (w5.setCell ⟨g, j * 3 + 1, none⟩ (.slice ao5 q c5)) (((w5.setCell ⟨g, j * 3 + 1, none⟩ (.slice ao5 q c5)).drew).setCell ⟨g, j * 3 + 2, none⟩ (.int .i64 (q : Nat))) := (Turn.refl [g] _).drew.set (.inl (by simp)) _ _
  have hxs : (M.fs.set j (x.1, x.2.1.take q, x.2.2))[j]? = some (x.1, x.2.1.take q, x.2.2) := List.getElem?_set_self hjl
  have hT7 := hT6.synced tD hgH hxs q
  simp only [List.set_set] at hT7
  have hown7 := own_setD (show (w5.setCell ⟨g, j * 3 + 1, none⟩ (.slice ao5 q c5)).drew.ownsRow 0 70 3 _ _ _ from hown6) (j * 3 + 2) (.int .i64 (q : Nat)) (by rw [List.length_set]; omega)
  have tAll := ((t15.mono (G := [g]) (by simp)).trans tS).trans tD
  have e5s := tS.size
  have e6s := tD.size
  obtain ⟨F2, G2, hD2, h2F, h2G, t2⟩ := RD.filed (k := j) (y := (x.1, x.2.1.take q, q)) (G' := G ++ H) hR hP hv rfl rfl hne hgw hGd hfit tAll hown7 hT7 (fun k hk => List.mem_append_left _ hk) (fun k hk => (List.mem_append.1 hk).imp id fun h => (hH2 k h).1) (fun k hk => (List.mem_append.1 hk).elim (fun h => Nat.lt_of_lt_of_le (hGd k h).2 tAll.size) fun h => by have := (hH2 k h).2; omega)
  have hF2 : F2 = [r, g] := by
    obtain ⟨_, s2, ao2, c2, xs2, hR2, hP2, hv2, hown2, hTe2, hF2, _⟩ := hD2
    have hR7 := (hR6.turn tD (by simpa using fun e => hne e.symm)).c5
    rw [hR2.c5] at hR7
    simp only [Option.some.injEq] at hR7
    rw [hR7, hv] at hv2
    simp only [Value.slice.injEq] at hv2
    rw [hF2, ← hv2.1]
    rfl
  refine ⟨hR6, d2, d3, g3, G2, by rw [← hF2]; exact hD2, fun k hk => ?_, tAll⟩
  rcases h2G k hk with h | h | h
  · exact .inl h
  · cases h
  · exact .inr h

end Go.Proofs.YthglbmnhlnpmkaaGreat
