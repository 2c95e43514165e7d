/- Regions that draw their order and end with an operation that may write what was there: one walk. Numbers and types by name. -/
import Derived.Test.YthglbmnhlnpmkaaGreatRl
import Derived.Test.YthglbmnhlnpmkaaGreatRdp
/- The reference's Create, Remove, Read. Numbers and types by name. -/
namespace Go.Proofs.YthglbmnhlnpmkaaGreat
open Go.RowKit Go.Maps Go.Sort Go.WideMaps

/-- What a writing call of the reference leaves. -/
def RActed (w : World) (r : Nat) (M : MD) (F G : List Nat) (op : Opn) : Int → World → Prop := fun k w' => k = (M.act op).1 ∧ RNext w w' r (M.act op).2 F G []

theorem RD.more {w : World} {r : Nat} {M : MD} {F G : List Nat} (h : RD w r M F G) : RNext w w r M F G [] := ⟨F, G, h, fun k hk => .inl hk, fun k hk => .inl hk, Turn.refl _ _⟩

theorem str_mk (name : ByteArray) : (⟨name.data.toList.toArray⟩ : ByteArray) = name := by cases name; simp

/-- Behind the gate. -/
structure Gated (M : MD) (ok : Bool) (er : Int) (M1 : MD) : Prop where
  fs : M1.fs = M.fs
  cap : M1.cap = M.cap
  act : ∀ op : Opn, M.act op = if ok = true then (tell7 M1 (op M.cap M.fs).1, { M1 with fs := (op M.cap M.fs).2 }) else (er, M1)

theorem gated (r : Nat) (M : MD) (F G : List Nat) (w : World) (h : RD w r M F G) (hl : Lim M) : ∃ ok er M1, Hid (Gated M ok er M1) ∧ Hid (Calls Tryz.prog 69 #[.pointer (some ⟨r, 0, none⟩)] w fun e w' => e = .returned (.tuple #[.bool ok, .int .i64 er]) ∧ RD w' r M1 F G ∧ Turn F w w') := by
  obtain ⟨ok, er, M1, hg, hfs, hcap, hfail, hkeep, hact⟩ := gate_cases M
  have hGt := ref_gate r M F G w h hl.n hl.fail
  rw [hg] at hGt
  exact ⟨ok, er, M1, Lib.hid ⟨hfs, hcap, hact⟩, Lib.hid hGt⟩
theorem acted_no {M M1 : MD} {er : Int} {w w' : World} {r : Nat} {F G : List Nat} {op : Opn} (hM : Gated M false er M1) (h : RD w' r M1 F G) (t : Turn F w w') : RActed w r M F G op er w' := by
  unfold RActed
  rw [hM.act, if_neg (by simp)]
  exact ⟨rfl, h.more.after t⟩
theorem acted_yes {M M1 : MD} {er k : Int} {w w' : World} {r : Nat} {F G : List Nat} {op : Opn} {fs' : List Ent} (hM : Gated M true er M1) (hk : (op M.cap M.fs).1 = k) (hfs : (op M.cap M.fs).2 = fs') (h : RNext w w' r { M1 with fs := fs' } F G []) : RActed w r M F G op (tell7 M1 k) w' := by
  unfold RActed
  rw [hM.act, if_pos rfl, hk, hfs]
  exact ⟨rfl, h⟩
/-- A call that is carried out, but to no effect. -/
theorem acted_same {M M1 : MD} {er k : Int} {w w' : World} {r : Nat} {F G : List Nat} {op : Opn} (hM : Gated M true er M1) (hk : (op M.cap M.fs) = (k, M.fs)) (h : RD w' r M1 F G) (t : Turn F w w') : RActed w r M F G op (tell7 M1 k) w' :=
  acted_yes hM (by rw [hk]) (by rw [hk, ← hM.fs]) (h.more.after t)

theorem ref_create (r : Nat) (M : MD) (F G : List Nat) (name : ByteArray) (w : World) (h : RD w r M F G) (hl : Lim M) (hz : name.size ≤ 1000000) :
    Calls Tryz.prog 36 #[theRef r, .string name] w (Left (RActed w r M F G (opCreate name.data.toList))) := by
  have hll := hl.fs.len
  obtain ⟨ok, er, M1, HM, HGt⟩ := gated r M F G w h hl
  clear h
  unfold theRef
  cases ok with
  | false =>
    go_enter Tryz.func36, Tryz.ntmps36
    go_wp2_with fail
    refine HGt.out.mono ?_
    rintro e w1 ⟨rfl, hD1, t1⟩
    have HD := Lib.hid (acted_no (op := opCreate name.data.toList) HM.out hD1 t1)
    clear hD1 t1 HGt
    go_wp2_with fail
    go_ret
    exact ⟨er, rfl, HD.out⟩
  | true =>
    have hne := name_empty name
    by_cases hk : name.data.toList = []
    · have hne2 : name.toList.isEmpty = true := by rw [hne]; simpa using hk
      have HK := Lib.hid hk
      clear hne hk
      go_enter Tryz.func36, Tryz.ntmps36
      go_wp2_with fail
      refine HGt.out.mono ?_
      rintro e w1 ⟨rfl, hD1, t1⟩
      have HD := Lib.hid (acted_same (op := opCreate name.data.toList) (k := 1) HM.out (by unfold opCreate; rw [if_pos HK.out]) hD1 t1)
      have hT := ref_told r M1 F G 1 w1 hD1
      unfold theRef at hT
      clear hD1 t1 HGt
      go_wp2_with fail
      refine hT.mono ?_
      rintro e w2 ⟨rfl, rfl⟩
      clear hT
      go_wp2_with fail
      go_ret
      exact ⟨_, rfl, HD.out⟩
    · have hne2 : name.toList.isEmpty = false := by rw [hne]; simpa using hk
      have HK := Lib.hid hk
      clear hne hk
      by_cases ha : M.fs.any (isName name.data.toList) = true
      · obtain ⟨pl, hpl⟩ : ∃ pl, placeE name.data.toList M1.fs = pl := ⟨_, rfl⟩
        have hp0 : (0 : Int) ≤ pl := by rw [← hpl, HM.out.fs]; exact place_any.2 ha
        have HPL := Lib.hid hpl
        have HA := Lib.hid ha
        clear hpl ha
        go_enter Tryz.func36, Tryz.ntmps36
        go_wp2_with fail
        refine HGt.out.mono ?_
        rintro e w1 ⟨rfl, hD1, t1⟩
        have HD := Lib.hid (acted_same (op := opCreate name.data.toList) (k := 4) HM.out (by unfold opCreate; rw [if_neg HK.out, if_pos HA.out]) hD1 t1)
        have hT := ref_told r M1 F G 4 w1 hD1
        have hA := ref_at r M1 F G name w1 hD1 (by rw [HM.out.fs]; exact hll)
        rw [HPL.out] at hA
        unfold theRef at hT hA
        clear hD1 t1 HGt
        go_wp2_with fail
        refine hA.mono ?_
        rintro e w2 ⟨rfl, rfl⟩
        clear hA
        go_wp2_with fail
        refine hT.mono ?_
        rintro e w2 ⟨rfl, rfl⟩
        clear hT
        go_wp2_with fail
        go_ret
        exact ⟨_, rfl, HD.out⟩
      · obtain ⟨pl, hpl⟩ : ∃ pl, placeE name.data.toList M1.fs = pl := ⟨_, rfl⟩
        have hp0 : ¬ (0 : Int) ≤ pl := by rw [← hpl, HM.out.fs]; exact fun h => ha (place_any.1 h)
        have HPL := Lib.hid hpl
        have HA := Lib.hid ha
        clear hpl ha
        go_enter Tryz.func36, Tryz.ntmps36
        go_wp2_with fail
        refine HGt.out.mono ?_
        rintro e w1 ⟨rfl, hD1, t1⟩
        have hA := ref_at r M1 F G name w1 hD1 (by rw [HM.out.fs]; exact hll)
        rw [HPL.out] at hA
        have hfitM := hD1.1
        have hP := ref_put r M1 F G (name.data.toList, [], 0) none 0 w1 hD1 (by rw [HM.out.fs]; exact hll) (hfitM.ins (by rw [HM.out.fs]; simpa using HA.out) (Nat.le_refl _) hz) (Reads.nil _) (by intro h; exact absurd rfl h)
        unfold encStr at hP
        rw [str_mk] at hP
        unfold theRef at hP hA
        have HT := Lib.hid t1
        have HP := Lib.hid hP
        clear hD1 t1 HGt hfitM hP
        go_wp2_with fail
        refine hA.mono ?_
        rintro e w2 ⟨rfl, rfl⟩
        clear hA
        go_wp2_with fail
        refine HP.out.mono ?_
        rintro e w3 ⟨rfl, hN⟩
        obtain ⟨F', G', hD3, h3F, h3G, t3⟩ := hN
        have hT := ref_told r _ F' G' 0 w3 hD3
        unfold theRef at hT
        have HN := Lib.hid (acted_yes (op := opCreate name.data.toList) (k := 0) HM.out (by unfold opCreate; rw [if_neg HK.out, if_neg HA.out]) (by unfold opCreate; rw [if_neg HK.out, if_neg HA.out]) (RNext.after HT.out ⟨F', G', by rw [← HM.out.fs]; exact hD3, h3F, h3G, t3⟩))
        clear hD3 h3F h3G t3 HP
        go_wp2_with fail
        refine hT.mono ?_
        rintro e w4 ⟨rfl, rfl⟩
        clear hT
        go_wp2_with fail
        go_ret
        exact ⟨_, rfl, HN.out⟩

end Go.Proofs.YthglbmnhlnpmkaaGreat

/- The reference's Remove, Rename, Read. Numbers and types by name. -/
namespace Go.Proofs.YthglbmnhlnpmkaaGreat
open Go.RowKit Go.Maps Go.Sort Go.WideMaps

theorem ref_remove (r : Nat) (M : MD) (F G : List Nat) (name : ByteArray) (w : World) (h : RD w r M F G) (hl : Lim M) :
    Calls Tryz.prog 35 #[theRef r, .string name] w (Left (RActed w r M F G (opRemove name.data.toList))) := by
  have hll := hl.fs.len
  have hri := h.1.rising
  obtain ⟨ok, er, M1, HM, HGt⟩ := gated r M F G w h hl
  clear h
  unfold theRef
  cases ok with
  | false =>
    go_enter Tryz.func35, Tryz.ntmps35
    go_wp2_with fail
    refine HGt.out.mono ?_
    rintro e w1 ⟨rfl, hD1, t1⟩
    have HD := Lib.hid (acted_no (op := opRemove name.data.toList) HM.out hD1 t1)
    clear hD1 t1 HGt
    go_wp2_with fail
    go_ret
    exact ⟨er, rfl, HD.out⟩
  | true =>
    cases hf : M.fs.find? (isName name.data.toList) with
    | none =>
      have HPL : Hid (placeE name.data.toList M1.fs = -1) := Lib.hid (by rw [HM.out.fs]; exact place_none hf)
      have HF := Lib.hid hf
      clear hf
      go_enter Tryz.func35, Tryz.ntmps35
      go_wp2_with fail
      refine HGt.out.mono ?_
      rintro e w1 ⟨rfl, hD1, t1⟩
      have HD := Lib.hid (acted_same (op := opRemove name.data.toList) (k := 3) HM.out (by unfold opRemove; rw [HF.out]) hD1 t1)
      have hT := ref_told r M1 F G 3 w1 hD1
      have hA := ref_at r M1 F G name w1 hD1 (by rw [HM.out.fs]; exact hll)
      rw [HPL.out] at hA
      unfold theRef at hT hA
      clear hD1 t1 HGt
      go_wp2_with fail
      refine hA.mono ?_
      rintro e w2 ⟨rfl, rfl⟩
      clear hA
      go_wp2_with fail
      refine hT.mono ?_
      rintro e w2 ⟨rfl, rfl⟩
      clear hT
      go_wp2_with fail
      go_ret
      exact ⟨_, rfl, HD.out⟩
    | some x =>
      obtain ⟨i, hi, hx, hset, her⟩ := place_some hri hf
      have HPL : Hid (placeE name.data.toList M1.fs = i) := Lib.hid (by rw [HM.out.fs]; exact hi)
      have HF := Lib.hid (And.intro hf her)
      have hi0 : ¬ ((i : Nat) : Int) < 0 := by omega
      clear hf hi hx hset her
      go_enter Tryz.func35, Tryz.ntmps35
      go_wp2_with fail
      refine HGt.out.mono ?_
      rintro e w1 ⟨rfl, hD1, t1⟩
      have hA := ref_at r M1 F G name w1 hD1 (by rw [HM.out.fs]; exact hll)
      rw [HPL.out] at hA
      have hDr := ref_drop r M1 F G i w1 hD1 (by rw [HM.out.fs]; exact hll) (by rw [HM.out.fs, HF.out.2, ← HM.out.fs]; exact hD1.1.wo _)
      unfold theRef at hDr hA
      have HT := Lib.hid t1
      have HDr := Lib.hid hDr
      clear hD1 t1 HGt hDr
      go_wp2_with fail
      refine hA.mono ?_
      rintro e w2 ⟨rfl, rfl⟩
      clear hA
      go_wp2_with fail
      refine HDr.out.mono ?_
      rintro e w3 ⟨rfl, hN⟩
      obtain ⟨F', G', hD3, h3F, h3G, t3⟩ := hN
      have hT := ref_told r _ F' G' 0 w3 hD3
      unfold theRef at hT
      have HN := Lib.hid (acted_yes (op := opRemove name.data.toList) (k := 0) (fs' := woE name.data.toList M.fs) HM.out (by unfold opRemove; rw [HF.out.1]) (by unfold opRemove; rw [HF.out.1]) (RNext.after HT.out ⟨F', G', by rw [← HF.out.2, ← HM.out.fs]; exact hD3, h3F, h3G, t3⟩))
      clear hD3 h3F h3G t3 HDr
      go_wp2_with fail
      refine hT.mono ?_
      rintro e w4 ⟨rfl, rfl⟩
      clear hT
      go_wp2_with fail
      go_ret
      exact ⟨_, rfl, HN.out⟩

theorem cell_new {w : World} {a : Addr} {v : Value} (h : w.cell? a = some v) (o : Obj) : (w.alloc o).cell? a = some v :=
  (World.cell?_of_block (((Turn.refl [] w).alloc o).block _ (World.block_lt_of_cell? w _ h) (by simp))).trans h

theorem ref_read (r : Nat) (M : MD) (F G : List Nat) (name : ByteArray) (w : World) (h : RD w r M F G) (hl : LimF M.fs) :
    Calls Tryz.prog 42 #[theRef r, .string name] w fun e w' => ∃ ao c, e = .returned (.tuple #[.slice ao (M.read name.data.toList).1.length c, .int .i64 (M.read name.data.toList).2]) ∧
      Bs w' w.heap.size (.slice ao (M.read name.data.toList).1.length c) (M.read name.data.toList).1.length (M.read name.data.toList).1 ∧ Turn [] w w' := by
  have hll := hl.len
  have hlt := hl.tot
  have hA := ref_at r M F G name w h hll
  have hri := h.1.rising
  obtain ⟨hf, s, ao, c, xs, hR, hP, hv, hown, hT, hF, hne, hGd⟩ := h
  have c7 := hR.c7
  have c5 := hR.c5
  rw [hP.dw] at c7
  rw [hv] at c5
  unfold theRef at hA
  unfold theRef
  by_cases hdw : M.dw = true
  · have hrd : M.read name.data.toList = ([], 7) := by unfold MD.read; rw [if_pos hdw]
    have HRD := Lib.hid hrd
    rw [hdw] at c7
    clear hR hP hv hown hT hF hne hGd hA hrd
    go_enter Tryz.func42, Tryz.ntmps42
    go_wp2_with fail
    go_ret2
    rw [HRD.out]
    exact ⟨none, 0, rfl, ⟨rfl, World.ownsRow_nil _ _ _ _⟩, Turn.refl _ _⟩
  · rw [Bool.not_eq_true] at hdw
    rw [hdw] at c7
    cases hfi : M.fs.find? (isName name.data.toList) with
    | none =>
      have hrd : M.read name.data.toList = ([], 3) := by unfold MD.read; rw [if_neg (by simp [hdw]), hfi]
      have HRD := Lib.hid hrd
      rw [place_none hfi] at hA
      clear hR hP hv hown hT hF hne hGd hrd hfi
      go_enter Tryz.func42, Tryz.ntmps42
      go_wp2_with fail
      refine hA.mono ?_
      rintro e w2 ⟨rfl, rfl⟩
      clear hA
      go_wp2_with fail
      go_ret2
      rw [HRD.out]
      exact ⟨none, 0, rfl, ⟨rfl, World.ownsRow_nil _ _ _ _⟩, Turn.refl _ _⟩
    | some x =>
      have hrd : M.read name.data.toList = (x.2.1, 0) := by unfold MD.read; rw [if_neg (by simp [hdw]), hfi]
      obtain ⟨i, hi, hx, hset, her⟩ := place_some hri hfi
      rw [hi] at hA
      obtain ⟨ab, cb, q1, q2, q3, hrb, hgb⟩ := hT.2 i x hx
      obtain ⟨g, rfl, k2, _⟩ := row_cell hown (by rw [hT.1]) q2
      have hil : i < M.fs.length := (List.getElem?_eq_some_iff.1 hx).1
      have hxt := tot_mem (List.mem_of_getElem? hx)
      have i1 : ((i : Nat) : Int) < (M.fs.length : Int) := by omega
      have i0 : ¬ ((i : Nat) : Int) < 0 := by omega
      have HRD := Lib.hid (And.intro hrd hrb)
      have F1 : Hid (x.2.1.length ≤ maxLen) := Lib.hid (by unfold maxLen; omega)
      have F2 : Hid (x.2.1.length * 1 ≤ 140737488355328) := Lib.hid (by omega)
      have c5' := fun o => cell_new c5 o
      have k2' := fun o => cell_new k2 o
      clear hR hP hv hown hT hF hne hGd hrd hfi hi hx hset her q1 q2 q3 hrb hgb hxt
      go_enter Tryz.func42, Tryz.ntmps42
      go_wp2_with fail
      refine hA.mono ?_
      rintro e w2 ⟨rfl, rfl⟩
      clear hA
      go_wp2_with (at_builtin; refine wpList_append_bytes rfl _ _ rfl w.heap.size _ 0 [] rfl (Bs.empty w w.heap.size (Nat.le_refl _)) _ x.2.1.length x.2.1 rfl rfl (HRD.out.2.alloc _) x.2.1.length (Nat.zero_add _).symm F1 F2 (by simp) ?_; intro ao5 c5 w5 hown5 hb5)
      go_ret2
      rw [HRD.out.1]
      exact ⟨ao5, c5, rfl, hown5, turn_below (((Below.refl _ w).alloc (Nat.le_refl _) _).trans hb5)⟩

end Go.Proofs.YthglbmnhlnpmkaaGreat

/- The reference's Sync and Cut. Numbers and types by name. -/
namespace Go.Proofs.YthglbmnhlnpmkaaGreat
open Go.RowKit Go.Maps Go.Sort Go.WideMaps

theorem own_block {g n c : Nat} : (Value.slice (some ⟨g, 0, none⟩) n c).ownBlock = some g := rfl

set_option maxRecDepth 100000 in
set_option maxHeartbeats 2000000 in
theorem ref_sync (r : Nat) (M : MD) (F G : List Nat) (name : ByteArray) (w : World) (h : RD w r M F G) (hl : Lim M) :
    Calls Tryz.prog 38 #[theRef r, .string name] w (Left (RActed w r M F G (opSync name.data.toList))) := by
  have hll := hl.fs.len
  have hri := h.1.rising
  obtain ⟨ok, er, M1, HM, HGt⟩ := gated r M F G w h hl
  clear h
  unfold theRef
  cases ok with
  | false =>
    go_enter Tryz.func38, Tryz.ntmps38
    go_wp2_with fail
    refine HGt.out.mono ?_
    rintro e w1 ⟨rfl, hD1, t1⟩
    have HD := Lib.hid (acted_no (op := opSync name.data.toList) HM.out hD1 t1)
    clear hD1 t1 HGt
    go_wp2_with fail
    go_ret
    exact ⟨er, rfl, HD.out⟩
  | true =>
    cases hf : M.fs.find? (isName name.data.toList) with
    | none =>
      have HPL : Hid (placeE name.data.toList M1.fs = -1) := Lib.hid (by rw [HM.out.fs]; exact place_none hf)
      have HF := Lib.hid hf
      clear hf
      go_enter Tryz.func38, Tryz.ntmps38
      go_wp2_with fail
      refine HGt.out.mono ?_
      rintro e w1 ⟨rfl, hD1, t1⟩
      have HD := Lib.hid (acted_same (op := opSync name.data.toList) (k := 3) HM.out (by unfold opSync; rw [HF.out]) hD1 t1)
      have hT := ref_told r M1 F G 3 w1 hD1
      have hA := ref_at r M1 F G name w1 hD1 (by rw [HM.out.fs]; exact hll)
      rw [HPL.out] at hA
      unfold theRef at hT hA
      clear hD1 t1 HGt
      go_wp2_with fail
      refine hA.mono ?_
      rintro e w2 ⟨rfl, rfl⟩
      clear hA
      go_wp2_with fail
      refine hT.mono ?_
      rintro e w2 ⟨rfl, rfl⟩
      clear hT
      go_wp2_with fail
      go_ret
      exact ⟨_, rfl, HD.out⟩
    | some x =>
      obtain ⟨i, hi, hx, hset, her⟩ := place_some hri hf
      have HPL : Hid (placeE name.data.toList M1.fs = i) := Lib.hid (by rw [HM.out.fs]; exact hi)
      have hi0 : ¬ ((i : Nat) : Int) < 0 := by omega
      have hil := (List.getElem?_eq_some_iff.1 hx).1
      have HF := Lib.hid (And.intro hf (And.intro (hset (fun x => (x.1, x.2.1, x.2.1.length))) hx))
      have i1 : ((i : Nat) : Int) < (M1.fs.length : Int) := by rw [HM.out.fs]; omega
      clear hf hi hx hset her hil
      go_enter Tryz.func38, Tryz.ntmps38
      go_wp2_with fail
      refine HGt.out.mono ?_
      rintro e w1 ⟨rfl, hD1, t1⟩
      have hA := ref_at r M1 F G name w1 hD1 (by rw [HM.out.fs]; exact hll)
      rw [HPL.out] at hA
      unfold theRef at hA
      obtain ⟨hfit, s, ao, c, xs, hR, hP, hv, hown, hTe, hFF, hnn, hGd⟩ := hD1
      have hxi : M1.fs[i]? = some x := by rw [HM.out.fs]; exact HF.out.2.2
      obtain ⟨ab, cb, q1, q2, q3, hrb, hgb⟩ := hTe.2 i x hxi
      obtain ⟨g, rfl, k2, _⟩ := row_cell hown (by rw [hTe.1]) q2
      obtain ⟨_, e, k3, f3⟩ := row_cell hown (by rw [hTe.1]) q3
      cases e
      have c5 := hR.c5
      rw [hv] at c5
      have hgw := (hown.lt g rfl).2
      have hgr : g ≠ r := by rintro rfl; exact hnn rfl
      have hgG : g ∉ G := fun hm => (hGd g hm).1 (by rw [hFF]; simp [own_block])
      have tD : Turn [g] w1 (w1.drew.setCell ⟨g, i * 3 + 2, none⟩ (.int .i64 (x.2.1.length : Nat))) := (Turn.refl [g] w1).drew.set (.inl (by simp)) _ _
      have hxl : i * 3 + 2 < xs.length := by have := (List.getElem?_eq_some_iff.1 q3).1; omega
      have hN := RD.filed (k := i) (y := (x.1, x.2.1, x.2.1.length)) hR hP hv rfl (by rw [hFF]; rfl) hgr hgw hGd (by
        rw [HM.out.fs, HF.out.2.1, ← HM.out.fs]
        exact hfit.upd _ (fun _ => rfl) fun y hy _ => Nat.le_refl _) tD (own_setD (show w1.drew.ownsRow 0 70 3 _ _ _ from hown) (i * 3 + 2) (.int .i64 (x.2.1.length : Nat)) hxl) (hTe.synced tD hgG hxi x.2.1.length) (fun q hq => hq) (fun q hq => .inl hq) (fun q hq => Nat.lt_of_lt_of_le (hGd q hq).2 tD.size)
      obtain ⟨F2, G2, hD2, h2F, h2G, t2⟩ := hN
      rw [HM.out.fs, HF.out.2.1] at hD2
      have HD2 := Lib.hid (And.intro hD2 (acted_yes (op := opSync name.data.toList) (k := 0) HM.out (by unfold opSync; rw [HF.out.1]) (by unfold opSync; rw [HF.out.1]) (RNext.after t1 ⟨F2, G2, hD2, h2F, h2G, t2⟩)))
      clear hfit hR hP hv hown hTe hFF hnn hGd t1 HGt q1 q2 q3 hrb hgb hxi hgw hgr hgG tD hxl hD2 h2F h2G t2
      go_wp2_with fail
      refine hA.mono ?_
      rintro e w2 ⟨rfl, rfl⟩
      clear hA
      go_wp2_with fail
      go_still_tail 16, (by kernel_rfl)
      change wpList _ _ _ _ _ w1.drew
      have hT := ref_told r _ F2 G2 0 _ HD2.out.1
      unfold theRef at hT
      go_wp2_with fail
      refine hT.mono ?_
      rintro e w2 ⟨rfl, hw2⟩
      have HQ := Lib.hid HD2.out.2
      rw [hw2] at HQ
      clear hT HD2 hw2
      go_wp2_with fail
      go_ret
      exact ⟨_, rfl, HQ.out⟩

end Go.Proofs.YthglbmnhlnpmkaaGreat

namespace Go.Proofs.YthglbmnhlnpmkaaGreat
open Go.RowKit Go.Lib
section
variable {P : Program} {md : Region.Mode} {ops : Array Oper}

/-- Every order; each step but the one of place k into a later world. -/
def wpMvs (P : Program) (md : Region.Mode) (ops : Array Oper) (k : Nat) (Q : Act → World → Prop) : Nat → Array Bool → Act → World → Prop
  | 0, listed, a, w => Region.ready md ops listed = [] ∧ Q a w
  | fuel + 1, listed, a, w =>
    (Region.ready md ops listed = [] → Q a w) ∧
    ∀ i ∈ Region.ready md ops listed, mvOp P ops i (fun a' w' => (i = k ∨ Grow w w') ∧ wpMvs P md ops k Q fuel (listed.setIfInBounds i true) a' w') a w

theorem wpAny_of_mvs {k : Nat} {Q : Act → World → Prop} {Q' : Exit → Act → World → Prop} (hQ : ∀ a w, Q a w → Q' .normal a w) : ∀ (fuel : Nat) (listed : Array Bool) (a : Act) (w : World),
    wpMvs P md ops k Q fuel listed a w → wpAny P md ops Q' fuel listed a w
  | 0, _, _, _, h => ⟨h.1, hQ _ _ h.2⟩
  | fuel + 1, _, _, _, h => ⟨fun h0 => hQ _ _ (h.1 h0), fun i hi => wpOp_mono (fun a' w' h' => wpAny_of_mvs hQ fuel _ a' w' h'.2) (wpOp_of_mvOp (h.2 i hi))⟩

/-- The operation k waits for i. -/
def waitB (md : Region.Mode) (ops : Array Oper) (k i : Nat) : Bool :=
  match ops[k]? with
  | none => false
  | some o => o.after.any fun e => Region.binds md e && e.on == i

theorem wait_not {k i : Nat} {listed : Array Bool} (h : waitB md ops k i = true) (hun : listed.getD i true = false) : k ∉ Region.ready md ops listed := by
  intro hm
  obtain ⟨_, o, ho, hall⟩ := mem_ready.1 hm
  unfold waitB at h
  rw [ho] at h
  obtain ⟨e, he, hb⟩ := Array.any_eq_true'.1 h
  simp only [Bool.and_eq_true, beq_iff_eq] at hb
  have h2 := hall e he hb.1
  rw [hb.2] at h2
  rcases Nat.lt_or_ge i listed.size with h' | h'
  · simp [h'] at hun h2; rw [hun] at h2; cases h2
  · simp [Array.getElem?_eq_none h'] at hun

theorem wpMvs_first {k : Nat} {Q : Act → World → Prop} {i : Nat} {oi : Oper} {v : Value} (hi : ops[i]? = some oi) (hL : waitB md ops k i = true) (hsel : ∀ (j : Nat) (o : Oper) cs b, ops[j]? = some o → o.op ≠ .select cs b) :
    ∀ (fuel : Nat) (listed : Array Bool) (a : Act) (w : World),
      (∀ j oj, ops[j]? = some oj → j ≠ i → listed.getD j true = false → (∀ e ∈ oj.after, Region.binds md e = true → e.on ≠ i) → oi.apart ops oj = true) →
      i ∈ Region.ready md ops listed → Ups P ops w oi v a →
      wpMvs P md ops k Q fuel (listed.setIfInBounds i true) (a.put oi.dst v) w → wpMvs P md ops k Q (fuel + 1) listed a w := by
  intro fuel
  induction fuel with
  | zero =>
    intro listed a w _ hr hy H
    refine ⟨fun h => (by rw [h] at hr; cases hr), fun j hj => ?_⟩
    by_cases hji : j = i
    · subst hji; exact YieldsAt.mvOp hi (hy w (Grow.refl w)) ⟨.inr (Grow.refl w), H⟩
    · have := ready_mono hj hji
      rw [H.1] at this
      cases this
  | succ fuel ih =>
    intro listed a w hfree hr hy H
    refine ⟨fun h => (by rw [h] at hr; cases hr), fun j hj => ?_⟩
    by_cases hji : j = i
    · subst hji; exact YieldsAt.mvOp hi (hy w (Grow.refl w)) ⟨.inr (Grow.refl w), H⟩
    · have hjk : j ≠ k := by
        rintro rfl
        exact wait_not hL (mem_ready.1 hr).1 hj
      have h1 := mvOp_mono (K' := fun a' w' => Grow w w' ∧ wpMvs P md ops k Q fuel ((listed.setIfInBounds i true).setIfInBounds j true) a' w') (fun a' w' h => ⟨h.1.resolve_left hjk, h.2⟩) (H.2 j (ready_mono hj hji))
      obtain ⟨hjun, oj, hoj, hall⟩ := mem_ready.1 hj
      have hnot : ∀ e ∈ oj.after, Region.binds md e = true → e.on ≠ i := fun e he hb heq => by
        have h1 := hall e he hb
        have h0 := (mem_ready.1 hr).1
        rw [heq] at h1
        rcases Nat.lt_or_ge i listed.size with h' | h'
        · simp [h'] at h0 h1; rw [h0] at h1; cases h1
        · simp [Array.getElem?_eq_none h'] at h1
      have h2 := mvOp_put hoj (hfree j oj hoj hji hjun hnot) (fun cs b => hsel i oi cs b hi) (fun cs b => hsel j oj cs b hoj) hy h1
      have hfree' : ∀ q ok, ops[q]? = some ok → q ≠ i → (listed.setIfInBounds j true).getD q true = false →
          (∀ e ∈ ok.after, Region.binds md e = true → e.on ≠ i) → oi.apart ops ok = true := fun q ok hk hki hun hno => by
        refine hfree q ok hk hki ?_ hno
        by_cases hjk : j = q
        · subst hjk; exact hjun
        · rw [getD_set_ne true hjk] at hun; exact hun
      refine mvOp_mono (fun a' w' h3 => ⟨.inr h3.1, ih (listed.setIfInBounds j true) a' w' hfree' (ready_mono hr (Ne.symm hji)) h3.2.1 ?_⟩) h2
      rw [Array.setIfInBounds_comm _ _ hji]
      exact h3.2.2

/-- One walk. -/
def wpLins (P : Program) (ops : Array Oper) (k : Nat) (Q : Act → World → Prop) : List (Nat × Bool × Oper) → Act → World → Prop
  | [], a, w => Q a w
  | (_, true, o) :: r, a, w => ∃ v, Ups P ops w o v a ∧ wpLins P ops k Q r (a.put o.dst v) w
  | (j, false, o) :: r, a, w => mvRun P ops o (fun a' w' => (j = k ∨ Grow w w') ∧ wpLins P ops k Q r a' w') a w

theorem wpMvs_of_lin {k : Nat} {Q : Act → World → Prop} (hs : Region.noSelect ops = true) : ∀ (l : List (Nat × Bool × Oper)) (listed : Array Bool) (a : Act) (w : World), (∀ x ∈ l, ops[x.1]? = some x.2.2) → (∀ x ∈ l, x.2.1 = true → waitB md ops k x.1 = true) →
    mvB md ops l listed = true → wpLins P ops k Q l a w → wpMvs P md ops k Q l.length listed a w
  | [], _, _, _, _, _, hB, h => ⟨by simpa [mvB] using hB, h⟩
  | (j, true, o) :: r, listed, a, w, hat, hnk, hB, h => by
    simp only [mvB, Bool.and_eq_true] at hB
    obtain ⟨v, hy, hK⟩ := h
    have h0 : ops[j]? = some o := hat (j, true, o) (List.mem_cons_self ..)
    exact wpMvs_first h0 (hnk (j, true, o) (List.mem_cons_self ..) rfl) (Region.noSelect_spec hs) r.length listed a w (Region.free_spec h0 hB.1.2) (by simpa using hB.1.1) hy
      (wpMvs_of_lin hs r _ _ w (fun x hx => hat x (by simp [hx])) (fun x hx => hnk x (by simp [hx])) hB.2 hK)
  | (j, false, o) :: r, listed, a, w, hat, hnk, hB, h => by
    simp only [mvB, Bool.and_eq_true, decide_eq_true_eq] at hB
    refine ⟨fun h1 => (by rw [hB.1] at h1; cases h1), fun i hi => ?_⟩
    rw [hB.1] at hi
    obtain rfl : i = j := by simpa using hi
    have h0 : ops[i]? = some o := hat (i, false, o) (List.mem_cons_self ..)
    have hm : mvOp P ops i (fun a' w' => (i = k ∨ Grow w w') ∧ wpLins P ops k Q r a' w') a w := by unfold mvOp; simp only [h0]; exact h
    exact mvOp_mono (fun a' w' h' => ⟨h'.1, wpMvs_of_lin hs r _ a' w' (fun x hx => hat x (by simp [hx])) (fun x hx => hnk x (by simp [hx])) hB.2 h'.2⟩) hm

def mvsOk (ops : Array Oper) (k : Nat) (items : List (Nat × Bool × Oper)) : Bool := mvOk ops items && items.all fun x => !x.2.1 || waitB .any ops k x.1

theorem wp_region_mvs {id : Nat} {Q : Exit → Act → World → Prop} {a : Act} {w : World} {l : List Oper} (k : Nat) (segs : List (Nat × Nat × Bool)) (hm : P.follows .mixedOrders = true) (hB : mvsOk l.toArray k (mvAll segs l) = true)
    (h : wpLins P l.toArray k (fun a' w' => Q .normal a' w') (mvAll segs l) a w.drew) : (Code.region id l.toArray true).wp P Q a w := by
  simp only [mvsOk, mvOk, Bool.and_eq_true, beq_iff_eq] at hB
  refine wp_region_any hm (wpAny_of_mvs (k := k) (Q := fun a' w' => Q .normal a' w') (fun _ _ h => h) _ _ _ _ ?_)
  have := wpMvs_of_lin (md := .any) (k := k) hB.1.1.1 (mvAll segs l) (Array.replicate l.toArray.size false) a w.drew (mvAll_at l segs) (fun x hx hb => by
    have := List.all_eq_true.1 hB.2 x hx
    simp only [Bool.or_eq_true, Bool.not_eq_true'] at this
    rcases this with h | h
    · rw [hb] at h; cases h
    · exact h) hB.1.2 h
  rw [hB.1.1.2] at this
  exact this

theorem wpLins_nil {k : Nat} {Q : Act → World → Prop} {a : Act} {w : World} (h : Q a w) : wpLins P ops k Q [] a w := h

theorem wpLins_still {k : Nat} {Q : Act → World → Prop} {j : Nat} {o : Oper} {r : List (Nat × Bool × Oper)} {a : Act} {w : World} (v : Value) (hv : ∀ w', Grow w w' → ∀ K : Value → Prop, K v → mvVal P ops o a w' K)
    (h : ∀ K : Act → Prop, (∀ a, wpLins P ops k Q r a w → K a) → K (a.put o.dst v)) : wpLins P ops k Q ((j, true, o) :: r) a w := by
  refine ⟨v, fun w' hg => ?_, h _ fun _ h => h⟩
  have := hv w' hg (fun u => u = v) rfl
  unfold mvVal at this
  unfold YieldsAt
  by_cases hw : Region.wanted o (yielded ops a.tmps) = true
  · left
    rw [if_pos hw] at this
    refine ⟨hw, ?_⟩
    split at this
    · next heq => obtain ⟨rfl, rfl⟩ := this; exact .inl heq
    · next heq => obtain ⟨rfl, rfl⟩ := this; exact .inr (.inl ⟨heq, rfl⟩)
    · next heq => obtain ⟨rfl, u, hc, rfl⟩ := this; exact .inr (.inr ⟨_, _, heq, hc⟩)
    · exact this.elim
  · right
    rw [if_neg hw] at this
    exact ⟨by simpa using hw, this.symm⟩

theorem wpLins_call {k : Nat} {Q : Act → World → Prop} {j : Nat} {o : Oper} {r : List (Nat × Bool × Oper)} {a : Act} {w : World}
    (h : ∀ K : Act → World → Prop, (∀ a w', Grow w w' → wpLins P ops k Q r a w' → K a w') → mvRun P ops o K a w) : wpLins P ops k Q ((j, false, o) :: r) a w :=
  mvRun_mono (fun _ _ h => ⟨.inr h.1, h.2⟩) (h (fun a' w' => Grow w w' ∧ wpLins P ops k Q r a' w') fun _ _ hg hk => ⟨hg, hk⟩)
theorem wpLins_last {k : Nat} {Q : Act → World → Prop} {o : Oper} {r : List (Nat × Bool × Oper)} {a : Act} {w : World}
    (h : ∀ K : Act → World → Prop, (∀ a w', wpLins P ops k Q r a w' → K a w') → mvRun P ops o K a w) : wpLins P ops k Q ((k, false, o) :: r) a w :=
  mvRun_mono (fun _ _ h => ⟨.inl rfl, h⟩) (h (fun a' w' => wpLins P ops k Q r a' w') fun _ _ hk => hk)
end

end Go.Proofs.YthglbmnhlnpmkaaGreat
