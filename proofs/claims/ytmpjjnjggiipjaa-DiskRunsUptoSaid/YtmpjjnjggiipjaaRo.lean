/- The reference's Sync and Cut. Numbers and types by name. -/
import Derived.Test.YtmpjjnjggiipjaaRl
/- The reference's Create, Remove, Read. Numbers and types by name. -/
namespace Go.Proofs.Ytmpjjnjggiipjaa
open Go.RowKit Go.Maps Go.Sort Go.WideMaps

/-- What a writing call of the reference leaves. -/
def RActed (w : World) (r : Nat) (M : MD) (F G : List Nat) (op : Opn) : Int → World → Prop := fun k w' => k = (M.act op).1 ∧ RNext w w' r (M.act op).2 F G []

theorem RD.more {w : World} {r : Nat} {M : MD} {F G : List Nat} (h : RD w r M F G) : RNext w w r M F G [] := ⟨F, G, h, fun k hk => .inl hk, fun k hk => .inl hk, Turn.refl _ _⟩

theorem str_mk (name : ByteArray) : (⟨name.data.toList.toArray⟩ : ByteArray) = name := by cases name; simp

/-- Behind the gate. -/
structure Gated (M : MD) (ok : Bool) (er : Int) (M1 : MD) : Prop where
  fs : M1.fs = M.fs
  cap : M1.cap = M.cap
  act : ∀ op : Opn, M.act op = if ok = true then (tell7 M1 (op M.cap M.fs).1, { M1 with fs := (op M.cap M.fs).2 }) else (er, M1)

theorem gated (r : Nat) (M : MD) (F G : List Nat) (w : World) (h : RD w r M F G) (hl : Lim M) : ∃ ok er M1, Hid (Gated M ok er M1) ∧ Hid (Calls Try.prog 42 #[.pointer (some ⟨r, 0, none⟩)] w fun e w' => e = .returned (.tuple #[.bool ok, .int .i64 er]) ∧ RD w' r M1 F G ∧ Turn F w w') := by
  obtain ⟨ok, er, M1, hg, hfs, hcap, hfail, hkeep, hact⟩ := gate_cases M
  have hGt := ref_gate r M F G w h hl.n hl.fail
  rw [hg] at hGt
  exact ⟨ok, er, M1, Lib.hid ⟨hfs, hcap, hact⟩, Lib.hid hGt⟩
theorem acted_no {M M1 : MD} {er : Int} {w w' : World} {r : Nat} {F G : List Nat} {op : Opn} (hM : Gated M false er M1) (h : RD w' r M1 F G) (t : Turn F w w') : RActed w r M F G op er w' := by
  unfold RActed
  rw [hM.act, if_neg (by simp)]
  exact ⟨rfl, h.more.after t⟩
theorem acted_yes {M M1 : MD} {er k : Int} {w w' : World} {r : Nat} {F G : List Nat} {op : Opn} {fs' : List Ent} (hM : Gated M true er M1) (hk : (op M.cap M.fs).1 = k) (hfs : (op M.cap M.fs).2 = fs') (h : RNext w w' r { M1 with fs := fs' } F G []) : RActed w r M F G op (tell7 M1 k) w' := by
  unfold RActed
  rw [hM.act, if_pos rfl, hk, hfs]
  exact ⟨rfl, h⟩
/-- A call that is carried out, but to no effect. -/
theorem acted_same {M M1 : MD} {er k : Int} {w w' : World} {r : Nat} {F G : List Nat} {op : Opn} (hM : Gated M true er M1) (hk : (op M.cap M.fs) = (k, M.fs)) (h : RD w' r M1 F G) (t : Turn F w w') : RActed w r M F G op (tell7 M1 k) w' :=
  acted_yes hM (by rw [hk]) (by rw [hk, ← hM.fs]) (h.more.after t)

theorem ref_create (r : Nat) (M : MD) (F G : List Nat) (name : ByteArray) (w : World) (h : RD w r M F G) (hl : Lim M) (hz : name.size ≤ 1000000) :
    Calls Try.prog 19 #[theRef r, .string name] w (Left (RActed w r M F G (opCreate name.data.toList))) := by
  have hll := hl.fs.len
  obtain ⟨ok, er, M1, HM, HGt⟩ := gated r M F G w h hl
  clear h
  unfold theRef
  cases ok with
  | false =>
    go_enter Try.func19, Try.ntmps19
    go_wp2_with fail
    refine HGt.out.mono ?_
    rintro e w1 ⟨rfl, hD1, t1⟩
    have HD := Lib.hid (acted_no (op := opCreate name.data.toList) HM.out hD1 t1)
    clear hD1 t1 HGt
    go_wp2_with fail
    go_ret
    exact ⟨er, rfl, HD.out⟩
  | true =>
    have hne := name_empty name
    by_cases hk : name.data.toList = []
    · have hne2 : name.toList.isEmpty = true := by rw [hne]; simpa using hk
      have HK := Lib.hid hk
      clear hne hk
      go_enter Try.func19, Try.ntmps19
      go_wp2_with fail
      refine HGt.out.mono ?_
      rintro e w1 ⟨rfl, hD1, t1⟩
      have HD := Lib.hid (acted_same (op := opCreate name.data.toList) (k := 1) HM.out (by unfold opCreate; rw [if_pos HK.out]) hD1 t1)
      have hT := ref_told r M1 F G 1 w1 hD1
      unfold theRef at hT
      clear hD1 t1 HGt
      go_wp2_with fail
      refine hT.mono ?_
      rintro e w2 ⟨rfl, rfl⟩
      clear hT
      go_wp2_with fail
      go_ret
      exact ⟨_, rfl, HD.out⟩
    · have hne2 : name.toList.isEmpty = false := by rw [hne]; simpa using hk
      have HK := Lib.hid hk
      clear hne hk
      by_cases ha : M.fs.any (isName name.data.toList) = true
      · obtain ⟨pl, hpl⟩ : ∃ pl, placeE name.data.toList M1.fs = pl := ⟨_, rfl⟩
        have hp0 : (0 : Int) ≤ pl := by rw [← hpl, HM.out.fs]; exact place_any.2 ha
        have HPL := Lib.hid hpl
        have HA := Lib.hid ha
        clear hpl ha
        go_enter Try.func19, Try.ntmps19
        go_wp2_with fail
        refine HGt.out.mono ?_
        rintro e w1 ⟨rfl, hD1, t1⟩
        have HD := Lib.hid (acted_same (op := opCreate name.data.toList) (k := 4) HM.out (by unfold opCreate; rw [if_neg HK.out, if_pos HA.out]) hD1 t1)
        have hT := ref_told r M1 F G 4 w1 hD1
        have hA := ref_at r M1 F G name w1 hD1 (by rw [HM.out.fs]; exact hll)
        rw [HPL.out] at hA
        unfold theRef at hT hA
        clear hD1 t1 HGt
        go_wp2_with fail
        refine hA.mono ?_
        rintro e w2 ⟨rfl, rfl⟩
        clear hA
        go_wp2_with fail
        refine hT.mono ?_
        rintro e w2 ⟨rfl, rfl⟩
        clear hT
        go_wp2_with fail
        go_ret
        exact ⟨_, rfl, HD.out⟩
      · obtain ⟨pl, hpl⟩ : ∃ pl, placeE name.data.toList M1.fs = pl := ⟨_, rfl⟩
        have hp0 : ¬ (0 : Int) ≤ pl := by rw [← hpl, HM.out.fs]; exact fun h => ha (place_any.1 h)
        have HPL := Lib.hid hpl
        have HA := Lib.hid ha
        clear hpl ha
        go_enter Try.func19, Try.ntmps19
        go_wp2_with fail
        refine HGt.out.mono ?_
        rintro e w1 ⟨rfl, hD1, t1⟩
        have hA := ref_at r M1 F G name w1 hD1 (by rw [HM.out.fs]; exact hll)
        rw [HPL.out] at hA
        have hfitM := hD1.1
        have hP := ref_put r M1 F G (name.data.toList, [], 0) none 0 w1 hD1 (by rw [HM.out.fs]; exact hll) (hfitM.ins (by rw [HM.out.fs]; simpa using HA.out) (Nat.le_refl _) hz) (Reads.nil _) (by intro h; exact absurd rfl h)
        unfold encStr at hP
        rw [str_mk] at hP
        unfold theRef at hP hA
        have HT := Lib.hid t1
        have HP := Lib.hid hP
        clear hD1 t1 HGt hfitM hP
        go_wp2_with fail
        refine hA.mono ?_
        rintro e w2 ⟨rfl, rfl⟩
        clear hA
        go_wp2_with fail
        refine HP.out.mono ?_
        rintro e w3 ⟨rfl, hN⟩
        obtain ⟨F', G', hD3, h3F, h3G, t3⟩ := hN
        have hT := ref_told r _ F' G' 0 w3 hD3
        unfold theRef at hT
        have HN := Lib.hid (acted_yes (op := opCreate name.data.toList) (k := 0) HM.out (by unfold opCreate; rw [if_neg HK.out, if_neg HA.out]) (by unfold opCreate; rw [if_neg HK.out, if_neg HA.out]) (RNext.after HT.out ⟨F', G', by rw [← HM.out.fs]; exact hD3, h3F, h3G, t3⟩))
        clear hD3 h3F h3G t3 HP
        go_wp2_with fail
        refine hT.mono ?_
        rintro e w4 ⟨rfl, rfl⟩
        clear hT
        go_wp2_with fail
        go_ret
        exact ⟨_, rfl, HN.out⟩

end Go.Proofs.Ytmpjjnjggiipjaa

/- The reference's Remove, Rename, Read. Numbers and types by name. -/
namespace Go.Proofs.Ytmpjjnjggiipjaa
open Go.RowKit Go.Maps Go.Sort Go.WideMaps

theorem ref_remove (r : Nat) (M : MD) (F G : List Nat) (name : ByteArray) (w : World) (h : RD w r M F G) (hl : Lim M) :
    Calls Try.prog 27 #[theRef r, .string name] w (Left (RActed w r M F G (opRemove name.data.toList))) := by
  have hll := hl.fs.len
  have hri := h.1.rising
  obtain ⟨ok, er, M1, HM, HGt⟩ := gated r M F G w h hl
  clear h
  unfold theRef
  cases ok with
  | false =>
    go_enter Try.func27, Try.ntmps27
    go_wp2_with fail
    refine HGt.out.mono ?_
    rintro e w1 ⟨rfl, hD1, t1⟩
    have HD := Lib.hid (acted_no (op := opRemove name.data.toList) HM.out hD1 t1)
    clear hD1 t1 HGt
    go_wp2_with fail
    go_ret
    exact ⟨er, rfl, HD.out⟩
  | true =>
    cases hf : M.fs.find? (isName name.data.toList) with
    | none =>
      have HPL : Hid (placeE name.data.toList M1.fs = -1) := Lib.hid (by rw [HM.out.fs]; exact place_none hf)
      have HF := Lib.hid hf
      clear hf
      go_enter Try.func27, Try.ntmps27
      go_wp2_with fail
      refine HGt.out.mono ?_
      rintro e w1 ⟨rfl, hD1, t1⟩
      have HD := Lib.hid (acted_same (op := opRemove name.data.toList) (k := 3) HM.out (by unfold opRemove; rw [HF.out]) hD1 t1)
      have hT := ref_told r M1 F G 3 w1 hD1
      have hA := ref_at r M1 F G name w1 hD1 (by rw [HM.out.fs]; exact hll)
      rw [HPL.out] at hA
      unfold theRef at hT hA
      clear hD1 t1 HGt
      go_wp2_with fail
      refine hA.mono ?_
      rintro e w2 ⟨rfl, rfl⟩
      clear hA
      go_wp2_with fail
      refine hT.mono ?_
      rintro e w2 ⟨rfl, rfl⟩
      clear hT
      go_wp2_with fail
      go_ret
      exact ⟨_, rfl, HD.out⟩
    | some x =>
      obtain ⟨i, hi, hx, hset, her⟩ := place_some hri hf
      have HPL : Hid (placeE name.data.toList M1.fs = i) := Lib.hid (by rw [HM.out.fs]; exact hi)
      have HF := Lib.hid (And.intro hf her)
      have hi0 : ¬ ((i : Nat) : Int) < 0 := by omega
      clear hf hi hx hset her
      go_enter Try.func27, Try.ntmps27
      go_wp2_with fail
      refine HGt.out.mono ?_
      rintro e w1 ⟨rfl, hD1, t1⟩
      have hA := ref_at r M1 F G name w1 hD1 (by rw [HM.out.fs]; exact hll)
      rw [HPL.out] at hA
      have hDr := ref_drop r M1 F G i w1 hD1 (by rw [HM.out.fs]; exact hll) (by rw [HM.out.fs, HF.out.2, ← HM.out.fs]; exact hD1.1.wo _)
      unfold theRef at hDr hA
      have HT := Lib.hid t1
      have HDr := Lib.hid hDr
      clear hD1 t1 HGt hDr
      go_wp2_with fail
      refine hA.mono ?_
      rintro e w2 ⟨rfl, rfl⟩
      clear hA
      go_wp2_with fail
      refine HDr.out.mono ?_
      rintro e w3 ⟨rfl, hN⟩
      obtain ⟨F', G', hD3, h3F, h3G, t3⟩ := hN
      have hT := ref_told r _ F' G' 0 w3 hD3
      unfold theRef at hT
      have HN := Lib.hid (acted_yes (op := opRemove name.data.toList) (k := 0) (fs' := woE name.data.toList M.fs) HM.out (by unfold opRemove; rw [HF.out.1]) (by unfold opRemove; rw [HF.out.1]) (RNext.after HT.out ⟨F', G', by rw [← HF.out.2, ← HM.out.fs]; exact hD3, h3F, h3G, t3⟩))
      clear hD3 h3F h3G t3 HDr
      go_wp2_with fail
      refine hT.mono ?_
      rintro e w4 ⟨rfl, rfl⟩
      clear hT
      go_wp2_with fail
      go_ret
      exact ⟨_, rfl, HN.out⟩

theorem cell_new {w : World} {a : Addr} {v : Value} (h : w.cell? a = some v) (o : Obj) : (w.alloc o).cell? a = some v :=
  (World.cell?_of_block (((Turn.refl [] w).alloc o).block _ (World.block_lt_of_cell? w _ h) (by simp))).trans h

theorem ref_read (r : Nat) (M : MD) (F G : List Nat) (name : ByteArray) (w : World) (h : RD w r M F G) (hl : LimF M.fs) :
    Calls Try.prog 29 #[theRef r, .string name] w fun e w' => ∃ ao c, e = .returned (.tuple #[.slice ao (M.read name.data.toList).1.length c, .int .i64 (M.read name.data.toList).2]) ∧
      Bs w' w.heap.size (.slice ao (M.read name.data.toList).1.length c) (M.read name.data.toList).1.length (M.read name.data.toList).1 ∧ Turn [] w w' := by
  have hll := hl.len
  have hlt := hl.tot
  have hA := ref_at r M F G name w h hll
  have hri := h.1.rising
  obtain ⟨hf, s, ao, c, xs, hR, hP, hv, hown, hT, hF, hne, hGd⟩ := h
  have c7 := hR.c7
  have c5 := hR.c5
  rw [hP.dw] at c7
  rw [hv] at c5
  unfold theRef at hA
  unfold theRef
  by_cases hdw : M.dw = true
  · have hrd : M.read name.data.toList = ([], 7) := by unfold MD.read; rw [if_pos hdw]
    have HRD := Lib.hid hrd
    rw [hdw] at c7
    clear hR hP hv hown hT hF hne hGd hA hrd
    go_enter Try.func29, Try.ntmps29
    go_wp2_with fail
    go_ret2
    rw [HRD.out]
    exact ⟨none, 0, rfl, ⟨rfl, World.ownsRow_nil _ _ _ _⟩, Turn.refl _ _⟩
  · rw [Bool.not_eq_true] at hdw
    rw [hdw] at c7
    cases hfi : M.fs.find? (isName name.data.toList) with
    | none =>
      have hrd : M.read name.data.toList = ([], 3) := by unfold MD.read; rw [if_neg (by simp [hdw]), hfi]
      have HRD := Lib.hid hrd
      rw [place_none hfi] at hA
      clear hR hP hv hown hT hF hne hGd hrd hfi
      go_enter Try.func29, Try.ntmps29
      go_wp2_with fail
      refine hA.mono ?_
      rintro e w2 ⟨rfl, rfl⟩
      clear hA
      go_wp2_with fail
      go_ret2
      rw [HRD.out]
      exact ⟨none, 0, rfl, ⟨rfl, World.ownsRow_nil _ _ _ _⟩, Turn.refl _ _⟩
    | some x =>
      have hrd : M.read name.data.toList = (x.2.1, 0) := by unfold MD.read; rw [if_neg (by simp [hdw]), hfi]
      obtain ⟨i, hi, hx, hset, her⟩ := place_some hri hfi
      rw [hi] at hA
      obtain ⟨ab, cb, q1, q2, q3, hrb, hgb⟩ := hT.2 i x hx
      obtain ⟨g, rfl, k2, _⟩ := row_cell hown (by rw [hT.1]) q2
      have hil : i < M.fs.length := (List.getElem?_eq_some_iff.1 hx).1
      have hxt := tot_mem (List.mem_of_getElem? hx)
      have i1 : ((i : Nat) : Int) < (M.fs.length : Int) := by omega
      have i0 : ¬ ((i : Nat) : Int) < 0 := by omega
      have HRD := Lib.hid (And.intro hrd hrb)
      have F1 : Hid (x.2.1.length ≤ maxLen) := Lib.hid (by unfold maxLen; omega)
      have F2 : Hid (x.2.1.length * 1 ≤ 140737488355328) := Lib.hid (by omega)
      have c5' := fun o => cell_new c5 o
      have k2' := fun o => cell_new k2 o
      clear hR hP hv hown hT hF hne hGd hrd hfi hi hx hset her q1 q2 q3 hrb hgb hxt
      go_enter Try.func29, Try.ntmps29
      go_wp2_with fail
      refine hA.mono ?_
      rintro e w2 ⟨rfl, rfl⟩
      clear hA
      go_wp2_with (at_builtin; refine wpList_append_bytes rfl _ _ rfl w.heap.size _ 0 [] rfl (Bs.empty w w.heap.size (Nat.le_refl _)) _ x.2.1.length x.2.1 rfl rfl (HRD.out.2.alloc _) x.2.1.length (Nat.zero_add _).symm F1 F2 (by simp) ?_; intro ao5 c5 w5 hown5 hb5)
      go_ret2
      rw [HRD.out.1]
      exact ⟨ao5, c5, rfl, hown5, turn_below (((Below.refl _ w).alloc (Nat.le_refl _) _).trans hb5)⟩

end Go.Proofs.Ytmpjjnjggiipjaa

namespace Go.Proofs.Ytmpjjnjggiipjaa
open Go.RowKit Go.Maps Go.Sort Go.WideMaps

theorem own_block {g n c : Nat} : (Value.slice (some ⟨g, 0, none⟩) n c).ownBlock = some g := rfl

set_option maxRecDepth 100000 in
set_option maxHeartbeats 2000000 in
theorem ref_sync (r : Nat) (M : MD) (F G : List Nat) (name : ByteArray) (w : World) (h : RD w r M F G) (hl : Lim M) :
    Calls Try.prog 21 #[theRef r, .string name] w (Left (RActed w r M F G (opSync name.data.toList))) := by
  have hll := hl.fs.len
  have hri := h.1.rising
  obtain ⟨ok, er, M1, HM, HGt⟩ := gated r M F G w h hl
  clear h
  unfold theRef
  cases ok with
  | false =>
    go_enter Try.func21, Try.ntmps21
    go_wp2_with fail
    refine HGt.out.mono ?_
    rintro e w1 ⟨rfl, hD1, t1⟩
    have HD := Lib.hid (acted_no (op := opSync name.data.toList) HM.out hD1 t1)
    clear hD1 t1 HGt
    go_wp2_with fail
    go_ret
    exact ⟨er, rfl, HD.out⟩
  | true =>
    cases hf : M.fs.find? (isName name.data.toList) with
    | none =>
      have HPL : Hid (placeE name.data.toList M1.fs = -1) := Lib.hid (by rw [HM.out.fs]; exact place_none hf)
      have HF := Lib.hid hf
      clear hf
      go_enter Try.func21, Try.ntmps21
      go_wp2_with fail
      refine HGt.out.mono ?_
      rintro e w1 ⟨rfl, hD1, t1⟩
      have HD := Lib.hid (acted_same (op := opSync name.data.toList) (k := 3) HM.out (by unfold opSync; rw [HF.out]) hD1 t1)
      have hT := ref_told r M1 F G 3 w1 hD1
      have hA := ref_at r M1 F G name w1 hD1 (by rw [HM.out.fs]; exact hll)
      rw [HPL.out] at hA
      unfold theRef at hT hA
      clear hD1 t1 HGt
      go_wp2_with fail
      refine hA.mono ?_
      rintro e w2 ⟨rfl, rfl⟩
      clear hA
      go_wp2_with fail
      refine hT.mono ?_
      rintro e w2 ⟨rfl, rfl⟩
      clear hT
      go_wp2_with fail
      go_ret
      exact ⟨_, rfl, HD.out⟩
    | some x =>
      obtain ⟨i, hi, hx, hset, her⟩ := place_some hri hf
      have HPL : Hid (placeE name.data.toList M1.fs = i) := Lib.hid (by rw [HM.out.fs]; exact hi)
      have hi0 : ¬ ((i : Nat) : Int) < 0 := by omega
      have hil := (List.getElem?_eq_some_iff.1 hx).1
      have HF := Lib.hid (And.intro hf (And.intro (hset (fun x => (x.1, x.2.1, x.2.1.length))) hx))
      have i1 : ((i : Nat) : Int) < (M1.fs.length : Int) := by rw [HM.out.fs]; omega
      clear hf hi hx hset her hil
      go_enter Try.func21, Try.ntmps21
      go_wp2_with fail
      refine HGt.out.mono ?_
      rintro e w1 ⟨rfl, hD1, t1⟩
      have hA := ref_at r M1 F G name w1 hD1 (by rw [HM.out.fs]; exact hll)
      rw [HPL.out] at hA
      unfold theRef at hA
      obtain ⟨hfit, s, ao, c, xs, hR, hP, hv, hown, hTe, hFF, hnn, hGd⟩ := hD1
      have hxi : M1.fs[i]? = some x := by rw [HM.out.fs]; exact HF.out.2.2
      obtain ⟨ab, cb, q1, q2, q3, hrb, hgb⟩ := hTe.2 i x hxi
      obtain ⟨g, rfl, k2, _⟩ := row_cell hown (by rw [hTe.1]) q2
      obtain ⟨_, e, k3, f3⟩ := row_cell hown (by rw [hTe.1]) q3
      cases e
      have c5 := hR.c5
      rw [hv] at c5
      have hgw := (hown.lt g rfl).2
      have hgr : g ≠ r := by rintro rfl; exact hnn rfl
      have hgG : g ∉ G := fun hm => (hGd g hm).1 (by rw [hFF]; simp [own_block])
      have tD : Turn [g] w1 (w1.drew.setCell ⟨g, i * 3 + 2, none⟩ (.int .i64 (x.2.1.length : Nat))) := (Turn.refl [g] w1).drew.set (.inl (by simp)) _ _
      have hxl : i * 3 + 2 < xs.length := by have := (List.getElem?_eq_some_iff.1 q3).1; omega
      have hN := RD.filed (k := i) (y := (x.1, x.2.1, x.2.1.length)) hR hP hv rfl (by rw [hFF]; rfl) hgr hgw hGd (by
        rw [HM.out.fs, HF.out.2.1, ← HM.out.fs]
        exact hfit.upd _ (fun _ => rfl) fun y hy _ => Nat.le_refl _) tD (own_set (show w1.drew.ownsRow 0 79 3 _ _ _ from hown) (i * 3 + 2) (.int .i64 (x.2.1.length : Nat)) hxl) (hTe.synced tD hgG hxi x.2.1.length) (fun q hq => hq) (fun q hq => .inl hq) (fun q hq => Nat.lt_of_lt_of_le (hGd q hq).2 tD.size)
      obtain ⟨F2, G2, hD2, h2F, h2G, t2⟩ := hN
      rw [HM.out.fs, HF.out.2.1] at hD2
      have HD2 := Lib.hid (And.intro hD2 (acted_yes (op := opSync name.data.toList) (k := 0) HM.out (by unfold opSync; rw [HF.out.1]) (by unfold opSync; rw [HF.out.1]) (RNext.after t1 ⟨F2, G2, hD2, h2F, h2G, t2⟩)))
      clear hfit hR hP hv hown hTe hFF hnn hGd t1 HGt q1 q2 q3 hrb hgb hxi hgw hgr hgG tD hxl hD2 h2F h2G t2
      go_wp2_with fail
      refine hA.mono ?_
      rintro e w2 ⟨rfl, rfl⟩
      clear hA
      go_wp2_with fail
      go_still_tail 16, (by kernel_rfl)
      change wpList _ _ _ _ _ w1.drew
      have hT := ref_told r _ F2 G2 0 _ HD2.out.1
      unfold theRef at hT
      go_wp2_with fail
      refine hT.mono ?_
      rintro e w2 ⟨rfl, hw2⟩
      have HQ := Lib.hid HD2.out.2
      rw [hw2] at HQ
      clear hT HD2 hw2
      go_wp2_with fail
      go_ret
      exact ⟨_, rfl, HQ.out⟩

end Go.Proofs.Ytmpjjnjggiipjaa
