/- The reference's Sync and Cut. Numbers and types by name. -/
import Derived.Test.YthacjeeafnblmaaGreatDoorRq
/- The reference's row of files: one file turns; places. Numbers and types by name. -/
namespace Go.Proofs.YthacjeeafnblmaaGreatDoor
open Go.RowKit Go.Maps Go.Sort Go.WideMaps

theorem gate_cases (M : MD) : ∃ ok er M1, M.gate = (ok, er, M1) ∧ M1.fs = M.fs ∧ M1.cap = M.cap ∧ M1.fail = M.fail ∧ M1.keep = M.keep ∧
    ∀ op : Opn, M.act op = if ok = true then (tell7 M1 (op M.cap M.fs).1, { M1 with fs := (op M.cap M.fs).2 }) else (er, M1) := by
  unfold MD.gate MD.act tell7
  by_cases hdw : M.dw = true
  · rw [if_pos hdw]
    exact ⟨_, _, _, rfl, rfl, rfl, rfl, rfl, fun op => by rw [if_pos hdw, if_neg (by simp)]⟩
  · rw [if_neg hdw]
    by_cases hcr : M.n + 1 = M.cr
    · rw [if_pos hcr]
      refine ⟨_, _, _, rfl, rfl, rfl, rfl, rfl, fun op => ?_⟩
      rw [if_neg hdw, if_pos hcr]
      by_cases hdn : M.dn = true
      · rw [if_pos hdn, if_pos hdn, if_pos rfl]
      · rw [if_neg hdn, if_neg hdn]
    · rw [if_neg hcr]
      by_cases hfa : M.fail.contains (M.n + 1) = true
      · rw [if_pos hfa]
        exact ⟨_, _, _, rfl, rfl, rfl, rfl, rfl, fun op => by rw [if_neg hdw, if_neg hcr, if_pos hfa, if_neg (by simp)]⟩
      · rw [if_neg hfa]
        exact ⟨_, _, _, rfl, rfl, rfl, rfl, rfl, fun op => by rw [if_neg hdw, if_neg hcr, if_neg hfa, if_pos rfl, if_neg hdw]⟩

theorem place_none {k : List UInt8} {fs : List Ent} (h : fs.find? (isName k) = none) : placeE k fs = -1 := by
  unfold placeE
  have : fs.findIdx? (isName k) = none := by
    rw [List.findIdx?_eq_none_iff]
    intro x hx
    have := List.find?_eq_none.1 h x hx
    simpa using this
  rw [this]
theorem place_some {k : List UInt8} {fs : List Ent} {x : Ent} (hr : Rising fs) (h : fs.find? (isName k) = some x) :
    ∃ i : Nat, placeE k fs = i ∧ fs[i]? = some x ∧ (∀ u : Ent → Ent, fs.set i (u x) = updE k u fs) ∧ fs.eraseIdx i = woE k fs := by
  obtain ⟨hm, hk⟩ := find_memE h
  obtain ⟨i, hi, rfl⟩ := List.getElem_of_mem hm
  have hne : ∀ j (hj : j < fs.length), isName k fs[j] = true → j = i := by
    intro j hj e
    have e2 : fs[j].1 = fs[i].1 := (isName_iff.1 e).trans hk.symm
    rcases Nat.lt_trichotomy j i with hlt | he | hlt
    · have := List.pairwise_iff_getElem.1 hr j i hj hi hlt
      rw [e2] at this
      exact absurd this (List.lt_irrefl _)
    · exact he
    · have := List.pairwise_iff_getElem.1 hr i j hi hj hlt
      rw [e2] at this
      exact absurd this (List.lt_irrefl _)
  have hf : fs.findIdx? (isName k) = some i := by
    rw [List.findIdx?_eq_some_iff_getElem]
    refine ⟨hi, isName_iff.2 hk, fun j hj => ?_⟩
    intro e
    have := hne j (by omega) (by simpa using e)
    omega
  refine ⟨i, by unfold placeE; rw [hf], List.getElem?_eq_getElem hi, fun u => ?_, ?_⟩
  · apply List.ext_getElem?
    intro j
    unfold updE
    rw [List.getElem?_map]
    by_cases hj : j < fs.length
    · rw [List.getElem?_eq_getElem hj]
      simp only [Option.map_some]
      by_cases hji : j = i
      · subst hji
        rw [List.getElem?_set_self hi, if_pos (isName_iff.2 hk)]
      · rw [List.getElem?_set_ne (fun e => hji e.symm), if_neg (fun e => hji (hne j hj e)), List.getElem?_eq_getElem hj]
    · rw [List.getElem?_eq_none (by simp; omega), List.getElem?_eq_none (by omega)]
      rfl
  · unfold woE
    rw [List.eraseIdx_eq_take_drop_succ]
    conv => rhs; rw [← List.take_append_drop i fs, ← List.getElem_cons_drop (h := hi)]
    rw [List.filter_append, List.filter_cons_of_neg (by simp [isName_iff.2 hk])]
    congr 1
    · symm
      rw [List.filter_eq_self]
      intro y hy
      obtain ⟨j, hj, rfl⟩ := List.getElem_of_mem hy
      rw [List.length_take] at hj
      rw [List.getElem_take]
      cases e : isName k fs[j] with
      | false => rfl
      | true => have := hne j (by omega) e; omega
    · symm
      rw [List.filter_eq_self]
      intro y hy
      obtain ⟨j, hj, rfl⟩ := List.getElem_of_mem hy
      rw [List.length_drop] at hj
      rw [List.getElem_drop]
      cases e : isName k (fs[i + 1 + j]'(by omega)) with
      | false => rfl
      | true => have := hne (i + 1 + j) (by omega) e; omega
theorem place_any {k : List UInt8} {fs : List Ent} : (0 ≤ placeE k fs) ↔ fs.any (isName k) = true := by
  unfold placeE
  cases h : fs.findIdx? (isName k) with
  | none =>
    rw [List.findIdx?_eq_none_iff] at h
    constructor
    · intro h0; simp only at h0; omega
    · intro ha
      obtain ⟨x, hx, hn⟩ := List.any_eq_true.1 ha
      rw [h x hx] at hn; cases hn
  | some i =>
    rw [List.findIdx?_eq_some_iff_getElem] at h
    obtain ⟨hi, hn, _⟩ := h
    constructor
    · intro _; exact List.any_eq_true.2 ⟨_, List.getElem_mem hi, hn⟩
    · intro _; simp only; omega

theorem set_same {xs : List Value} {i : Nat} {v : Value} (h : xs[i]? = some v) : xs.set i v = xs := by
  obtain ⟨hi, rfl⟩ := List.getElem?_eq_some_iff.1 h
  exact List.set_getElem_self hi

/-- The bytes of one file. -/
theorem TellR.bytes {w w' : World} {G : List Nat} {zs : List Value} {L : List Ent} {g : Nat} (h : TellR w G zs L) (t : Turn [g] w w') (hg : g ∉ G) {k : Nat} {x : Ent} (hx : L[k]? = some x) (l : List UInt8) (ao : Option Addr) (c : Nat) (hr : Reads w' (.slice ao l.length c) (bv l)) (hG : l ≠ [] → ∀ a, ao = some a → a.block ∈ G) :
    TellR w' G (zs.set (k * 3 + 1) (.slice ao l.length c)) (L.set k (x.1, l, x.2.2)) := by
  obtain ⟨_, _, e1, e2, e3, _⟩ := h.2 k x hx
  have := h.put (.inr ⟨g, t, hg⟩) k (x.1, l, x.2.2) ao c hr hG
  simp only at this
  rw [set_same e1, set_same (i := k * 3 + 2) (by rw [List.getElem?_set_ne (by omega)]; exact e3)] at this
  exact this
/-- How many bytes of one file are synced. -/
theorem TellR.synced {w w' : World} {G : List Nat} {zs : List Value} {L : List Ent} {g : Nat} (h : TellR w G zs L) (t : Turn [g] w w') (hg : g ∉ G) {k : Nat} {x : Ent} (hx : L[k]? = some x) (q : Nat) :
    TellR w' G (zs.set (k * 3 + 2) (.int .i64 q)) (L.set k (x.1, x.2.1, q)) := by
  obtain ⟨ao, c, e1, e2, e3, e4, e5⟩ := h.2 k x hx
  have := h.put (.inr ⟨g, t, hg⟩) k (x.1, x.2.1, q) ao c (e4.turn t fun hne a n c e => by
    simp only [Value.slice.injEq] at e
    have h5 := e5 (by intro e2; rw [e2] at hne; exact hne rfl) a e.1
    simp only [List.mem_singleton]
    intro e3
    exact hg (by rw [← e3]; exact h5)) e5
  simp only at this
  rw [set_same e1, set_same e2] at this
  exact this

/-- One file of the row turned. -/
theorem RD.filed {w w' : World} {r n c g : Nat} {M : MD} {F G G' : List Nat} {s : RS} {xs' : List Value} {k : Nat} {y : Ent} (hR : RefC w r s) (hP : RP w s M G) (hv : s.fv = .slice (some ⟨g, 0, none⟩) n c) (hn : n = M.fs.length) (hF : F = [r, g]) (hne : g ≠ r) (hgw : g < w.heap.size) (hGd : ∀ q ∈ G, q ∉ F ∧ q < w.heap.size)
    (hfit : Fit (M.fs.set k y)) (t : Turn [g] w w') (hown : w'.ownsRow 0 92 3 (.slice (some ⟨g, 0, none⟩) n c) n xs') (hT : TellR w' G' xs' (M.fs.set k y)) (hG : ∀ q ∈ G, q ∈ G') (hG' : ∀ q ∈ G', q ∈ G ∨ w.heap.size ≤ q) (hG2 : ∀ q ∈ G', q < w'.heap.size) :
    RNext w w' r { M with fs := M.fs.set k y } F G [] := by
  subst hn hF
  have hl : (M.fs.set k y).length = M.fs.length := by simp
  have hGg : ∀ q ∈ G, q ∉ [g] := fun q hq hm => (hGd q hq).1 (by simp at hm; simp [hm])
  have hP' := hP.turn t hGg
  have hrl := hR.lt
  refine ⟨[r, g], G', ⟨hfit, s, some ⟨g, 0, none⟩, c, xs', hR.turn t (by simpa using fun e => hne e.symm), ⟨hP.cap, hP.cr, hP.dn, hP.n, hP.dw, hP'.fail, hP'.keep, fun h a n c e => hG _ (hP.failG h a n c e), fun h a n c e => hG _ (hP.keepG h a n c e), hP.n0⟩, by rw [hl]; exact hv, by rw [hl]; exact hown, hT, by rw [hl]; rfl, by rw [hl]; simpa [Value.ownBlock] using hne, fun q hq => ⟨fun hm => ?_, hG2 q hq⟩⟩, fun q hq => .inl hq, fun q hq => (hG' q hq).imp id .inr, t.mono (by simp)⟩
  rcases hG' q hq with h | h
  · exact (hGd q h).1 hm
  · simp only [List.mem_cons, List.not_mem_nil, or_false] at hm
    rcases hm with e | e <;> omega

end Go.Proofs.YthacjeeafnblmaaGreatDoor

/- The reference's Create, Remove, Read. Numbers and types by name. -/
namespace Go.Proofs.YthacjeeafnblmaaGreatDoor
open Go.RowKit Go.Maps Go.Sort Go.WideMaps

/-- What a writing call of the reference leaves. -/
def RActed (w : World) (r : Nat) (M : MD) (F G : List Nat) (op : Opn) : Int → World → Prop := fun k w' => k = (M.act op).1 ∧ RNext w w' r (M.act op).2 F G []

theorem RD.more {w : World} {r : Nat} {M : MD} {F G : List Nat} (h : RD w r M F G) : RNext w w r M F G [] := ⟨F, G, h, fun k hk => .inl hk, fun k hk => .inl hk, Turn.refl _ _⟩

theorem str_mk (name : ByteArray) : (⟨name.data.toList.toArray⟩ : ByteArray) = name := by cases name; simp

/-- Behind the gate. -/
structure Gated (M : MD) (ok : Bool) (er : Int) (M1 : MD) : Prop where
  fs : M1.fs = M.fs
  cap : M1.cap = M.cap
  act : ∀ op : Opn, M.act op = if ok = true then (tell7 M1 (op M.cap M.fs).1, { M1 with fs := (op M.cap M.fs).2 }) else (er, M1)

theorem gated (r : Nat) (M : MD) (F G : List Nat) (w : World) (h : RD w r M F G) (hl : Lim M) : ∃ ok er M1, Hid (Gated M ok er M1) ∧ Hid (Calls Tryz.prog 69 #[.pointer (some ⟨r, 0, none⟩)] w fun e w' => e = .returned (.tuple #[.bool ok, .int .i64 er]) ∧ RD w' r M1 F G ∧ Turn F w w') := by
  obtain ⟨ok, er, M1, hg, hfs, hcap, hfail, hkeep, hact⟩ := gate_cases M
  have hGt := ref_gate r M F G w h hl.n hl.fail
  rw [hg] at hGt
  exact ⟨ok, er, M1, Lib.hid ⟨hfs, hcap, hact⟩, Lib.hid hGt⟩
theorem acted_no {M M1 : MD} {er : Int} {w w' : World} {r : Nat} {F G : List Nat} {op : Opn} (hM : Gated M false er M1) (h : RD w' r M1 F G) (t : Turn F w w') : RActed w r M F G op er w' := by
  unfold RActed
  rw [hM.act, if_neg (by simp)]
  exact ⟨rfl, h.more.after t⟩
theorem acted_yes {M M1 : MD} {er k : Int} {w w' : World} {r : Nat} {F G : List Nat} {op : Opn} {fs' : List Ent} (hM : Gated M true er M1) (hk : (op M.cap M.fs).1 = k) (hfs : (op M.cap M.fs).2 = fs') (h : RNext w w' r { M1 with fs := fs' } F G []) : RActed w r M F G op (tell7 M1 k) w' := by
  unfold RActed
  rw [hM.act, if_pos rfl, hk, hfs]
  exact ⟨rfl, h⟩
/-- A call that is carried out, but to no effect. -/
theorem acted_same {M M1 : MD} {er k : Int} {w w' : World} {r : Nat} {F G : List Nat} {op : Opn} (hM : Gated M true er M1) (hk : (op M.cap M.fs) = (k, M.fs)) (h : RD w' r M1 F G) (t : Turn F w w') : RActed w r M F G op (tell7 M1 k) w' :=
  acted_yes hM (by rw [hk]) (by rw [hk, ← hM.fs]) (h.more.after t)

theorem ref_create (r : Nat) (M : MD) (F G : List Nat) (name : ByteArray) (w : World) (h : RD w r M F G) (hl : Lim M) (hz : name.size ≤ 1000000) :
    Calls Tryz.prog 37 #[theRef r, .string name] w (Left (RActed w r M F G (opCreate name.data.toList))) := by
  have hll := hl.fs.len
  obtain ⟨ok, er, M1, HM, HGt⟩ := gated r M F G w h hl
  clear h
  unfold theRef
  cases ok with
  | false =>
    go_enter Tryz.func37, Tryz.ntmps37
    go_wp2_with fail
    refine HGt.out.mono ?_
    rintro e w1 ⟨rfl, hD1, t1⟩
    have HD := Lib.hid (acted_no (op := opCreate name.data.toList) HM.out hD1 t1)
    clear hD1 t1 HGt
    go_wp2_with fail
    go_ret
    exact ⟨er, rfl, HD.out⟩
  | true =>
    have hne := name_empty name
    by_cases hk : name.data.toList = []
    · have hne2 : name.toList.isEmpty = true := by rw [hne]; simpa using hk
      have HK := Lib.hid hk
      clear hne hk
      go_enter Tryz.func37, Tryz.ntmps37
      go_wp2_with fail
      refine HGt.out.mono ?_
      rintro e w1 ⟨rfl, hD1, t1⟩
      have HD := Lib.hid (acted_same (op := opCreate name.data.toList) (k := 1) HM.out (by unfold opCreate; rw [if_pos HK.out]) hD1 t1)
      have hT := ref_told r M1 F G 1 w1 hD1
      unfold theRef at hT
      clear hD1 t1 HGt
      go_wp2_with fail
      refine hT.mono ?_
      rintro e w2 ⟨rfl, rfl⟩
      clear hT
      go_wp2_with fail
      go_ret
      exact ⟨_, rfl, HD.out⟩
    · have hne2 : name.toList.isEmpty = false := by rw [hne]; simpa using hk
      have HK := Lib.hid hk
      clear hne hk
      by_cases ha : M.fs.any (isName name.data.toList) = true
      · obtain ⟨pl, hpl⟩ : ∃ pl, placeE name.data.toList M1.fs = pl := ⟨_, rfl⟩
        have hp0 : (0 : Int) ≤ pl := by rw [← hpl, HM.out.fs]; exact place_any.2 ha
        have HPL := Lib.hid hpl
        have HA := Lib.hid ha
        clear hpl ha
        go_enter Tryz.func37, Tryz.ntmps37
        go_wp2_with fail
        refine HGt.out.mono ?_
        rintro e w1 ⟨rfl, hD1, t1⟩
        have HD := Lib.hid (acted_same (op := opCreate name.data.toList) (k := 4) HM.out (by unfold opCreate; rw [if_neg HK.out, if_pos HA.out]) hD1 t1)
        have hT := ref_told r M1 F G 4 w1 hD1
        have hA := ref_at r M1 F G name w1 hD1 (by rw [HM.out.fs]; exact hll)
        rw [HPL.out] at hA
        unfold theRef at hT hA
        clear hD1 t1 HGt
        go_wp2_with fail
        refine hA.mono ?_
        rintro e w2 ⟨rfl, rfl⟩
        clear hA
        go_wp2_with fail
        refine hT.mono ?_
        rintro e w2 ⟨rfl, rfl⟩
        clear hT
        go_wp2_with fail
        go_ret
        exact ⟨_, rfl, HD.out⟩
      · obtain ⟨pl, hpl⟩ : ∃ pl, placeE name.data.toList M1.fs = pl := ⟨_, rfl⟩
        have hp0 : ¬ (0 : Int) ≤ pl := by rw [← hpl, HM.out.fs]; exact fun h => ha (place_any.1 h)
        have HPL := Lib.hid hpl
        have HA := Lib.hid ha
        clear hpl ha
        go_enter Tryz.func37, Tryz.ntmps37
        go_wp2_with fail
        refine HGt.out.mono ?_
        rintro e w1 ⟨rfl, hD1, t1⟩
        have hA := ref_at r M1 F G name w1 hD1 (by rw [HM.out.fs]; exact hll)
        rw [HPL.out] at hA
        have hfitM := hD1.1
        have hP := ref_put r M1 F G (name.data.toList, [], 0) none 0 w1 hD1 (by rw [HM.out.fs]; exact hll) (hfitM.ins (by rw [HM.out.fs]; simpa using HA.out) (Nat.le_refl _) hz) (Reads.nil _) (by intro h; exact absurd rfl h)
        unfold encStr at hP
        rw [str_mk] at hP
        unfold theRef at hP hA
        have HT := Lib.hid t1
        have HP := Lib.hid hP
        clear hD1 t1 HGt hfitM hP
        go_wp2_with fail
        refine hA.mono ?_
        rintro e w2 ⟨rfl, rfl⟩
        clear hA
        go_wp2_with fail
        refine HP.out.mono ?_
        rintro e w3 ⟨rfl, hN⟩
        obtain ⟨F', G', hD3, h3F, h3G, t3⟩ := hN
        have hT := ref_told r _ F' G' 0 w3 hD3
        unfold theRef at hT
        have HN := Lib.hid (acted_yes (op := opCreate name.data.toList) (k := 0) HM.out (by unfold opCreate; rw [if_neg HK.out, if_neg HA.out]) (by unfold opCreate; rw [if_neg HK.out, if_neg HA.out]) (RNext.after HT.out ⟨F', G', by rw [← HM.out.fs]; exact hD3, h3F, h3G, t3⟩))
        clear hD3 h3F h3G t3 HP
        go_wp2_with fail
        refine hT.mono ?_
        rintro e w4 ⟨rfl, rfl⟩
        clear hT
        go_wp2_with fail
        go_ret
        exact ⟨_, rfl, HN.out⟩

end Go.Proofs.YthacjeeafnblmaaGreatDoor

/- The reference's Remove, Rename, Read. Numbers and types by name. -/
namespace Go.Proofs.YthacjeeafnblmaaGreatDoor
open Go.RowKit Go.Maps Go.Sort Go.WideMaps

theorem cell_new {w : World} {a : Addr} {v : Value} (h : w.cell? a = some v) (o : Obj) : (w.alloc o).cell? a = some v :=
  (World.cell?_of_block (((Turn.refl [] w).alloc o).block _ (World.block_lt_of_cell? w _ h) (by simp))).trans h

theorem ref_read (r : Nat) (M : MD) (F G : List Nat) (name : ByteArray) (w : World) (h : RD w r M F G) (hl : LimF M.fs) :
    Calls Tryz.prog 36 #[theRef r, .string name] w fun e w' => ∃ ao c, e = .returned (.tuple #[.slice ao (M.read name.data.toList).1.length c, .int .i64 (M.read name.data.toList).2]) ∧
      Bs w' w.heap.size (.slice ao (M.read name.data.toList).1.length c) (M.read name.data.toList).1.length (M.read name.data.toList).1 ∧ Turn [] w w' := by
  have hll := hl.len
  have hlt := hl.tot
  have hA := ref_at r M F G name w h hll
  have hri := h.1.rising
  obtain ⟨hf, s, ao, c, xs, hR, hP, hv, hown, hT, hF, hne, hGd⟩ := h
  have c7 := hR.c7
  have c5 := hR.c5
  rw [hP.dw] at c7
  rw [hv] at c5
  unfold theRef at hA
  unfold theRef
  by_cases hdw : M.dw = true
  · have hrd : M.read name.data.toList = ([], 7) := by unfold MD.read; rw [if_pos hdw]
    have HRD := Lib.hid hrd
    rw [hdw] at c7
    clear hR hP hv hown hT hF hne hGd hA hrd
    go_enter Tryz.func36, Tryz.ntmps36
    go_wp2_with fail
    go_ret2
    rw [HRD.out]
    exact ⟨none, 0, rfl, ⟨rfl, World.ownsRow_nil _ _ _ _⟩, Turn.refl _ _⟩
  · rw [Bool.not_eq_true] at hdw
    rw [hdw] at c7
    cases hfi : M.fs.find? (isName name.data.toList) with
    | none =>
      have hrd : M.read name.data.toList = ([], 3) := by unfold MD.read; rw [if_neg (by simp [hdw]), hfi]
      have HRD := Lib.hid hrd
      rw [place_none hfi] at hA
      clear hR hP hv hown hT hF hne hGd hrd hfi
      go_enter Tryz.func36, Tryz.ntmps36
      go_wp2_with fail
      refine hA.mono ?_
      rintro e w2 ⟨rfl, rfl⟩
      clear hA
      go_wp2_with fail
      go_ret2
      rw [HRD.out]
      exact ⟨none, 0, rfl, ⟨rfl, World.ownsRow_nil _ _ _ _⟩, Turn.refl _ _⟩
    | some x =>
      have hrd : M.read name.data.toList = (x.2.1, 0) := by unfold MD.read; rw [if_neg (by simp [hdw]), hfi]
      obtain ⟨i, hi, hx, hset, her⟩ := place_some hri hfi
      rw [hi] at hA
      obtain ⟨ab, cb, q1, q2, q3, hrb, hgb⟩ := hT.2 i x hx
      obtain ⟨g, rfl, k2, _⟩ := row_cell hown (by rw [hT.1]) q2
      have hil : i < M.fs.length := (List.getElem?_eq_some_iff.1 hx).1
      have hxt := tot_mem (List.mem_of_getElem? hx)
      have i1 : ((i : Nat) : Int) < (M.fs.length : Int) := by omega
      have i0 : ¬ ((i : Nat) : Int) < 0 := by omega
      have HRD := Lib.hid (And.intro hrd hrb)
      have F1 : Hid (x.2.1.length ≤ maxLen) := Lib.hid (by unfold maxLen; omega)
      have F2 : Hid (x.2.1.length * 1 ≤ 140737488355328) := Lib.hid (by omega)
      have c5' := fun o => cell_new c5 o
      have k2' := fun o => cell_new k2 o
      clear hR hP hv hown hT hF hne hGd hrd hfi hi hx hset her q1 q2 q3 hrb hgb hxt
      go_enter Tryz.func36, Tryz.ntmps36
      go_wp2_with fail
      refine hA.mono ?_
      rintro e w2 ⟨rfl, rfl⟩
      clear hA
      go_wp2_with (at_builtin; refine wpList_append_bytes rfl _ _ rfl w.heap.size _ 0 [] rfl (Bs.empty w w.heap.size (Nat.le_refl _)) _ x.2.1.length x.2.1 rfl rfl (HRD.out.2.alloc _) x.2.1.length (Nat.zero_add _).symm F1 F2 (by simp) ?_; intro ao5 c5 w5 hown5 hb5)
      go_ret2
      rw [HRD.out.1]
      exact ⟨ao5, c5, rfl, hown5, turn_below (((Below.refl _ w).alloc (Nat.le_refl _) _).trans hb5)⟩

end Go.Proofs.YthacjeeafnblmaaGreatDoor

namespace Go.Proofs.YthacjeeafnblmaaGreatDoor
open Go.RowKit Go.Maps Go.Sort Go.WideMaps

theorem own_block {g n c : Nat} : (Value.slice (some ⟨g, 0, none⟩) n c).ownBlock = some g := rfl

set_option maxRecDepth 100000 in
set_option maxHeartbeats 2000000 in
theorem ref_sync (r : Nat) (M : MD) (F G : List Nat) (name : ByteArray) (w : World) (h : RD w r M F G) (hl : Lim M) :
    Calls Tryz.prog 39 #[theRef r, .string name] w (Left (RActed w r M F G (opSync name.data.toList))) := by
  have hll := hl.fs.len
  have hri := h.1.rising
  obtain ⟨ok, er, M1, HM, HGt⟩ := gated r M F G w h hl
  clear h
  unfold theRef
  cases ok with
  | false =>
    go_enter Tryz.func39, Tryz.ntmps39
    go_wp2_with fail
    refine HGt.out.mono ?_
    rintro e w1 ⟨rfl, hD1, t1⟩
    have HD := Lib.hid (acted_no (op := opSync name.data.toList) HM.out hD1 t1)
    clear hD1 t1 HGt
    go_wp2_with fail
    go_ret
    exact ⟨er, rfl, HD.out⟩
  | true =>
    cases hf : M.fs.find? (isName name.data.toList) with
    | none =>
      have HPL : Hid (placeE name.data.toList M1.fs = -1) := Lib.hid (by rw [HM.out.fs]; exact place_none hf)
      have HF := Lib.hid hf
      clear hf
      go_enter Tryz.func39, Tryz.ntmps39
      go_wp2_with fail
      refine HGt.out.mono ?_
      rintro e w1 ⟨rfl, hD1, t1⟩
      have HD := Lib.hid (acted_same (op := opSync name.data.toList) (k := 3) HM.out (by unfold opSync; rw [HF.out]) hD1 t1)
      have hT := ref_told r M1 F G 3 w1 hD1
      have hA := ref_at r M1 F G name w1 hD1 (by rw [HM.out.fs]; exact hll)
      rw [HPL.out] at hA
      unfold theRef at hT hA
      clear hD1 t1 HGt
      go_wp2_with fail
      refine hA.mono ?_
      rintro e w2 ⟨rfl, rfl⟩
      clear hA
      go_wp2_with fail
      refine hT.mono ?_
      rintro e w2 ⟨rfl, rfl⟩
      clear hT
      go_wp2_with fail
      go_ret
      exact ⟨_, rfl, HD.out⟩
    | some x =>
      obtain ⟨i, hi, hx, hset, her⟩ := place_some hri hf
      have HPL : Hid (placeE name.data.toList M1.fs = i) := Lib.hid (by rw [HM.out.fs]; exact hi)
      have hi0 : ¬ ((i : Nat) : Int) < 0 := by omega
      have hil := (List.getElem?_eq_some_iff.1 hx).1
      have HF := Lib.hid (And.intro hf (And.intro (hset (fun x => (x.1, x.2.1, x.2.1.length))) hx))
      have i1 : ((i : Nat) : Int) < (M1.fs.length : Int) := by rw [HM.out.fs]; omega
      clear hf hi hx hset her hil
      go_enter Tryz.func39, Tryz.ntmps39
      go_wp2_with fail
      refine HGt.out.mono ?_
      rintro e w1 ⟨rfl, hD1, t1⟩
      have hA := ref_at r M1 F G name w1 hD1 (by rw [HM.out.fs]; exact hll)
      rw [HPL.out] at hA
      unfold theRef at hA
      obtain ⟨hfit, s, ao, c, xs, hR, hP, hv, hown, hTe, hFF, hnn, hGd⟩ := hD1
      have hxi : M1.fs[i]? = some x := by rw [HM.out.fs]; exact HF.out.2.2
      obtain ⟨ab, cb, q1, q2, q3, hrb, hgb⟩ := hTe.2 i x hxi
      obtain ⟨g, rfl, k2, _⟩ := row_cell hown (by rw [hTe.1]) q2
      obtain ⟨_, e, k3, f3⟩ := row_cell hown (by rw [hTe.1]) q3
      cases e
      have c5 := hR.c5
      rw [hv] at c5
      have hgw := (hown.lt g rfl).2
      have hgr : g ≠ r := by rintro rfl; exact hnn rfl
      have hgG : g ∉ G := fun hm => (hGd g hm).1 (by rw [hFF]; simp [own_block])
      have tD : Turn [g] w1 (w1.drew.setCell ⟨g, i * 3 + 2, none⟩ (.int .i64 (x.2.1.length : Nat))) := (Turn.refl [g] w1).drew.set (.inl (by simp)) _ _
      have hxl : i * 3 + 2 < xs.length := by have := (List.getElem?_eq_some_iff.1 q3).1; omega
      have hN := RD.filed (k := i) (y := (x.1, x.2.1, x.2.1.length)) hR hP hv rfl (by rw [hFF]; rfl) hgr hgw hGd (by
        rw [HM.out.fs, HF.out.2.1, ← HM.out.fs]
        exact hfit.upd _ (fun _ => rfl) fun y hy _ => Nat.le_refl _) tD (own_set (show w1.drew.ownsRow 0 92 3 _ _ _ from hown) (i * 3 + 2) (.int .i64 (x.2.1.length : Nat)) hxl) (hTe.synced tD hgG hxi x.2.1.length) (fun q hq => hq) (fun q hq => .inl hq) (fun q hq => Nat.lt_of_lt_of_le (hGd q hq).2 tD.size)
      obtain ⟨F2, G2, hD2, h2F, h2G, t2⟩ := hN
      rw [HM.out.fs, HF.out.2.1] at hD2
      have HD2 := Lib.hid (And.intro hD2 (acted_yes (op := opSync name.data.toList) (k := 0) HM.out (by unfold opSync; rw [HF.out.1]) (by unfold opSync; rw [HF.out.1]) (RNext.after t1 ⟨F2, G2, hD2, h2F, h2G, t2⟩)))
      clear hfit hR hP hv hown hTe hFF hnn hGd t1 HGt q1 q2 q3 hrb hgb hxi hgw hgr hgG tD hxl hD2 h2F h2G t2
      go_wp2_with fail
      refine hA.mono ?_
      rintro e w2 ⟨rfl, rfl⟩
      clear hA
      go_wp2_with fail
      go_still_tail 16, (by kernel_rfl)
      change wpList _ _ _ _ _ w1.drew
      have hT := ref_told r _ F2 G2 0 _ HD2.out.1
      unfold theRef at hT
      go_wp2_with fail
      refine hT.mono ?_
      rintro e w2 ⟨rfl, hw2⟩
      have HQ := Lib.hid HD2.out.2
      rw [hw2] at HQ
      clear hT HD2 hw2
      go_wp2_with fail
      go_ret
      exact ⟨_, rfl, HQ.out⟩

end Go.Proofs.YthacjeeafnblmaaGreatDoor
