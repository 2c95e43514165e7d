/- Disks of files without bytes, whatever is made, renamed, removed. Numbers and types by name. -/
import Derived.Test.YtloccomlnnndoaaAny
namespace Go.Proofs.Ytloccomlnnndoaa
open Go.RowKit Go.Maps Go.Sort Go.WideMaps

/-- A disk of files without bytes and with names: at most m calls were made. -/
def Lk (w : World) (base b m : Nat) : Prop :=
  ∃ fs ca, Dk w base b fs 100000 ca [] ∧ 0 ≤ ca ∧ ca ≤ m ∧ fs.length ≤ m ∧ ∀ x ∈ fs, x.1 ≠ [] ∧ x.1.length ≤ 100 ∧ x.2.1 = []

theorem Lk.new {w w' : World} {base b m : Nat} (h : Lk w base b m) (t : Turn [] w w') : Lk w' base b m := by
  obtain ⟨fs, ca, hD, h2⟩ := h
  exact ⟨fs, ca, hD.new t, h2⟩

theorem tot_zero {fs : List Ent} (h : ∀ x ∈ fs, x.2.1 = []) : tot fs = 0 := by
  induction fs with
  | nil => rfl
  | cons a l ih =>
    have h1 := ih fun x hx => h x (List.mem_cons_of_mem _ hx)
    have h2 := h a List.mem_cons_self
    simp only [tot] at h1
    simp [tot, h2, h1]

theorem dk_counted {w w' : World} {base b : Nat} {S : DM} {s : DS} {fs : List Ent} {cap ca : Int} {keep : List Int} {kk k : Int} (h0 : base ≤ w.heap.size) (hR : Rep w base b S s) (hs : s.sz = total S.files) (hv : S.files.map view = fs) (hc : CalmD S cap ca keep) (hca : ca < 999) (h : Counted w base b S s kk k w') : Dk w' base b fs cap (ca + 1) keep ∧ Below base w w' := by
  obtain ⟨_, h1, t⟩ := h
  have hl := hR.low b (by simp [foot])
  exact ⟨⟨Nat.le_trans h0 t.size, _, _, h1, hs, hv, ⟨hc.cap, hc.cr, by show S.ca + 1 = _; rw [hc.ca], by have := hc.ca0; omega, by omega, hc.dw, hc.fail, hc.keep⟩⟩, t.below h0 (by simpa using hl)⟩

theorem name_nil {name : ByteArray} (h : name.toList.isEmpty = true) : name = ⟨#[]⟩ := by
  rw [ByteArray.toList_eq] at h
  have h2 : name.data.toList = [] := by simpa using h
  have h3 : name.data = #[] := by
    rw [← Array.toList_inj]
    simpa using h2
  cases name
  simp only at h3
  rw [h3]

theorem name_ne_nil {name : ByteArray} (h : name.toList.isEmpty = false) : name.data.toList ≠ [] := by
  rw [ByteArray.toList_eq] at h
  intro e
  rw [e] at h
  cases h

theorem create_lk (base b m : Nat) (name : ByteArray) (w : World) (h : Lk w base b m) (hm : m < 900) (hl : name.size ≤ 100) :
    Calls Try.prog 20 #[theDisk b, .string name] w fun e w' => (∃ k, e = .returned (.int .i64 k)) ∧ Lk w' base b (m + 1) ∧ Below base w w' := by
  obtain ⟨fs, ca, hD, hca0, hca1, hlen, hfs⟩ := h
  have hl2 : name.size ≤ maxLen := by unfold maxLen; omega
  cases hne : name.toList.isEmpty with
  | true =>
    obtain ⟨h0, S, s, hR, hs, hv, hc⟩ := hD
    obtain rfl := name_nil hne
    refine (create_ref base b S s ⟨#[]⟩ 1 w hR hc.runs ?_).mono ?_
    · intro w1 pn pd hR1 h1 h2
      refine (create_empty pn pd b w1 h1 h2).mono ?_
      rintro e w' ⟨rfl, rfl⟩
      exact ⟨1, rfl, rfl, Turn.refl _ _⟩
    · rintro e w' ⟨k, rfl, hk⟩
      obtain ⟨h1, h2⟩ := dk_counted h0 hR hs hv hc (by omega) hk
      exact ⟨⟨k, rfl⟩, ⟨fs, ca + 1, h1, by omega, by omega, by omega, hfs⟩, h2⟩
  | false =>
    cases hno : fs.any (isName name.data.toList) with
    | true =>
      obtain ⟨h0, S, s, hR, hs, hv, hc⟩ := hD
      obtain ⟨f, hf⟩ : ∃ f, S.files.find? (named name.data.toList) = some f := by
        rw [← hv, any_view, List.any_eq_true] at hno
        obtain ⟨f, hf, hn⟩ := hno
        cases e : S.files.find? (named name.data.toList) with
        | some g => exact ⟨g, rfl⟩
        | none => exact absurd hn (List.find?_eq_none.1 e f hf)
      refine (create_ref base b S s name 4 w hR hc.runs ?_).mono ?_
      · intro w1 pn pd hR1 h1 h2
        refine (create_twice pn pd base b _ _ name f w1 h1 h2 hR1 hne hf hl2).mono ?_
        rintro e w' ⟨rfl, n, rfl⟩
        exact ⟨4, rfl, rfl, (Turn.refl [] w1).drewN n⟩
      · rintro e w' ⟨k, rfl, hk⟩
        obtain ⟨h1, h2⟩ := dk_counted h0 hR hs hv hc (by omega) hk
        exact ⟨⟨k, rfl⟩, ⟨fs, ca + 1, h1, by omega, by omega, by omega, hfs⟩, h2⟩
    | false =>
      refine (create_dk base b fs 100000 ca [] name w hD (by omega) hne hl2 hno (by unfold maxLen; omega)).mono ?_
      rintro e w' ⟨rfl, h1, h2⟩
      refine ⟨⟨0, rfl⟩, ⟨_, ca + 1, h1, by omega, by omega, by simp; omega, ?_⟩, h2⟩
      intro x hx
      rcases List.mem_append.1 hx with hx | hx
      · exact hfs x hx
      · rw [List.mem_singleton] at hx
        subst hx
        exact ⟨name_ne_nil hne, hl, rfl⟩

theorem rename_ref (base b : Nat) (S : DM) (s : DS) (src dst : ByteArray) (kk : Int) (w : World) (hR : Rep w base b S s) (hr : Runs S)
    (hcl : ∀ w1 pd pn pt, Rep w1 base b { S with ca := S.ca + 1 } { s with ca := S.ca + 1 } → w1.cell? ⟨pd, 0, none⟩ = some (theDisk b) → w1.cell? ⟨pn, 0, none⟩ = some (.string src) → w1.cell? ⟨pt, 0, none⟩ = some (.string dst) →
      Calls Try.prog 48 #[.pointer (some ⟨pd, 0, none⟩), .pointer (some ⟨pn, 0, none⟩), .pointer (some ⟨pt, 0, none⟩)] w1 (Left fun k w' => k = kk ∧ Turn [] w1 w')) :
    Calls Try.prog 27 #[theDisk b, .string src, .string dst] w (Left (Counted w base b S s kk)) := by
  refine rename_met base b S s src dst w _ hR hr ?_
  intro w1 hR1 t1 h1 h2 h3
  refine (hcl w1 _ _ _ hR1 h1 h2 h3).mono ?_
  rintro e w' ⟨k, rfl, rfl, t⟩
  exact ⟨k, rfl, rfl, hR1.new t, t1.trans (t.mono (by simp))⟩

theorem rename_lk (base b m : Nat) (src dst : ByteArray) (w : World) (h : Lk w base b m) (hm : m < 900) (hl : src.size ≤ 100) (hl2 : dst.size ≤ 100) :
    Calls Try.prog 27 #[theDisk b, .string src, .string dst] w fun e w' => (∃ k, e = .returned (.int .i64 k)) ∧ Lk w' base b (m + 1) ∧ Below base w w' := by
  obtain ⟨fs, ca, hD, hca0, hca1, hlen, hfs⟩ := h
  have hl3 : src.size ≤ maxLen := by unfold maxLen; omega
  have hl4 : dst.size ≤ maxLen := by unfold maxLen; omega
  have hD0 := hD
  obtain ⟨h0, S, s, hR, hs, hv, hc⟩ := hD
  have hdone : ∀ kk k w', Counted w base b S s kk k w' → (∃ k', (.returned (.int .i64 k) : Ending) = .returned (.int .i64 k')) ∧ Lk w' base b (m + 1) ∧ Below base w w' := by
    intro kk k w' hk
    obtain ⟨h1, h2⟩ := dk_counted h0 hR hs hv hc (by omega) hk
    exact ⟨⟨k, rfl⟩, ⟨fs, ca + 1, h1, by omega, by omega, by omega, hfs⟩, h2⟩
  cases hf : S.files.find? (named src.data.toList) with
  | none =>
    refine (rename_ref base b S s src dst 3 w hR hc.runs fun w1 pd pn pt hR1 h1 h2 h3 => rename_clo_none pd pn pt base b _ _ src dst w1 hR1 h1 h2 h3 hf hl3).mono ?_
    rintro e w' ⟨k, rfl, hk⟩
    exact hdone _ _ _ hk
  | some f =>
    cases hne : dst.toList.isEmpty with
    | true =>
      obtain rfl := name_nil hne
      refine (rename_ref base b S s src ⟨#[]⟩ 1 w hR hc.runs fun w1 pd pn pt hR1 h1 h2 h3 => rename_clo_arg pd pn pt base b _ _ src f w1 hR1 h1 h2 h3 hf hl3).mono ?_
      rintro e w' ⟨k, rfl, hk⟩
      exact hdone _ _ _ hk
    | false =>
      by_cases hsd : src = dst
      · subst hsd
        refine (rename_ref base b S s src src 0 w hR hc.runs fun w1 pd pn pt hR1 h1 h2 h3 => rename_clo_same pd pn pt base b _ _ src f w1 hR1 h1 h2 h3 hf hne hl3).mono ?_
        rintro e w' ⟨k, rfl, hk⟩
        exact hdone _ _ _ hk
      · have hnd : src.data.toList ≠ dst.data.toList := by
          intro e
          refine hsd ?_
          cases src; cases dst
          simp only [ByteArray.mk.injEq]
          simp only at e
          exact Array.toList_inj.1 e
        have hst : (src.toList == dst.toList) = false := by
          rw [ByteArray.toList_eq, ByteArray.toList_eq]
          simpa using hnd
        have hfv : fs.find? (isName src.data.toList) = some (f.name, f.bytes, f.sy) := by
          rw [← hv, find_view, hf]; rfl
        have hfm : (f.name, f.bytes, f.sy) ∈ fs := List.mem_of_find?_eq_some hfv
        refine (rename_dk base b fs f.name f.bytes f.sy 100000 ca [] src dst w hD0 (by omega) hfv hne hst hnd hl3 hl4 (by rw [tot_zero (fun x hx => (hfs x hx).2.2)]; omega) (by unfold maxLen; omega)).mono ?_
        rintro e w' ⟨rfl, h1, h2⟩
        refine ⟨⟨0, rfl⟩, ⟨_, ca + 1, h1, by omega, by omega, ?_, ?_⟩, h2⟩
        · have q1 := List.length_filter_le (fun x => !isName dst.data.toList x) fs
          have q2 := List.length_filter_le (fun x => !isName src.data.toList x) (fs.filter fun x => !isName dst.data.toList x)
          simp only [List.length_append, List.length_cons, List.length_nil]
          omega
        · intro x hx
          rcases List.mem_append.1 hx with hx | hx
          · exact hfs x (List.mem_filter.1 (List.mem_filter.1 hx).1).1
          · rw [List.mem_singleton] at hx
            subst hx
            exact ⟨name_ne_nil hne, hl2, (hfs _ hfm).2.2⟩

theorem remove_met (base b : Nat) (S : DM) (s : DS) (name : ByteArray) (w : World) (R : Int → World → Prop) (hR : Rep w base b S s) (hr : Runs S)
    (hcl : ∀ w1, Rep w1 base b { S with ca := S.ca + 1 } { s with ca := S.ca + 1 } → Turn [b] w w1 → w1.cell? ⟨w.heap.size, 0, none⟩ = some (theDisk b) → w1.cell? ⟨w.heap.size + 1, 0, none⟩ = some (.string name) → w.heap.size ≤ w1.heap.size →
      Calls Try.prog 51 #[.pointer (some ⟨w.heap.size, 0, none⟩), .pointer (some ⟨w.heap.size + 1, 0, none⟩)] w1 (Left R)) :
    Calls Try.prog 29 #[theDisk b, .string name] w (Left R) := by
  have hbl := hR.disk.lt
  have hw : ∀ W, W = (w.alloc (.cells #[theDisk b] 28)).alloc (.cells #[.string name] 9) →
      Calls Try.prog 40 #[theDisk b, .func (.func 51) #[] #[.pointer (some ⟨w.heap.size, 0, none⟩), .pointer (some ⟨w.heap.size + 1, 0, none⟩)]] W (Left R) := by
    rintro W rfl
    have t0 : Turn [] w ((w.alloc (.cells #[theDisk b] 28)).alloc (.cells #[.string name] 9)) := ((Turn.refl [] w).alloc _).alloc _
    refine write_run base b _ _ S s _ _ (hR.new t0) hr.dw hr.cr hr.fail hr.ca0 hr.ca1 hr.fl (enters_of Try.func51 (by kernel_rfl) rfl) ?_
    intro w1 hR1 t1
    obtain ⟨hpd, hpn, hs1⟩ := create_boxes t1 hbl
    exact hcl w1 hR1 ((t0.mono (by simp)).trans t1) hpd hpn hs1
  have hmf := hmf
  unfold theDisk at hw
  unfold theDisk
  clear hR hr hcl
  go_enter Try.func29, Try.ntmps29
  go_wp2_with fail
  refine (hw _ rfl).mono ?_
  rintro e w' ⟨k, rfl, hk⟩
  have HK := Lib.hid hk
  clear hk hw
  go_wp2
  go_ret
  exact ⟨k, rfl, HK.out⟩

theorem remove_lk (base b m : Nat) (name : ByteArray) (w : World) (h : Lk w base b m) (hm : m < 900) (hl : name.size ≤ 100) :
    Calls Try.prog 29 #[theDisk b, .string name] w fun e w' => (∃ k, e = .returned (.int .i64 k)) ∧ Lk w' base b (m + 1) ∧ Below base w w' := by
  obtain ⟨fs, ca, hD, hca0, hca1, hlen, hfs⟩ := h
  have hl3 : name.size ≤ maxLen := by unfold maxLen; omega
  obtain ⟨h0, S, s, hR, hs, hv, hc⟩ := hD
  have ht : total S.files = 0 := by rw [← tot_view, hv]; exact tot_zero (fun x hx => (hfs x hx).2.2)
  cases hf : S.files.find? (named name.data.toList) with
  | none =>
    refine (remove_met base b S s name w (Counted w base b S s 3) hR hc.runs fun w1 hR1 t1 h1 h2 _ => ?_).mono ?_
    · refine (remove_clo_none _ _ base b _ _ name w1 hR1 h1 h2 hf hl3).mono ?_
      rintro e w' ⟨k, rfl, rfl, t⟩
      exact ⟨3, rfl, rfl, hR1.new t, t1.trans (t.mono (by simp))⟩
    · rintro e w' ⟨k, rfl, hk⟩
      obtain ⟨h1, h2⟩ := dk_counted h0 hR hs hv hc (by omega) hk
      exact ⟨⟨k, rfl⟩, ⟨fs, ca + 1, h1, by omega, by omega, by omega, hfs⟩, h2⟩
  | some f =>
    refine (remove_met base b S s name w (fun k w' => ∃ s', Rep w' base b { S with ca := S.ca + 1, files := without name.data.toList S.files } s' ∧ s'.sz = total (without name.data.toList S.files) ∧ Turn (foot b S) w w') hR hc.runs fun w1 hR1 t1 h1 h2 h3 => ?_).mono ?_
    · refine (remove_clo_some _ _ base b _ _ name f w1 hR1 h1 h2 hf hl3 hs (by show total S.files < _; omega) (Nat.le_trans h0 h3)).mono ?_
      rintro e w' ⟨k, rfl, rfl, s', g1, g2, g3⟩
      exact ⟨0, rfl, s', g1, g2, (t1.mono (by intro x hx; simp at hx; subst hx; simp [foot])).trans g3⟩
    · rintro e w' ⟨k, rfl, s', g1, g2, g3⟩
      refine ⟨⟨k, rfl⟩, ⟨_, ca + 1, ⟨Nat.le_trans h0 g3.size, _, s', g1, g2, map_without _ _, ⟨hc.cap, hc.cr, by show S.ca + 1 = _; rw [hc.ca], by omega, by omega, hc.dw, hc.fail, hc.keep⟩⟩, by omega, by omega, ?_, ?_⟩, below_turn hR h0 g3⟩
      · rw [hv]
        have := List.length_filter_le (fun x => !isName name.data.toList x) fs
        omega
      · rw [hv]
        intro x hx
        exact hfs x (List.mem_filter.1 hx).1

end Go.Proofs.Ytloccomlnnndoaa
