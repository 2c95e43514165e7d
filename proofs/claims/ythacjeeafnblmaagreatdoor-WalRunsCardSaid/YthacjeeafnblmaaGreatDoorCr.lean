/- The other calls of the code's disk, against the document's disk. Numbers and types by name. -/
import Derived.Test.YthacjeeafnblmaaGreatDoorCc
/- The writing calls of the code's disk, against the document's disk. Numbers and types by name. -/
namespace Go.Proofs.YthacjeeafnblmaaGreatDoor
open Go.RowKit Go.Maps Go.Sort Go.WideMaps

theorem box_old {w : World} {p : Nat} {v : Value} (h : w.cell? ⟨p, 0, none⟩ = some v) (o : Obj) : (w.alloc o).cell? ⟨p, 0, none⟩ = some v :=
  cell_turn ((Turn.refl [] w).alloc o) (by simp) h
theorem box_new (w : World) (v : Value) (t : TypeId) (p : Nat) (hp : p = w.heap.size) : (w.alloc (.cells #[v] t)).cell? ⟨p, 0, none⟩ = some v := by
  subst hp
  exact box_at (Turn.refl [] _) (by simp)

theorem sync_via (b : Nat) (name : ByteArray) (w : World) (R : Int → World → Prop)
    (hw : ∀ W, W = (w.alloc (.cells #[theDisk b] 27)).alloc (.cells #[.string name] 9) →
      Calls Tryz.prog 57 #[theDisk b, .func (.func 67) #[] #[.pointer (some ⟨w.heap.size, 0, none⟩), .pointer (some ⟨w.heap.size + 1, 0, none⟩)]] W (Left R)) :
    Calls Tryz.prog 35 #[theDisk b, .string name] w (Left R) := by
  have hmf := hmf
  unfold theDisk at hw
  unfold theDisk
  go_enter Tryz.func35, Tryz.ntmps35
  go_wp2_with fail
  refine (hw _ rfl).mono ?_
  rintro e w' ⟨k, rfl, hk⟩
  have HK := Lib.hid hk
  clear hk hw
  go_wp2
  go_ret
  exact ⟨k, rfl, HK.out⟩

theorem cut_via (b : Nat) (name : ByteArray) (n : Int) (w : World) (R : Int → World → Prop)
    (hw : ∀ W, W = ((w.alloc (.cells #[theDisk b] 27)).alloc (.cells #[.string name] 9)).alloc (.cells #[.int .i64 n] 3) →
      Calls Tryz.prog 57 #[theDisk b, .func (.func 66) #[] #[.pointer (some ⟨w.heap.size, 0, none⟩), .pointer (some ⟨w.heap.size + 1, 0, none⟩), .pointer (some ⟨w.heap.size + 1 + 1, 0, none⟩)]] W (Left R)) :
    Calls Tryz.prog 34 #[theDisk b, .string name, .int .i64 n] w (Left R) := by
  have hmf := hmf
  unfold theDisk at hw
  unfold theDisk
  go_enter Tryz.func34, Tryz.ntmps34
  go_wp2_with fail
  refine (hw _ rfl).mono ?_
  rintro e w' ⟨k, rfl, hk⟩
  have HK := Lib.hid hk
  clear hk hw
  go_wp2
  go_ret
  exact ⟨k, rfl, HK.out⟩

/-- What a writing call of the code leaves. -/
def Acted (w : World) (base b : Nat) (M : MD) (F : List Nat) (op : Opn) : Int → World → Prop := fun k w' => k = (M.act op).1 ∧ Next w w' base b (M.act op).2 F

theorem create_cd (base b : Nat) (M : MD) (F : List Nat) (name : ByteArray) (w : World) (h : CD w base b M F) (hl : Lim M) (hz : name.size ≤ 1000000) :
    Calls Tryz.prog 28 #[theDisk b, .string name] w (Left (Acted w base b M F (opCreate name.data.toList))) := by
  have hn : ∀ j, w.heap.size ≤ j → j ∉ F := fun j hj hm => by have := (h.lt j hm).2; omega
  refine create_via b name w _ ?_
  rintro W rfl
  have t0 : Turn [] w ((w.alloc (.cells #[theDisk b] 27)).alloc (.cells #[.string name] 9)) := ((Turn.refl [] w).alloc _).alloc _
  refine (met_any base b _ _ M F (opCreate name.data.toList) _ (h.new t0) hl (enters_of Tryz.func58 (by kernel_rfl) rfl) ?_).mono ?_
  · intro d w1 h1 t1
    exact create_cc _ _ base b { M with n := M.n + 1, dw := d } F name w1 h1 hl.fs (cell_turn t1 (hn _ (by omega)) (box_new _ _ _ _ (by simp))) (cell_turn t1 (hn _ (Nat.le_refl _)) (box_old (box_new _ _ _ _ rfl) _)) hz
  · rintro e w' ⟨k, rfl, hk, hN⟩
    exact ⟨k, rfl, hk, hN.after (t0.mono (by simp))⟩

theorem sync_cd (base b : Nat) (M : MD) (F : List Nat) (name : ByteArray) (w : World) (h : CD w base b M F) (hl : Lim M) (hz : name.size ≤ 1000000) :
    Calls Tryz.prog 35 #[theDisk b, .string name] w (Left (Acted w base b M F (opSync name.data.toList))) := by
  have hn : ∀ j, w.heap.size ≤ j → j ∉ F := fun j hj hm => by have := (h.lt j hm).2; omega
  refine sync_via b name w _ ?_
  rintro W rfl
  have t0 : Turn [] w ((w.alloc (.cells #[theDisk b] 27)).alloc (.cells #[.string name] 9)) := ((Turn.refl [] w).alloc _).alloc _
  refine (met_any base b _ _ M F (opSync name.data.toList) _ (h.new t0) hl (enters_of Tryz.func67 (by kernel_rfl) rfl) ?_).mono ?_
  · intro d w1 h1 t1
    exact sync_cc _ _ base b { M with n := M.n + 1, dw := d } F name w1 h1 (cell_turn t1 (hn _ (Nat.le_refl _)) (box_old (box_new _ _ _ _ rfl) _)) (cell_turn t1 (hn _ (by omega)) (box_new _ _ _ _ (by simp))) hz
  · rintro e w' ⟨k, rfl, hk, hN⟩
    exact ⟨k, rfl, hk, hN.after (t0.mono (by simp))⟩

theorem cut_cd (base b : Nat) (M : MD) (F : List Nat) (name : ByteArray) (n : Int) (w : World) (h : CD w base b M F) (hl : Lim M) (hz : name.size ≤ 1000000) :
    Calls Tryz.prog 34 #[theDisk b, .string name, .int .i64 n] w (Left (Acted w base b M F (opCut name.data.toList n))) := by
  have hn : ∀ j, w.heap.size ≤ j → j ∉ F := fun j hj hm => by have := (h.lt j hm).2; omega
  refine cut_via b name n w _ ?_
  rintro W rfl
  have t0 : Turn [] w (((w.alloc (.cells #[theDisk b] 27)).alloc (.cells #[.string name] 9)).alloc (.cells #[.int .i64 n] 3)) := (((Turn.refl [] w).alloc _).alloc _).alloc _
  refine (met_any base b _ _ M F (opCut name.data.toList n) _ (h.new t0) hl (enters_of Tryz.func66 (by kernel_rfl) rfl) ?_).mono ?_
  · intro d w1 h1 t1
    exact cut_cc _ _ _ base b { M with n := M.n + 1, dw := d } F name n w1 h1 hl.fs (cell_turn t1 (hn _ (Nat.le_refl _)) (box_old (box_old (box_new _ _ _ _ rfl) _) _)) (cell_turn t1 (hn _ (by omega)) (box_old (box_new _ _ _ _ (by simp)) _)) (cell_turn t1 (hn _ (by omega)) (box_new _ _ _ _ (by simp))) hz
  · rintro e w' ⟨k, rfl, hk, hN⟩
    exact ⟨k, rfl, hk, hN.after (t0.mono (by simp))⟩

theorem append_cd (base b : Nat) (M : MD) (F : List Nat) (name : ByteArray) (vb : Value) (l : List UInt8) (w : World) (h : CD w base b M F) (hl : Lim M) (hz : name.size ≤ 1000000) (hr : Reads w vb (bv l)) (hll : l.length ≤ 50000000)
    (hvb : l ≠ [] → ∀ a n c, vb = .slice (some a) n c → a.block ∉ F) :
    Calls Tryz.prog 29 #[theDisk b, .string name, vb] w (Left (Acted w base b M F (opAppend name.data.toList l))) := by
  have hn : ∀ j, w.heap.size ≤ j → j ∉ F := fun j hj hm => by have := (h.lt j hm).2; omega
  obtain ⟨ao, c, rfl⟩ : ∃ ao c, vb = .slice ao l.length c := by obtain ⟨ao, c, rfl, _⟩ := hr; exact ⟨ao, c, by rw [bv_length]⟩
  refine append_via b name ao l.length c w _ ?_
  rintro W rfl
  have t0 : Turn [] w (((w.alloc (.cells #[theDisk b] 27)).alloc (.cells #[.string name] 9)).alloc (.cells #[.slice ao l.length c] 24)) := (((Turn.refl [] w).alloc _).alloc _).alloc _
  refine (met_any base b _ _ M F (opAppend name.data.toList l) _ (h.new t0) hl (enters_of Tryz.func60 (by kernel_rfl) rfl) ?_).mono ?_
  · intro d w1 h1 t1
    have hr1 : Reads w1 (.slice ao l.length c) (bv l) := (hr.turn t0 (by simp)).turn t1 (fun hne => hvb (by rintro rfl; exact hne rfl))
    exact append_cc _ _ _ base b { M with n := M.n + 1, dw := d } F name _ l w1 h1 hl.fs (cell_turn t1 (hn _ (Nat.le_refl _)) (box_old (box_old (box_new _ _ _ _ rfl) _) _)) (cell_turn t1 (hn _ (by omega)) (box_old (box_new _ _ _ _ (by simp)) _)) (cell_turn t1 (hn _ (by omega)) (box_new _ _ _ _ (by simp))) (hn _ (Nat.le_refl _)) (hn _ (by omega)) hz hr1 hll
  · rintro e w' ⟨k, rfl, hk, hN⟩
    exact ⟨k, rfl, hk, hN.after (t0.mono (by simp))⟩

end Go.Proofs.YthacjeeafnblmaaGreatDoor

namespace Go.Proofs.YthacjeeafnblmaaGreatDoor
open Go.RowKit Go.Maps Go.Sort Go.WideMaps

def MD.read (M : MD) (k : List UInt8) : List UInt8 × Int :=
  if M.dw = true then ([], 7) else match M.fs.find? (isName k) with
  | none => ([], 3)
  | some x => (x.2.1, 0)

theorem read_cd (base b : Nat) (M : MD) (F : List Nat) (name : ByteArray) (w : World) (h : CD w base b M F) (hl : LimF M.fs) (hz : name.size ≤ 1000000) :
    Calls Tryz.prog 32 #[theDisk b, .string name] w fun e w' => ∃ ao c, e = .returned (.tuple #[.slice ao (M.read name.data.toList).1.length c, .int .i64 (M.read name.data.toList).2]) ∧
      Bs w' w.heap.size (.slice ao (M.read name.data.toList).1.length c) (M.read name.data.toList).1.length (M.read name.data.toList).1 ∧ Turn [] w w' := by
  obtain ⟨h0, hf, S, s, hR, hs, hp, hP, rfl⟩ := h
  have hz2 : name.size ≤ maxLen := by unfold maxLen; omega
  unfold MD.read
  by_cases hdw : M.dw = true
  · rw [if_pos hdw]
    refine (read_down base b S s _ w hR (by rw [hP.dw]; exact hdw)).mono ?_
    rintro e w' ⟨rfl, rfl⟩
    exact ⟨none, 0, rfl, ⟨rfl, World.ownsRow_nil _ _ _ _⟩, Turn.refl _ _⟩
  · rw [if_neg hdw]
    rw [Bool.not_eq_true] at hdw
    rw [find_both hR hp]
    cases e : S.files.find? (named name.data.toList) with
    | none =>
      refine (read_none base b S s name w hR (by rw [hP.dw]; exact hdw) e hz2).mono ?_
      rintro e w' ⟨rfl, rfl⟩
      exact ⟨none, 0, rfl, ⟨rfl, World.ownsRow_nil _ _ _ _⟩, Turn.refl _ _⟩
    | some f =>
      simp only [Option.map_some]
      have h1 := le_total (find_mem e).1
      have h2 := tot_both hp
      have h3 := hl.tot
      refine (read_ok base b S s name f w hR (by rw [hP.dw]; exact hdw) e hz2 (by omega)).mono ?_
      rintro e w' ⟨ao, c, rfl, hown, hg⟩
      exact ⟨ao, c, rfl, ⟨rfl, hown⟩, Turn.of_none hg⟩

theorem calls_cd (base b : Nat) (M : MD) (F : List Nat) (w : World) (h : CD w base b M F) :
    Calls Tryz.prog 49 #[theDisk b] w fun e w' => e = .returned (.int .i64 M.n) ∧ w = w' := by
  obtain ⟨h0, hf, S, s, hR, hs, hp, hP, rfl⟩ := h
  rw [← hP.ca]
  exact calls_rep base b S s w hR
theorem down_cd (base b : Nat) (M : MD) (F : List Nat) (w : World) (h : CD w base b M F) :
    Calls Tryz.prog 50 #[theDisk b] w fun e w' => e = .returned (.bool M.dw) ∧ w = w' := by
  obtain ⟨h0, hf, S, s, hR, hs, hp, hP, rfl⟩ := h
  rw [← hP.dw]
  exact down_rep base b S s w hR

/-- What stands in a row of files. -/
def ToldE (w : World) (base : Nat) (row : Option Nat) (fs : List Ent) (xs : List Value) : Prop :=
  xs.length = fs.length * 3 ∧ ∀ j f, fs[j]? = some f → ∃ ao c, xs[j * 3]? = some (encStr f.1) ∧ xs[j * 3 + 1]? = some (.slice ao f.2.1.length c) ∧ xs[j * 3 + 2]? = some (.int .i64 (f.2.2 : Nat)) ∧
    w.ownsRow base 5 1 (.slice ao f.2.1.length c) f.2.1.length (bv f.2.1) ∧ ∀ g, (Value.slice ao f.2.1.length c).ownBlock = some g → row ≠ some g

theorem leB_trans (a b c : List UInt8) (h1 : leB a b = true) (h2 : leB b c = true) : leB a c = true := by
  simp only [leB, decide_eq_true_eq] at *; exact List.le_trans h1 h2
theorem sorted_names {w : World} {base b : Nat} {S : DM} {s : DS} {fs : List Ent} (_hR : Rep w base b S s) (hp : (S.files.map view).Perm fs) (hf : Rising fs) : sortedNames S.files = fs.map (·.1) := by
  have h1 : (S.files.map (·.name)).Perm (fs.map (·.1)) := by
    have := hp.map (fun x : Ent => x.1)
    rwa [List.map_map] at this
  unfold sortedNames
  rw [mergeSort_of_perm h1]
  refine List.mergeSort_of_pairwise ?_
  exact hf.names.imp fun h => by simp only [leB, decide_eq_true_eq]; exact List.le_of_lt h
theorem sorted_files {w : World} {base b : Nat} {S : DM} {s : DS} {fs : List Ent} (hR : Rep w base b S s) (hp : (S.files.map view).Perm fs) (hf : Rising fs) : ((sortedNames S.files).map (fileOf S.files)).map view = fs := by
  rw [sorted_names hR hp hf, List.map_map, List.map_map]
  conv => rhs; rw [← List.map_id fs]
  apply List.map_congr_left
  intro x hx
  have h1 := find_both hR hp x.1
  have h2 := find_self hf hx
  rw [h2] at h1
  simp only [Function.comp, fileOf, id]
  cases e : S.files.find? (named x.1) with
  | none => rw [e] at h1; cases h1
  | some f =>
    rw [e] at h1
    simp only [Option.map_some, Option.some.injEq] at h1
    exact h1.symm

theorem files_cd (base b : Nat) (M : MD) (F : List Nat) (w : World) (h : CD w base b M F) (hl : LimF M.fs) :
    Calls Tryz.prog 48 #[theDisk b] w fun e w' => ∃ ao c xs, e = .returned (.slice ao M.fs.length c) ∧ w'.ownsRow w.heap.size 92 3 (.slice ao M.fs.length c) M.fs.length xs ∧
      ToldE w' w.heap.size (Value.slice ao M.fs.length c).ownBlock M.fs xs ∧ Turn [] w w' := by
  obtain ⟨h0, hf, S, s, hR, hs, hp, hP, rfl⟩ := h
  have h2 := tot_both hp
  have h3 := hl.tot
  have h4 := len_both hp
  have h5 := hl.len
  have h6 := sorted_files hR hp hf.rising
  rw [h4]
  refine (files_any base b S s w hR (by omega) (by omega) (fun f hfm => by have := hf.name _ (hp.mem_iff.1 (List.mem_map.2 ⟨f, hfm, rfl⟩)); simp only [view] at this; unfold maxLen; omega)).mono ?_
  rintro e w' ⟨ao, c, xs, rfl, hown, hT, hg⟩
  refine ⟨ao, c, xs, rfl, hown, ?_, Turn.of_none hg⟩
  rw [← h6]
  obtain ⟨hT1, hT2⟩ := hT
  refine ⟨by rw [List.length_map]; exact hT1, fun j f hj => ?_⟩
  rw [List.getElem?_map] at hj
  cases e : ((sortedNames S.files).map (fileOf S.files))[j]? with
  | none => rw [e] at hj; cases hj
  | some g =>
    rw [e] at hj
    simp only [Option.map_some, Option.some.injEq] at hj
    subst hj
    exact hT2 j g e

theorem upd_res {fs : List Ent} (h : Rising fs) (keep : List Int) {k : Nat} (hk : k < fs.length) : updE ((fs.map (·.1)).getD k []) (survE (keep.getD k 0)) (resE keep fs k) = resE keep fs (k + 1) := by
  have hnm : (fs.map (·.1)).getD k [] = fs[k].1 := by
    rw [List.getD_eq_getElem?_getD, List.getElem?_map, List.getElem?_eq_getElem hk]; rfl
  rw [hnm]
  apply List.ext_getElem?
  intro i
  unfold updE resE
  rw [List.getElem?_map, List.getElem?_mapIdx, List.getElem?_mapIdx]
  by_cases hi : i < fs.length
  · rw [List.getElem?_eq_getElem hi]
    simp only [Option.map_some, Option.some.injEq]
    have hne : isName fs[k].1 fs[i] = true → i = k := fun e => by
      have e2 : fs[i].1 = fs[k].1 := isName_iff.1 e
      rcases Nat.lt_trichotomy i k with hlt | he | hlt
      · have := List.pairwise_iff_getElem.1 h i k hi hk hlt
        rw [e2] at this
        exact absurd this (List.lt_irrefl _)
      · exact he
      · have := List.pairwise_iff_getElem.1 h k i hk hi hlt
        rw [e2] at this
        exact absurd this (List.lt_irrefl _)
    have hnm2 : ∀ q, isName fs[k].1 (survE q fs[i]) = isName fs[k].1 fs[i] := fun q => rfl
    by_cases h1 : i < k
    · rw [if_pos h1, hnm2, if_neg (fun e => by have := hne e; omega), if_pos (show i < k + 1 by omega)]
    · rw [if_neg h1]
      by_cases h2 : i = k
      · subst h2
        rw [if_pos (isName_iff.2 rfl), if_pos (show i < i + 1 by omega)]
      · rw [if_neg (fun e => h2 (hne e)), if_neg (show ¬ i < k + 1 by omega)]
  · rw [List.getElem?_eq_none (by omega)]; rfl

theorem resF_view {files : List FM} {fs : List Ent} (hp : (files.map view).Perm fs) (h : Rising fs) (keep : List Int) (k : Nat) (hk : k ≤ fs.length) : ((resF keep (fs.map (·.1)) files k).map view).Perm (resE keep fs k) := by
  induction k with
  | zero =>
    have : resE keep fs 0 = fs := by
      unfold resE
      apply List.ext_getElem?
      intro i
      rw [List.getElem?_mapIdx]
      cases fs[i]? <;> simp
    rw [this]
    exact hp
  | succ k ih =>
    rw [resF, map_mapF _ (survive (keep.getD k 0)) (survE (keep.getD k 0)) (fun _ => rfl), ← upd_res h keep (by omega)]
    exact (ih (by omega)).map _

theorem restart_cd (base b : Nat) (M : MD) (F : List Nat) (cap cr : Int) (dn : Bool) (fl kp : Value) (zs ks : List Int) (w : World) (h : CD w base b M F) (hl : Lim M) (hf : Reads w fl (iv zs)) (hk : Reads w kp (iv ks)) (hfb : zs ≠ [] → ∀ a n c, fl = .slice (some a) n c → a.block ∉ F) (hkb : ks ≠ [] → ∀ a n c, kp = .slice (some a) n c → a.block ∉ F)
    (hz : zs.length < 900000) (hz2 : ks.length < 900000) :
    Calls Tryz.prog 15 #[theDisk b, .agg #[.int .i64 cap, fl, .int .i64 cr, .bool dn, kp]] w fun e w' => e = .returned (.tuple #[]) ∧ Next w w' base b (M.restart cap cr dn zs ks) F := by
  obtain ⟨h0, hfit, S, s, hR, hs, hp, hP, rfl⟩ := h
  have h2 := tot_both hp
  have h3 := hl.fs.tot
  have h4 := len_both hp
  have h5 := hl.fs.len
  have hkp := hl.keep
  have hsn := sorted_names hR hp hfit.rising
  refine (restart_any_at base b S s cap cr dn fl kp zs ks w hR hs (by omega) (by omega) (by rw [hP.keep]; omega) hf hk (fun hz a n c e hm => hfb hz a n c e (mem_footAll.2 (.inl hm))) (fun hz a n c e hm => hkb hz a n c e (mem_footAll.2 (.inl hm))) (by omega) (by omega) h0 (fun f hfm => by have := hfit.name _ (hp.mem_iff.1 (List.mem_map.2 ⟨f, hfm, rfl⟩)); simp only [view] at this; unfold maxLen; omega)).mono ?_
  rintro e w' ⟨rfl, s', fr, kr, hnew, hR', hs', t⟩
  rw [hsn, hP.keep] at hR' hs'
  have hll : (M.fs.map (·.1)).length = M.fs.length := by simp
  rw [hll] at hR' hs'
  refine ⟨rfl, _, ⟨Nat.le_trans h0 t.size, hfit.res M.keep M.fs.length, _, s', hR', hs', resF_view hp hfit.rising M.keep _ (Nat.le_refl _), ⟨rfl, rfl, rfl, rfl, rfl, rfl, rfl, by show (0 : Int) ≤ 0; omega⟩, rfl⟩, fun k hkk => ?_, t.mono fun k hk => mem_footAll.2 (.inl hk)⟩
  rcases mem_footAll.1 hkk with hm | hm | hm
  · refine .inl (mem_footAll.2 (.inl ?_))
    have hm2 : k ∈ b :: (S.mp.toList ++ (resF M.keep (M.fs.map (·.1)) S.files M.fs.length).flatMap FM.foot) := hm
    rw [resF_foot] at hm2
    exact hm2
  · exact .inr (hnew.1 k hm)
  · exact .inr (hnew.2 k hm)

def MD.new (cap cr : Int) (dn : Bool) (fail keep : List Int) : MD := { cap := cap, cr := cr, dn := dn, fail := fail, keep := keep, fs := [], n := 0, dw := false }

theorem new_cd (cap cr : Int) (dn : Bool) (fl kp : Value) (zs ks : List Int) (w : World) (hf : Reads w fl (iv zs)) (hk : Reads w kp (iv ks)) (hz : zs.length < 900000) (hz2 : ks.length < 900000) :
    Calls Tryz.prog 9 #[.agg #[.int .i64 cap, fl, .int .i64 cr, .bool dn, kp]] w fun e w' => ∃ b F, e = .returned (theDisk b) ∧ CD w' w.heap.size b (MD.new cap cr dn zs ks) F ∧ Turn [] w w' := by
  refine (new_any cap cr dn fl kp zs ks w hf hk (by omega) (by omega)).mono ?_
  rintro e w' ⟨b, ao, c, ao', c', rfl, hb, hd, h1, h2, hg⟩
  have el : (zs.mergeSort leI).length = zs.length := by simp
  refine ⟨b, _, rfl, ⟨hg.size, Fit.nil, { cap := cap, cr := cr, ca := 0, dn := dn, dw := false, fail := zs.mergeSort leI, keep := ks, files := [], mp := none, fr := (Value.slice ao zs.length c).ownBlock, kr := (Value.slice ao' ks.length c').ownBlock }, { cap := cap, fl := .slice ao zs.length c, cr := cr, dn := dn, kp := .slice ao' ks.length c', fs := .map none, sz := 0, ca := 0, dw := false }, ?_, rfl, List.Perm.refl _, ⟨rfl, rfl, rfl, rfl, rfl, rfl, rfl, by show (0 : Int) ≤ 0; omega⟩, rfl⟩, Turn.of_none hg⟩
  exact {
    disk := hd
    cap := rfl
    cr := rfl
    ca := rfl
    dn := rfl
    dw := rfl
    fs := rfl
    lists := ⟨ao, c, ao', c', by rw [el], rfl, by rw [el]; exact owns_base h1 (by omega), owns_base h2 (by omega), by rw [el], rfl,
      (fun g hg hm => by have h3 := (h1.lt g hg).1; simp [foot] at hm; omega), (fun g hg hm => by have h3 := (h2.lt g hg).1; simp [foot] at hm; omega)⟩
    mapN := fun _ => rfl
    mapS := fun m hm => by cases hm
    files := fun f hf => by cases hf
    apart1 := fun m hm => by cases hm
    apart2 := fun f hf => by cases hf
    apart3 := List.Pairwise.nil
    low := fun k hk => by simp [foot] at hk; omega
    names := List.nodup_nil
    sorted := sorted_leI zs }

end Go.Proofs.YthacjeeafnblmaaGreatDoor
