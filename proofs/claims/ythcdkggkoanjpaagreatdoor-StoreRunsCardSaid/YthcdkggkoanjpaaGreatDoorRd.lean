/- The reference's disk in memory; gate, told, at. Numbers and types by name. -/
import Derived.Test.YthcdkggkoanjpaaGreatDoorRea
import Derived.Test.YthcdkggkoanjpaaGreatDoorCut
import Derived.Test.YthcdkggkoanjpaaGreatDoorClo
import Derived.Test.YthcdkggkoanjpaaGreatDoorCd
import Derived.Test.YthcdkggkoanjpaaGreatDoorAp2
import Derived.Maps.OwnSet
import Derived.WalkSpells
import Derived.StillTactics
namespace Go.Proofs.YthcdkggkoanjpaaGreatDoor
open Go.RowKit Go.Maps Go.Sort Go.WideMaps
def MD.read (M : MD) (k : List UInt8) : List UInt8 × Int :=
  if M.dw = true then ([], 7) else match M.fs.find? (isName k) with
  | none => ([], 3)
  | some x => (x.2.1, 0)
theorem read_cd (base b : Nat) (M : MD) (F : List Nat) (name : ByteArray) (w : World) (h : CD w base b M F) (hl : LimF M.fs) (hz : name.size ≤ 1000000) :
    Calls Tryz.prog 32 #[theDisk b, .string name] w fun e w' => ∃ ao c, e = .returned (.tuple #[.slice ao (M.read name.data.toList).1.length c, .int .i64 (M.read name.data.toList).2]) ∧
      Bs w' w.heap.size (.slice ao (M.read name.data.toList).1.length c) (M.read name.data.toList).1.length (M.read name.data.toList).1 ∧ Turn [] w w' := by
  obtain ⟨h0, hf, S, s, hR, hs, hp, hP, rfl⟩ := h
  have hz2 : name.size ≤ maxLen := by unfold maxLen; omega
  unfold MD.read
  by_cases hdw : M.dw = true
  · rw [if_pos hdw]
    refine (read_down base b S s _ w hR (by rw [hP.dw]; exact hdw)).mono ?_
    rintro e w' ⟨rfl, rfl⟩
    exact ⟨none, 0, rfl, ⟨rfl, World.ownsRow_nil _ _ _ _⟩, Turn.refl _ _⟩
  · rw [if_neg hdw]
    rw [Bool.not_eq_true] at hdw
    rw [find_both hR hp]
    cases e : S.files.find? (named name.data.toList) with
    | none =>
      refine (read_none base b S s name w hR (by rw [hP.dw]; exact hdw) e hz2).mono ?_
      rintro e w' ⟨rfl, rfl⟩
      exact ⟨none, 0, rfl, ⟨rfl, World.ownsRow_nil _ _ _ _⟩, Turn.refl _ _⟩
    | some f =>
      simp only [Option.map_some]
      have h1 := le_total (find_mem e).1
      have h2 := tot_both hp
      have h3 := hl.tot
      refine (read_ok base b S s name f w hR (by rw [hP.dw]; exact hdw) e hz2 (by omega)).mono ?_
      rintro e w' ⟨ao, c, rfl, hown, hg⟩
      exact ⟨ao, c, rfl, ⟨rfl, hown⟩, Turn.of_none hg⟩
theorem calls_cd (base b : Nat) (M : MD) (F : List Nat) (w : World) (h : CD w base b M F) :
    Calls Tryz.prog 55 #[theDisk b] w fun e w' => e = .returned (.int .i64 M.n) ∧ w = w' := by
  obtain ⟨h0, hf, S, s, hR, hs, hp, hP, rfl⟩ := h
  rw [← hP.ca]
  exact calls_rep base b S s w hR
theorem down_cd (base b : Nat) (M : MD) (F : List Nat) (w : World) (h : CD w base b M F) :
    Calls Tryz.prog 56 #[theDisk b] w fun e w' => e = .returned (.bool M.dw) ∧ w = w' := by
  obtain ⟨h0, hf, S, s, hR, hs, hp, hP, rfl⟩ := h
  rw [← hP.dw]
  exact down_rep base b S s w hR
def ToldE (w : World) (base : Nat) (row : Option Nat) (fs : List Ent) (xs : List Value) : Prop :=
  xs.length = fs.length * 3 ∧ ∀ j f, fs[j]? = some f → ∃ ao c, xs[j * 3]? = some (encStr f.1) ∧ xs[j * 3 + 1]? = some (.slice ao f.2.1.length c) ∧ xs[j * 3 + 2]? = some (.int .i64 (f.2.2 : Nat)) ∧
    w.ownsRow base 5 1 (.slice ao f.2.1.length c) f.2.1.length (bv f.2.1) ∧ ∀ g, (Value.slice ao f.2.1.length c).ownBlock = some g → row ≠ some g
theorem sorted_names {w : World} {base b : Nat} {S : DM} {s : DS} {fs : List Ent} (_hR : Rep w base b S s) (hp : (S.files.map view).Perm fs) (hf : Rising fs) : sortedNames S.files = fs.map (·.1) := by
  have h1 : (S.files.map (·.name)).Perm (fs.map (·.1)) := by
    have := hp.map (fun x : Ent => x.1)
    rwa [List.map_map] at this
  unfold sortedNames
  rw [mergeSort_of_perm h1]
  refine List.mergeSort_of_pairwise ?_
  exact hf.names.imp fun h => by simp only [leB, decide_eq_true_eq]; exact List.le_of_lt h
theorem sorted_files {w : World} {base b : Nat} {S : DM} {s : DS} {fs : List Ent} (hR : Rep w base b S s) (hp : (S.files.map view).Perm fs) (hf : Rising fs) : ((sortedNames S.files).map (fileOf S.files)).map view = fs := by
  rw [sorted_names hR hp hf, List.map_map, List.map_map]
  conv => rhs; rw [← List.map_id fs]
  apply List.map_congr_left
  intro x hx
  have h1 := find_both hR hp x.1
  have h2 := find_self hf hx
  rw [h2] at h1
  simp only [Function.comp, fileOf, id]
  cases e : S.files.find? (named x.1) with
  | none => rw [e] at h1; cases h1
  | some f =>
    rw [e] at h1
    simp only [Option.map_some, Option.some.injEq] at h1
    exact h1.symm
theorem files_cd (base b : Nat) (M : MD) (F : List Nat) (w : World) (h : CD w base b M F) (hl : LimF M.fs) :
    Calls Tryz.prog 54 #[theDisk b] w fun e w' => ∃ ao c xs, e = .returned (.slice ao M.fs.length c) ∧ w'.ownsRow w.heap.size 104 3 (.slice ao M.fs.length c) M.fs.length xs ∧
      ToldE w' w.heap.size (Value.slice ao M.fs.length c).ownBlock M.fs xs ∧ Turn [] w w' := by
  obtain ⟨h0, hf, S, s, hR, hs, hp, hP, rfl⟩ := h
  have h2 := tot_both hp
  have h3 := hl.tot
  have h4 := len_both hp
  have h5 := hl.len
  have h6 := sorted_files hR hp hf.rising
  rw [h4]
  refine (files_any base b S s w hR (by omega) (by omega) (fun f hfm => by have := hf.name _ (hp.mem_iff.1 (List.mem_map.2 ⟨f, hfm, rfl⟩)); simp only [view] at this; unfold maxLen; omega)).mono ?_
  rintro e w' ⟨ao, c, xs, rfl, hown, hT, hg⟩
  refine ⟨ao, c, xs, rfl, hown, ?_, Turn.of_none hg⟩
  rw [← h6]
  obtain ⟨hT1, hT2⟩ := hT
  refine ⟨by rw [List.length_map]; exact hT1, fun j f hj => ?_⟩
  rw [List.getElem?_map] at hj
  cases e : ((sortedNames S.files).map (fileOf S.files))[j]? with
  | none => rw [e] at hj; cases hj
  | some g =>
    rw [e] at hj
    simp only [Option.map_some, Option.some.injEq] at hj
    subst hj
    exact hT2 j g e
theorem upd_res {fs : List Ent} (h : Rising fs) (keep : List Int) {k : Nat} (hk : k < fs.length) : updE ((fs.map (·.1)).getD k []) (survE (keep.getD k 0)) (resE keep fs k) = resE keep fs (k + 1) := by
  have hnm : (fs.map (·.1)).getD k [] = fs[k].1 := by
    rw [List.getD_eq_getElem?_getD, List.getElem?_map, List.getElem?_eq_getElem hk]; rfl
  rw [hnm]
  apply List.ext_getElem?
  intro i
  unfold updE resE
  rw [List.getElem?_map, List.getElem?_mapIdx, List.getElem?_mapIdx]
  by_cases hi : i < fs.length
  · rw [List.getElem?_eq_getElem hi]
    simp only [Option.map_some, Option.some.injEq]
    have hne : isName fs[k].1 fs[i] = true → i = k := fun e => by
      have e2 : fs[i].1 = fs[k].1 := isName_iff.1 e
      rcases Nat.lt_trichotomy i k with hlt | he | hlt
      · have := List.pairwise_iff_getElem.1 h i k hi hk hlt
        rw [e2] at this
        exact absurd this (List.lt_irrefl _)
      · exact he
      · have := List.pairwise_iff_getElem.1 h k i hk hi hlt
        rw [e2] at this
        exact absurd this (List.lt_irrefl _)
    have hnm2 : ∀ q, isName fs[k].1 (survE q fs[i]) = isName fs[k].1 fs[i] := fun q => rfl
    by_cases h1 : i < k
    · rw [if_pos h1, hnm2, if_neg (fun e => by have := hne e; omega), if_pos (show i < k + 1 by omega)]
    · rw [if_neg h1]
      by_cases h2 : i = k
      · subst h2
        rw [if_pos (isName_iff.2 rfl), if_pos (show i < i + 1 by omega)]
      · rw [if_neg (fun e => h2 (hne e)), if_neg (show ¬ i < k + 1 by omega)]
  · rw [List.getElem?_eq_none (by omega)]; rfl
theorem resF_view {files : List FM} {fs : List Ent} (hp : (files.map view).Perm fs) (h : Rising fs) (keep : List Int) (k : Nat) (hk : k ≤ fs.length) : ((resF keep (fs.map (·.1)) files k).map view).Perm (resE keep fs k) := by
  induction k with
  | zero =>
    have : resE keep fs 0 = fs := by
      unfold resE
      apply List.ext_getElem?
      intro i
      rw [List.getElem?_mapIdx]
      cases fs[i]? <;> simp
    rw [this]
    exact hp
  | succ k ih =>
    rw [resF, map_mapF _ (survive (keep.getD k 0)) (survE (keep.getD k 0)) (fun _ => rfl), ← upd_res h keep (by omega)]
    exact (ih (by omega)).map _
theorem restart_cd (base b : Nat) (M : MD) (F : List Nat) (cap cr : Int) (dn : Bool) (fl kp : Value) (zs ks : List Int) (w : World) (h : CD w base b M F) (hl : Lim M) (hf : Reads w fl (iv zs)) (hk : Reads w kp (iv ks)) (hfb : zs ≠ [] → ∀ a n c, fl = .slice (some a) n c → a.block ∉ F) (hkb : ks ≠ [] → ∀ a n c, kp = .slice (some a) n c → a.block ∉ F)
    (hz : zs.length < 900000) (hz2 : ks.length < 900000) :
    Calls Tryz.prog 18 #[theDisk b, .agg #[.int .i64 cap, fl, .int .i64 cr, .bool dn, kp]] w fun e w' => e = .returned (.tuple #[]) ∧ Next w w' base b (M.restart cap cr dn zs ks) F := by
  obtain ⟨h0, hfit, S, s, hR, hs, hp, hP, rfl⟩ := h
  have h2 := tot_both hp
  have h3 := hl.fs.tot
  have h4 := len_both hp
  have h5 := hl.fs.len
  have hkp := hl.keep
  have hsn := sorted_names hR hp hfit.rising
  refine (restart_any_at base b S s cap cr dn fl kp zs ks w hR hs (by omega) (by omega) (by rw [hP.keep]; omega) hf hk (fun hz a n c e hm => hfb hz a n c e (mem_footAll.2 (.inl hm))) (fun hz a n c e hm => hkb hz a n c e (mem_footAll.2 (.inl hm))) (by omega) (by omega) h0 (fun f hfm => by have := hfit.name _ (hp.mem_iff.1 (List.mem_map.2 ⟨f, hfm, rfl⟩)); simp only [view] at this; unfold maxLen; omega)).mono ?_
  rintro e w' ⟨rfl, s', fr, kr, hnew, hR', hs', t⟩
  rw [hsn, hP.keep] at hR' hs'
  have hll : (M.fs.map (·.1)).length = M.fs.length := by simp
  rw [hll] at hR' hs'
  refine ⟨rfl, _, ⟨Nat.le_trans h0 t.size, hfit.res M.keep M.fs.length, _, s', hR', hs', resF_view hp hfit.rising M.keep _ (Nat.le_refl _), ⟨rfl, rfl, rfl, rfl, rfl, rfl, rfl, by show (0 : Int) ≤ 0; omega⟩, rfl⟩, fun k hkk => ?_, t.mono fun k hk => mem_footAll.2 (.inl hk)⟩
  rcases mem_footAll.1 hkk with hm | hm | hm
  · refine .inl (mem_footAll.2 (.inl ?_))
    have hm2 : k ∈ b :: (S.mp.toList ++ (resF M.keep (M.fs.map (·.1)) S.files M.fs.length).flatMap FM.foot) := hm
    rw [resF_foot] at hm2
    exact hm2
  · exact .inr (hnew.1 k hm)
  · exact .inr (hnew.2 k hm)
def MD.new (cap cr : Int) (dn : Bool) (fail keep : List Int) : MD := { cap := cap, cr := cr, dn := dn, fail := fail, keep := keep, fs := [], n := 0, dw := false }
theorem new_cd_big (cap cr : Int) (dn : Bool) (fl kp : Value) (zs ks : List Int) (w : World) (hf : Reads w fl (iv zs)) (hk : Reads w kp (iv ks)) (hz : zs.length * 8 ≤ 140737488355328) (hz2 : ks.length * 8 ≤ 140737488355328) :
    Calls Tryz.prog 13 #[.agg #[.int .i64 cap, fl, .int .i64 cr, .bool dn, kp]] w fun e w' => ∃ b F, e = .returned (theDisk b) ∧ CD w' w.heap.size b (MD.new cap cr dn zs ks) F ∧ Turn [] w w' := by
  refine (new_any cap cr dn fl kp zs ks w hf hk hz hz2).mono ?_
  rintro e w' ⟨b, ao, c, ao', c', rfl, hb, hd, h1, h2, hg⟩
  have el : (zs.mergeSort leI).length = zs.length := by simp
  refine ⟨b, _, rfl, ⟨hg.size, Fit.nil, { cap := cap, cr := cr, ca := 0, dn := dn, dw := false, fail := zs.mergeSort leI, keep := ks, files := [], mp := none, fr := (Value.slice ao zs.length c).ownBlock, kr := (Value.slice ao' ks.length c').ownBlock }, { cap := cap, fl := .slice ao zs.length c, cr := cr, dn := dn, kp := .slice ao' ks.length c', fs := .map none, sz := 0, ca := 0, dw := false }, ?_, rfl, List.Perm.refl _, ⟨rfl, rfl, rfl, rfl, rfl, rfl, rfl, by show (0 : Int) ≤ 0; omega⟩, rfl⟩, Turn.of_none hg⟩
  exact {
    disk := hd
    cap := rfl
    cr := rfl
    ca := rfl
    dn := rfl
    dw := rfl
    fs := rfl
    lists := ⟨ao, c, ao', c', by rw [el], rfl, by rw [el]; exact owns_base h1 (by omega), owns_base h2 (by omega), by rw [el], rfl,
      (fun g hg hm => by have h3 := (h1.lt g hg).1; simp [foot] at hm; omega), (fun g hg hm => by have h3 := (h2.lt g hg).1; simp [foot] at hm; omega)⟩
    mapN := fun _ => rfl
    mapS := fun m hm => by cases hm
    files := fun f hf => by cases hf
    apart1 := fun m hm => by cases hm
    apart2 := fun f hf => by cases hf
    apart3 := List.Pairwise.nil
    low := fun k hk => by simp [foot] at hk; omega
    names := List.nodup_nil
    sorted := sorted_leI zs }
theorem new_cd (cap cr : Int) (dn : Bool) (fl kp : Value) (zs ks : List Int) (w : World) (hf : Reads w fl (iv zs)) (hk : Reads w kp (iv ks)) (hz : zs.length < 900000) (hz2 : ks.length < 900000) :
    Calls Tryz.prog 13 #[.agg #[.int .i64 cap, fl, .int .i64 cr, .bool dn, kp]] w fun e w' => ∃ b F, e = .returned (theDisk b) ∧ CD w' w.heap.size b (MD.new cap cr dn zs ks) F ∧ Turn [] w w' :=
  new_cd_big cap cr dn fl kp zs ks w hf hk (by omega) (by omega)
end Go.Proofs.YthcdkggkoanjpaaGreatDoor
namespace Go.Proofs.YthcdkggkoanjpaaGreatDoor
open Go.RowKit Go.Maps Go.Sort Go.WideMaps
structure RS where
  cap : Int
  fl : Value
  cr : Int
  dn : Bool
  kp : Value
  fv : Value
  n : Int
  dw : Bool
def RS.cells (s : RS) : Array Value := #[.int .i64 s.cap, s.fl, .int .i64 s.cr, .bool s.dn, s.kp, s.fv, .int .i64 s.n, .bool s.dw]
def RefC (w : World) (r : Nat) (s : RS) : Prop := w.heap[r]? = some (.cells s.cells 79 (0, 0))
theorem RefC.c0 {w : World} {r : Nat} {s : RS} (h : RefC w r s) : w.cell? ⟨r, 0, none⟩ = some (.int .i64 s.cap) := cells_of h 0 _ rfl
theorem RefC.c1 {w : World} {r : Nat} {s : RS} (h : RefC w r s) : w.cell? ⟨r, 1, none⟩ = some s.fl := cells_of h 1 _ rfl
theorem RefC.c2 {w : World} {r : Nat} {s : RS} (h : RefC w r s) : w.cell? ⟨r, 2, none⟩ = some (.int .i64 s.cr) := cells_of h 2 _ rfl
theorem RefC.c3 {w : World} {r : Nat} {s : RS} (h : RefC w r s) : w.cell? ⟨r, 3, none⟩ = some (.bool s.dn) := cells_of h 3 _ rfl
theorem RefC.c4 {w : World} {r : Nat} {s : RS} (h : RefC w r s) : w.cell? ⟨r, 4, none⟩ = some s.kp := cells_of h 4 _ rfl
theorem RefC.c5 {w : World} {r : Nat} {s : RS} (h : RefC w r s) : w.cell? ⟨r, 5, none⟩ = some s.fv := cells_of h 5 _ rfl
theorem RefC.c6 {w : World} {r : Nat} {s : RS} (h : RefC w r s) : w.cell? ⟨r, 6, none⟩ = some (.int .i64 s.n) := cells_of h 6 _ rfl
theorem RefC.c7 {w : World} {r : Nat} {s : RS} (h : RefC w r s) : w.cell? ⟨r, 7, none⟩ = some (.bool s.dw) := cells_of h 7 _ rfl
theorem RefC.free {w : World} {r : Nat} {s : RS} (h : RefC w r s) (j : Nat) : w.frozen? ⟨r, j, none⟩ = false := free_of h j
theorem RefC.lt {w : World} {r : Nat} {s : RS} (h : RefC w r s) : r < w.heap.size := lt_of h
theorem RefC.turn {F : List Nat} {w w' : World} {r : Nat} {s : RS} (h : RefC w r s) (t : Turn F w w') (hb : r ∉ F) : RefC w' r s := t.heap h hb
theorem RefC.set5 {w : World} {r : Nat} {s : RS} (h : RefC w r s) (x : Value) : RefC (w.setCell ⟨r, 5, none⟩ x) r { s with fv := x } := by
  have := heap_set h 5 x
  simpa [RefC, RS.cells] using this
theorem RefC.set6 {w : World} {r : Nat} {s : RS} (h : RefC w r s) (x : Int) : RefC (w.setCell ⟨r, 6, none⟩ (.int .i64 x)) r { s with n := x } := by
  have := heap_set h 6 (.int .i64 x)
  simpa [RefC, RS.cells] using this
theorem RefC.set7 {w : World} {r : Nat} {s : RS} (h : RefC w r s) (x : Bool) : RefC (w.setCell ⟨r, 7, none⟩ (.bool x)) r { s with dw := x } := by
  have := heap_set h 7 (.bool x)
  simpa [RefC, RS.cells] using this
def TellR (w : World) (G : List Nat) (xs : List Value) (fs : List Ent) : Prop :=
  xs.length = fs.length * 3 ∧ ∀ j x, fs[j]? = some x → ∃ ao c, xs[j * 3]? = some (encStr x.1) ∧ xs[j * 3 + 1]? = some (.slice ao x.2.1.length c) ∧ xs[j * 3 + 2]? = some (.int .i64 (x.2.2 : Nat)) ∧
    Reads w (.slice ao x.2.1.length c) (bv x.2.1) ∧ (x.2.1 ≠ [] → ∀ a, ao = some a → a.block ∈ G)
theorem TellR.turn {w w' : World} {G F : List Nat} {xs : List Value} {fs : List Ent} (h : TellR w G xs fs) (t : Turn F w w') (hd : ∀ k ∈ G, k ∉ F) : TellR w' G xs fs := by
  refine ⟨h.1, fun j x hj => ?_⟩
  obtain ⟨ao, c, e1, e2, e3, h4, h5⟩ := h.2 j x hj
  refine ⟨ao, c, e1, e2, e3, h4.turn t fun hne a n c' e => ?_, h5⟩
  simp only [Value.slice.injEq] at e
  exact hd _ (h5 (by intro e2; rw [e2] at hne; exact hne rfl) a e.1)
theorem TellR.more {w : World} {G G' : List Nat} {xs : List Value} {fs : List Ent} (h : TellR w G xs fs) (hG : ∀ k ∈ G, k ∈ G') : TellR w G' xs fs :=
  ⟨h.1, fun j x hj => by obtain ⟨ao, c, e1, e2, e3, h4, h5⟩ := h.2 j x hj; exact ⟨ao, c, e1, e2, e3, h4, fun hne a e => hG _ (h5 hne a e)⟩⟩
structure RP (w : World) (s : RS) (M : MD) (G : List Nat) : Prop where
  cap : s.cap = M.cap
  cr : s.cr = M.cr
  dn : s.dn = M.dn
  n : s.n = M.n
  dw : s.dw = M.dw
  fail : Reads w s.fl (iv M.fail)
  keep : Reads w s.kp (iv M.keep)
  failG : M.fail ≠ [] → ∀ a n c, s.fl = .slice (some a) n c → a.block ∈ G
  keepG : M.keep ≠ [] → ∀ a n c, s.kp = .slice (some a) n c → a.block ∈ G
  n0 : 0 ≤ M.n
theorem RP.turn {w w' : World} {s : RS} {M : MD} {F G : List Nat} (h : RP w s M G) (t : Turn F w w') (hd : ∀ k ∈ G, k ∉ F) : RP w' s M G :=
  ⟨h.cap, h.cr, h.dn, h.n, h.dw, h.fail.turn t fun hne a n c e => hd _ (h.failG (by rintro e2; rw [e2] at hne; exact hne rfl) a n c e), h.keep.turn t fun hne a n c e => hd _ (h.keepG (by rintro e2; rw [e2] at hne; exact hne rfl) a n c e), h.failG, h.keepG, h.n0⟩
def RD (w : World) (r : Nat) (M : MD) (F G : List Nat) : Prop :=
  Fit M.fs ∧ ∃ s ao c xs, RefC w r s ∧ RP w s M G ∧ s.fv = .slice ao M.fs.length c ∧ w.ownsRow 0 104 3 (.slice ao M.fs.length c) M.fs.length xs ∧ TellR w G xs M.fs ∧
    F = r :: (Value.slice ao M.fs.length c).ownBlock.toList ∧ (Value.slice ao M.fs.length c).ownBlock ≠ some r ∧ (∀ k ∈ G, k ∉ F ∧ k < w.heap.size)
theorem RD.lt {w : World} {r : Nat} {M : MD} {F G : List Nat} (h : RD w r M F G) : (∀ k ∈ F, k < w.heap.size) ∧ ∀ k ∈ G, k ∉ F ∧ k < w.heap.size := by
  obtain ⟨_, s, ao, c, xs, hR, _, _, hown, _, rfl, _, hG⟩ := h
  refine ⟨fun k hk => ?_, hG⟩
  simp only [List.mem_cons, Option.mem_toList] at hk
  rcases hk with rfl | hk
  · exact hR.lt
  · exact (hown.lt k hk).2
theorem RD.own {w : World} {r : Nat} {M : MD} {F G : List Nat} (h : RD w r M F G) : r ∈ F := by
  obtain ⟨_, s, ao, c, xs, hR, _, _, hown, _, rfl, _, hG⟩ := h
  simp
theorem RD.keep {w w' : World} {r : Nat} {M : MD} {F G H : List Nat} (h : RD w r M F G) (t : Turn H w w') (hF : ∀ k ∈ F, k ∉ H) (hG : ∀ k ∈ G, k ∉ H) : RD w' r M F G := by
  obtain ⟨hf, s, ao, c, xs, hR, hP, hv, hown, hT, rfl, hne, hGd⟩ := h
  exact ⟨hf, s, ao, c, xs, hR.turn t (hF r (by simp)), hP.turn t hG, hv, owns_turn hown t (fun g hg => hF g (by simp [hg])), hT.turn t hG, rfl, hne, fun k hk => ⟨(hGd k hk).1, Nat.lt_of_lt_of_le (hGd k hk).2 t.size⟩⟩
theorem RD.new {w w' : World} {r : Nat} {M : MD} {F G : List Nat} (h : RD w r M F G) (t : Turn [] w w') : RD w' r M F G := h.keep t (by simp) (by simp)
def RNext (w w' : World) (r : Nat) (M' : MD) (F G P : List Nat) : Prop :=
  ∃ F' G', RD w' r M' F' G' ∧ (∀ k ∈ F', k ∈ F ∨ w.heap.size ≤ k) ∧ (∀ k ∈ G', k ∈ G ∨ k ∈ P ∨ w.heap.size ≤ k) ∧ Turn F w w'
theorem RD.next {w w' : World} {r : Nat} {M : MD} {F G : List Nat} (h : RD w' r M F G) (t : Turn F w w') : RNext w w' r M F G [] :=
  ⟨F, G, h, fun k hk => .inl hk, fun k hk => .inl hk, t⟩
theorem RNext.after {w w1 w' : World} {r : Nat} {M' : MD} {F G P : List Nat} (t : Turn F w w1) (h : RNext w1 w' r M' F G P) : RNext w w' r M' F G P := by
  obtain ⟨F', G', h1, h2, h3, h4⟩ := h
  exact ⟨F', G', h1, fun k hk => (h2 k hk).imp id (fun h => Nat.le_trans t.size h), fun k hk => (h3 k hk).imp id (fun h => h.imp id fun h => Nat.le_trans t.size h), t.trans h4⟩
def theRef (r : Nat) : Value := .pointer (some ⟨r, 0, none⟩)
def tell7 (M : MD) (x : Int) : Int := if M.dw = true then 7 else x
theorem ref_told (r : Nat) (M : MD) (F G : List Nat) (x : Int) (w : World) (h : RD w r M F G) :
    Calls Tryz.prog 119 #[theRef r, .int .i64 x] w fun e w' => e = .returned (.int .i64 (tell7 M x)) ∧ w = w' := by
  unfold tell7
  obtain ⟨hf, s, ao, c, xs, hR, hP, hv, hown, hT, rfl, hne, hGd⟩ := h
  have c7 := hR.c7
  rw [hP.dw] at c7
  clear hR hP hv hown hT hne hGd
  unfold theRef
  by_cases hd : M.dw = true
  · rw [if_pos hd]
    rw [hd] at c7
    go_enter Tryz.func119, Tryz.ntmps119
    go_wp2
    go_ret
    exact ⟨rfl, rfl⟩
  · rw [if_neg hd]
    rw [Bool.not_eq_true] at hd
    rw [hd] at c7
    go_enter Tryz.func119, Tryz.ntmps119
    go_wp2
    go_ret
    exact ⟨rfl, rfl⟩
def placeE (k : List UInt8) (fs : List Ent) : Int := match fs.findIdx? (isName k) with
  | none => -1
  | some i => i
theorem row_cell {w : World} {base e : Nat} {ao : Option Addr} {n c : Nat} {xs : List Value} (h : w.ownsRow base e 3 (.slice ao n c) n xs) (hx : xs.length = n * 3) {j : Nat} {v : Value} (hj : xs[j]? = some v) :
    ∃ g, ao = some ⟨g, 0, none⟩ ∧ w.cell? ⟨g, j, none⟩ = some v ∧ w.frozen? ⟨g, j, none⟩ = false := by
  have hlt := (List.getElem?_eq_some_iff.1 hj).1
  rcases h.2 with ⟨hv, h0⟩ | ⟨g, cap, cur, hv, _, hg, hc, _, hs, ht⟩
  · subst h0; simp at hx; rw [hx] at hlt; simp at hlt
  · simp only [Value.slice.injEq] at hv
    obtain ⟨rfl, _, rfl⟩ := hv
    refine ⟨g, rfl, ?_, by simp [World.frozen?, hg]⟩
    simp only [World.cell?, hg]
    rw [← ht, List.getElem?_take] at hj
    split at hj
    · simpa using hj
    · cases hj
set_option maxHeartbeats 1000000 in
theorem ref_at (r : Nat) (M : MD) (F G : List Nat) (name : ByteArray) (w : World) (h : RD w r M F G) (hl : M.fs.length < 900000) :
    Calls Tryz.prog 115 #[theRef r, .string name] w fun e w' => e = .returned (.int .i64 (placeE name.data.toList M.fs)) ∧ w = w' := by
  obtain ⟨hf, s, ao, c, xs, hR, hP, hv, hown, hT, rfl, hne, hGd⟩ := h
  have c5 := hR.c5
  rw [hv] at c5
  have HO := Lib.hid (And.intro hown hT)
  clear hR hP hv hown hT hne hGd
  unfold theRef
  obtain ⟨n, hn⟩ : ∃ n, n = M.fs.length := ⟨_, rfl⟩
  rw [← hn] at c5 hl HO
  have HN := Lib.hid hn
  clear hn
  go_enter Tryz.func115, Tryz.ntmps115
  go_wp2
  go_loopw [5] (fun i wr => ∃ k : Nat, k ≤ n ∧ i = .int .i64 k ∧ Hid (∀ j, j < k → ∀ x, M.fs[j]? = some x → isName name.data.toList x = false) ∧ w = wr)
    (fun i _ => n - (intOf i).toNat)
  case atStart => exact ⟨0, Nat.zero_le _, rfl, Lib.hid (fun j hj => by omega), rfl⟩
  case round =>
    obtain ⟨k, hk, rfl, hno, rfl⟩ := hrel
    by_cases h1 : k < n
    · have h3 : (k : Int) < (n : Int) := by omega
      obtain ⟨x, hx⟩ : ∃ x, M.fs[k]? = some x := ⟨_, List.getElem?_eq_getElem (by have := HN.out; omega)⟩
      obtain ⟨_, _, e1, _⟩ := HO.out.2.2 k x hx
      obtain ⟨g, rfl, hc, _⟩ := row_cell HO.out.1 (by rw [HO.out.2.1, HN.out]) e1
      unfold encStr at hc
      by_cases hnm : isName name.data.toList x = true
      · have hb : (x.1 == name.toList) = true := by
          rw [ByteArray.toList_eq]; simpa using isName_iff.1 hnm
        have HX := Lib.hid (And.intro hx hnm)
        clear hx hnm e1
        go_wp2_with fail
        go_ret
        refine ⟨?_, rfl⟩
        unfold placeE
        have e : M.fs.findIdx? (isName name.data.toList) = some k := by
          rw [List.findIdx?_eq_some_iff_getElem]
          have hlt : k < M.fs.length := (List.getElem?_eq_some_iff.1 HX.out.1).1
          have hxe : M.fs[k] = x := (List.getElem?_eq_some_iff.1 HX.out.1).2
          refine ⟨hlt, by rw [hxe]; exact HX.out.2, fun j hj => ?_⟩
          have := hno.out j hj _ (List.getElem?_eq_getElem (by omega))
          simp [this]
        rw [e]
        rfl
      · rw [Bool.not_eq_true] at hnm
        have hb : (x.1 == name.toList) = false := by
          rw [ByteArray.toList_eq]
          have : x.1 ≠ name.data.toList := fun e => by rw [isName_iff.2 e] at hnm; cases hnm
          simpa using this
        have HX := Lib.hid (And.intro hx hnm)
        clear hx hnm e1
        go_wp2_with fail
        refine ⟨⟨k + 1, by omega, by simp, Lib.hid (fun j hj y hy => ?_), trivial⟩, by simp [intOf]; omega⟩
        by_cases hjk : j < k
        · exact hno.out j hjk y hy
        · obtain rfl : j = k := by omega
          rw [HX.out.1] at hy
          cases hy
          exact HX.out.2
    · have h3 : ¬ (k : Int) < (n : Int) := by omega
      obtain rfl : k = n := by omega
      go_wp2_with fail
      go_ret
      refine ⟨?_, rfl⟩
      unfold placeE
      have e : M.fs.findIdx? (isName name.data.toList) = none := by
        rw [List.findIdx?_eq_none_iff]
        intro x hx
        obtain ⟨j, hj, rfl⟩ := List.getElem_of_mem hx
        exact hno.out j (by have := HN.out; omega) _ (List.getElem?_eq_getElem hj)
      rw [e]
      rfl
end Go.Proofs.YthcdkggkoanjpaaGreatDoor
