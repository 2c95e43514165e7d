/- How much may be on a disk as the document says, behind so many calls. Plain facts. Numbers and types by name. -/
import Derived.Test.YthcdkggkoanjpaaGreatDoorRst
import Derived.Test.YthcdkggkoanjpaaGreatDoorWr2
import Derived.Test.YthcdkggkoanjpaaGreatDoorWr3
import Derived.Test.YthcdkggkoanjpaaGreatDoorCd
import Derived.BigRegion
import Derived.RegionTactic
import Derived.ChangeAlike
import Derived.Maps.OwnSet
import Derived.WalkSpells
import Derived.StillTactics
import Derived.StillTailTactics
import Derived.Test.YthcdkggkoanjpaaGreatDoorWri
/- The other calls of the code's disk, against the document's disk. Numbers and types by name. -/
namespace Go.Proofs.YthcdkggkoanjpaaGreatDoor
open Go.RowKit Go.Maps Go.Sort Go.WideMaps
def MD.read (M : MD) (k : List UInt8) : List UInt8 × Int :=
  if M.dw = true then ([], 7) else match M.fs.find? (isName k) with
  | none => ([], 3)
  | some x => (x.2.1, 0)
theorem read_cd (base b : Nat) (M : MD) (F : List Nat) (name : ByteArray) (w : World) (h : CD w base b M F) (hl : LimF M.fs) (hz : name.size ≤ 1000000) :
    Calls Tryz.prog 32 #[theDisk b, .string name] w fun e w' => ∃ ao c, e = .returned (.tuple #[.slice ao (M.read name.data.toList).1.length c, .int .i64 (M.read name.data.toList).2]) ∧
      Bs w' w.heap.size (.slice ao (M.read name.data.toList).1.length c) (M.read name.data.toList).1.length (M.read name.data.toList).1 ∧ Turn [] w w' := by
  obtain ⟨h0, hf, S, s, hR, hs, hp, hP, rfl⟩ := h
  have hz2 : name.size ≤ maxLen := by unfold maxLen; omega
  unfold MD.read
  by_cases hdw : M.dw = true
  · rw [if_pos hdw]
    refine (read_down base b S s _ w hR (by rw [hP.dw]; exact hdw)).mono ?_
    rintro e w' ⟨rfl, rfl⟩
    exact ⟨none, 0, rfl, ⟨rfl, World.ownsRow_nil _ _ _ _⟩, Turn.refl _ _⟩
  · rw [if_neg hdw]
    rw [Bool.not_eq_true] at hdw
    rw [find_both hR hp]
    cases e : S.files.find? (named name.data.toList) with
    | none =>
      refine (read_none base b S s name w hR (by rw [hP.dw]; exact hdw) e hz2).mono ?_
      rintro e w' ⟨rfl, rfl⟩
      exact ⟨none, 0, rfl, ⟨rfl, World.ownsRow_nil _ _ _ _⟩, Turn.refl _ _⟩
    | some f =>
      simp only [Option.map_some]
      have h1 := le_total (find_mem e).1
      have h2 := tot_both hp
      have h3 := hl.tot
      refine (read_ok base b S s name f w hR (by rw [hP.dw]; exact hdw) e hz2 (by omega)).mono ?_
      rintro e w' ⟨ao, c, rfl, hown, hg⟩
      exact ⟨ao, c, rfl, ⟨rfl, hown⟩, Turn.of_none hg⟩
def ToldE (w : World) (base : Nat) (row : Option Nat) (fs : List Ent) (xs : List Value) : Prop :=
  xs.length = fs.length * 3 ∧ ∀ j f, fs[j]? = some f → ∃ ao c, xs[j * 3]? = some (encStr f.1) ∧ xs[j * 3 + 1]? = some (.slice ao f.2.1.length c) ∧ xs[j * 3 + 2]? = some (.int .i64 (f.2.2 : Nat)) ∧
    w.ownsRow base 5 1 (.slice ao f.2.1.length c) f.2.1.length (bv f.2.1) ∧ ∀ g, (Value.slice ao f.2.1.length c).ownBlock = some g → row ≠ some g
theorem sorted_names {w : World} {base b : Nat} {S : DM} {s : DS} {fs : List Ent} (_hR : Rep w base b S s) (hp : (S.files.map view).Perm fs) (hf : Rising fs) : sortedNames S.files = fs.map (·.1) := by
  have h1 : (S.files.map (·.name)).Perm (fs.map (·.1)) := by
    have := hp.map (fun x : Ent => x.1)
    rwa [List.map_map] at this
  unfold sortedNames
  rw [mergeSort_of_perm h1]
  refine List.mergeSort_of_pairwise ?_
  exact hf.names.imp fun h => by simp only [leB, decide_eq_true_eq]; exact List.le_of_lt h
theorem sorted_files {w : World} {base b : Nat} {S : DM} {s : DS} {fs : List Ent} (hR : Rep w base b S s) (hp : (S.files.map view).Perm fs) (hf : Rising fs) : ((sortedNames S.files).map (fileOf S.files)).map view = fs := by
  rw [sorted_names hR hp hf, List.map_map, List.map_map]
  conv => rhs; rw [← List.map_id fs]
  apply List.map_congr_left
  intro x hx
  have h1 := find_both hR hp x.1
  have h2 := find_self hf hx
  rw [h2] at h1
  simp only [Function.comp, fileOf, id]
  cases e : S.files.find? (named x.1) with
  | none => rw [e] at h1; cases h1
  | some f =>
    rw [e] at h1
    simp only [Option.map_some, Option.some.injEq] at h1
    exact h1.symm
theorem files_cd (base b : Nat) (M : MD) (F : List Nat) (w : World) (h : CD w base b M F) (hl : LimF M.fs) :
    Calls Tryz.prog 54 #[theDisk b] w fun e w' => ∃ ao c xs, e = .returned (.slice ao M.fs.length c) ∧ w'.ownsRow w.heap.size 104 3 (.slice ao M.fs.length c) M.fs.length xs ∧
      ToldE w' w.heap.size (Value.slice ao M.fs.length c).ownBlock M.fs xs ∧ Turn [] w w' := by
  obtain ⟨h0, hf, S, s, hR, hs, hp, hP, rfl⟩ := h
  have h2 := tot_both hp
  have h3 := hl.tot
  have h4 := len_both hp
  have h5 := hl.len
  have h6 := sorted_files hR hp hf.rising
  rw [h4]
  refine (files_any base b S s w hR (by omega) (by omega) (fun f hfm => by have := hf.name _ (hp.mem_iff.1 (List.mem_map.2 ⟨f, hfm, rfl⟩)); simp only [view] at this; unfold maxLen; omega)).mono ?_
  rintro e w' ⟨ao, c, xs, rfl, hown, hT, hg⟩
  refine ⟨ao, c, xs, rfl, hown, ?_, Turn.of_none hg⟩
  rw [← h6]
  obtain ⟨hT1, hT2⟩ := hT
  refine ⟨by rw [List.length_map]; exact hT1, fun j f hj => ?_⟩
  rw [List.getElem?_map] at hj
  cases e : ((sortedNames S.files).map (fileOf S.files))[j]? with
  | none => rw [e] at hj; cases hj
  | some g =>
    rw [e] at hj
    simp only [Option.map_some, Option.some.injEq] at hj
    subst hj
    exact hT2 j g e
theorem upd_res {fs : List Ent} (h : Rising fs) (keep : List Int) {k : Nat} (hk : k < fs.length) : updE ((fs.map (·.1)).getD k []) (survE (keep.getD k 0)) (resE keep fs k) = resE keep fs (k + 1) := by
  have hnm : (fs.map (·.1)).getD k [] = fs[k].1 := by
    rw [List.getD_eq_getElem?_getD, List.getElem?_map, List.getElem?_eq_getElem hk]; rfl
  rw [hnm]
  apply List.ext_getElem?
  intro i
  unfold updE resE
  rw [List.getElem?_map, List.getElem?_mapIdx, List.getElem?_mapIdx]
  by_cases hi : i < fs.length
  · rw [List.getElem?_eq_getElem hi]
    simp only [Option.map_some, Option.some.injEq]
    have hne : isName fs[k].1 fs[i] = true → i = k := fun e => by
      have e2 : fs[i].1 = fs[k].1 := isName_iff.1 e
      rcases Nat.lt_trichotomy i k with hlt | he | hlt
      · have := List.pairwise_iff_getElem.1 h i k hi hk hlt
        rw [e2] at this
        exact absurd this (List.lt_irrefl _)
      · exact he
      · have := List.pairwise_iff_getElem.1 h k i hk hi hlt
        rw [e2] at this
        exact absurd this (List.lt_irrefl _)
    have hnm2 : ∀ q, isName fs[k].1 (survE q fs[i]) = isName fs[k].1 fs[i] := fun q => rfl
    by_cases h1 : i < k
    · rw [if_pos h1, hnm2, if_neg (fun e => by have := hne e; omega), if_pos (show i < k + 1 by omega)]
    · rw [if_neg h1]
      by_cases h2 : i = k
      · subst h2
        rw [if_pos (isName_iff.2 rfl), if_pos (show i < i + 1 by omega)]
      · rw [if_neg (fun e => h2 (hne e)), if_neg (show ¬ i < k + 1 by omega)]
  · rw [List.getElem?_eq_none (by omega)]; rfl
theorem resF_view {files : List FM} {fs : List Ent} (hp : (files.map view).Perm fs) (h : Rising fs) (keep : List Int) (k : Nat) (hk : k ≤ fs.length) : ((resF keep (fs.map (·.1)) files k).map view).Perm (resE keep fs k) := by
  induction k with
  | zero =>
    have : resE keep fs 0 = fs := by
      unfold resE
      apply List.ext_getElem?
      intro i
      rw [List.getElem?_mapIdx]
      cases fs[i]? <;> simp
    rw [this]
    exact hp
  | succ k ih =>
    rw [resF, map_mapF _ (survive (keep.getD k 0)) (survE (keep.getD k 0)) (fun _ => rfl), ← upd_res h keep (by omega)]
    exact (ih (by omega)).map _
theorem restart_cd (base b : Nat) (M : MD) (F : List Nat) (cap cr : Int) (dn : Bool) (fl kp : Value) (zs ks : List Int) (w : World) (h : CD w base b M F) (hl : Lim M) (hf : Reads w fl (iv zs)) (hk : Reads w kp (iv ks)) (hfb : zs ≠ [] → ∀ a n c, fl = .slice (some a) n c → a.block ∉ F) (hkb : ks ≠ [] → ∀ a n c, kp = .slice (some a) n c → a.block ∉ F)
    (hz : zs.length < 900000) (hz2 : ks.length < 900000) :
    Calls Tryz.prog 18 #[theDisk b, .agg #[.int .i64 cap, fl, .int .i64 cr, .bool dn, kp]] w fun e w' => e = .returned (.tuple #[]) ∧ Next w w' base b (M.restart cap cr dn zs ks) F := by
  obtain ⟨h0, hfit, S, s, hR, hs, hp, hP, rfl⟩ := h
  have h2 := tot_both hp
  have h3 := hl.fs.tot
  have h4 := len_both hp
  have h5 := hl.fs.len
  have hkp := hl.keep
  have hsn := sorted_names hR hp hfit.rising
  refine (restart_any_at base b S s cap cr dn fl kp zs ks w hR hs (by omega) (by omega) (by rw [hP.keep]; omega) hf hk (fun hz a n c e hm => hfb hz a n c e (mem_footAll.2 (.inl hm))) (fun hz a n c e hm => hkb hz a n c e (mem_footAll.2 (.inl hm))) (by omega) (by omega) h0 (fun f hfm => by have := hfit.name _ (hp.mem_iff.1 (List.mem_map.2 ⟨f, hfm, rfl⟩)); simp only [view] at this; unfold maxLen; omega)).mono ?_
  rintro e w' ⟨rfl, s', fr, kr, hnew, hR', hs', t⟩
  rw [hsn, hP.keep] at hR' hs'
  have hll : (M.fs.map (·.1)).length = M.fs.length := by simp
  rw [hll] at hR' hs'
  refine ⟨rfl, _, ⟨Nat.le_trans h0 t.size, hfit.res M.keep M.fs.length, _, s', hR', hs', resF_view hp hfit.rising M.keep _ (Nat.le_refl _), ⟨rfl, rfl, rfl, rfl, rfl, rfl, rfl, by show (0 : Int) ≤ 0; omega⟩, rfl⟩, fun k hkk => ?_, t.mono fun k hk => mem_footAll.2 (.inl hk)⟩
  rcases mem_footAll.1 hkk with hm | hm | hm
  · refine .inl (mem_footAll.2 (.inl ?_))
    have hm2 : k ∈ b :: (S.mp.toList ++ (resF M.keep (M.fs.map (·.1)) S.files M.fs.length).flatMap FM.foot) := hm
    rw [resF_foot] at hm2
    exact hm2
  · exact .inr (hnew.1 k hm)
  · exact .inr (hnew.2 k hm)
def MD.new (cap cr : Int) (dn : Bool) (fail keep : List Int) : MD := { cap := cap, cr := cr, dn := dn, fail := fail, keep := keep, fs := [], n := 0, dw := false }
theorem new_cd_big (cap cr : Int) (dn : Bool) (fl kp : Value) (zs ks : List Int) (w : World) (hf : Reads w fl (iv zs)) (hk : Reads w kp (iv ks)) (hz : zs.length * 8 ≤ 140737488355328) (hz2 : ks.length * 8 ≤ 140737488355328) :
    Calls Tryz.prog 13 #[.agg #[.int .i64 cap, fl, .int .i64 cr, .bool dn, kp]] w fun e w' => ∃ b F, e = .returned (theDisk b) ∧ CD w' w.heap.size b (MD.new cap cr dn zs ks) F ∧ Turn [] w w' := by
  refine (new_any cap cr dn fl kp zs ks w hf hk hz hz2).mono ?_
  rintro e w' ⟨b, ao, c, ao', c', rfl, hb, hd, h1, h2, hg⟩
  have el : (zs.mergeSort leI).length = zs.length := by simp
  refine ⟨b, _, rfl, ⟨hg.size, Fit.nil, { cap := cap, cr := cr, ca := 0, dn := dn, dw := false, fail := zs.mergeSort leI, keep := ks, files := [], mp := none, fr := (Value.slice ao zs.length c).ownBlock, kr := (Value.slice ao' ks.length c').ownBlock }, { cap := cap, fl := .slice ao zs.length c, cr := cr, dn := dn, kp := .slice ao' ks.length c', fs := .map none, sz := 0, ca := 0, dw := false }, ?_, rfl, List.Perm.refl _, ⟨rfl, rfl, rfl, rfl, rfl, rfl, rfl, by show (0 : Int) ≤ 0; omega⟩, rfl⟩, Turn.of_none hg⟩
  exact {
    disk := hd
    cap := rfl
    cr := rfl
    ca := rfl
    dn := rfl
    dw := rfl
    fs := rfl
    lists := ⟨ao, c, ao', c', by rw [el], rfl, by rw [el]; exact owns_base h1 (by omega), owns_base h2 (by omega), by rw [el], rfl,
      (fun g hg hm => by have h3 := (h1.lt g hg).1; simp [foot] at hm; omega), (fun g hg hm => by have h3 := (h2.lt g hg).1; simp [foot] at hm; omega)⟩
    mapN := fun _ => rfl
    mapS := fun m hm => by cases hm
    files := fun f hf => by cases hf
    apart1 := fun m hm => by cases hm
    apart2 := fun f hf => by cases hf
    apart3 := List.Pairwise.nil
    low := fun k hk => by simp [foot] at hk; omega
    names := List.nodup_nil
    sorted := sorted_leI zs }
theorem new_cd (cap cr : Int) (dn : Bool) (fl kp : Value) (zs ks : List Int) (w : World) (hf : Reads w fl (iv zs)) (hk : Reads w kp (iv ks)) (hz : zs.length < 900000) (hz2 : ks.length < 900000) :
    Calls Tryz.prog 13 #[.agg #[.int .i64 cap, fl, .int .i64 cr, .bool dn, kp]] w fun e w' => ∃ b F, e = .returned (theDisk b) ∧ CD w' w.heap.size b (MD.new cap cr dn zs ks) F ∧ Turn [] w w' :=
  new_cd_big cap cr dn fl kp zs ks w hf hk (by omega) (by omega)
end Go.Proofs.YthcdkggkoanjpaaGreatDoor

/- The reference's Restart. Numbers and types by name. -/
namespace Go.Proofs.YthcdkggkoanjpaaGreatDoor
open Go.RowKit Go.Maps Go.Sort Go.WideMaps
theorem resE_length (keep : List Int) (fs : List Ent) (j : Nat) : (resE keep fs j).length = fs.length := by simp [resE]
end Go.Proofs.YthcdkggkoanjpaaGreatDoor

/- Both disks in one memory. Numbers and types by name. -/
namespace Go.Proofs.YthcdkggkoanjpaaGreatDoor
open Go.RowKit Go.Maps Go.Sort Go.WideMaps
def Stays (X : Nat → Prop) (w w' : World) : Prop := Below 0 w w' ∧ ∀ q, X q → w'.heap[q]? = w.heap[q]?
theorem Stays.refl (X : Nat → Prop) (w : World) : Stays X w w := ⟨Below.refl _ _, fun _ _ => rfl⟩
theorem Stays.trans {X : Nat → Prop} {a b c : World} (h : Stays X a b) (k : Stays X b c) : Stays X a c := ⟨h.1.trans k.1, fun q hq => (k.2 q hq).trans (h.2 q hq)⟩
theorem Stays.less {X Y : Nat → Prop} {a b : World} (h : Stays X a b) (hY : ∀ q, Y q → X q) : Stays Y a b := ⟨h.1, fun q hq => h.2 q (hY q hq)⟩
theorem Stays.below {n : Nat} {a b : World} (h : Stays (· < n) a b) : Below n a b := ⟨h.1.os, h.1.tape, h.1.output, h.1.size, fun q hq => h.2 q hq⟩
theorem Stays.of_turn {X : Nat → Prop} {F : List Nat} {w w' : World} (t : Turn F w w') (hX : ∀ q, X q → q < w.heap.size ∧ q ∉ F) : Stays X w w' :=
  ⟨t.below (Nat.zero_le _) (fun k _ => Nat.zero_le _), fun q hq => t.block q (hX q hq).1 (hX q hq).2⟩
theorem Stays.drew {X : Nat → Prop} (w : World) : Stays X w w.drew := ⟨(Below.refl _ _).drew, fun _ _ => rfl⟩
theorem Stays.cell {X : Nat → Prop} {w w' : World} (h : Stays X w w') {a : Addr} {v : Value} (hX : X a.block) (hc : w.cell? a = some v) : w'.cell? a = some v :=
  (World.cell?_of_block (h.2 _ hX)).trans hc
theorem Stays.reads {X : Nat → Prop} {w w' : World} (h : Stays X w w') {v : Value} {xs : List Value} (hr : Reads w v xs) (hX : xs ≠ [] → ∀ a n c, v = .slice (some a) n c → X a.block) : Reads w' v xs := by
  obtain ⟨ao, c, e, h1, h2, h3⟩ := hr
  refine ⟨ao, c, e, h1, h2, fun a ha j u hj => ?_⟩
  have hne : xs ≠ [] := by rintro rfl; cases hj
  subst ha
  have h0 := h3 a rfl j u hj
  refine h.cell ?_ h0
  have : (a.add j).block = a.block := by unfold Addr.add; split <;> rfl
  rw [this]
  exact hX hne a _ _ e
structure Hold (K : Nat) (M : MD) (j : Nat) : Prop where
  n : M.n ≤ j
  tot : tot M.fs ≤ j * K
  len : M.fs.length ≤ j
  fail : M.fail.length ≤ 200
  keep : M.keep.length ≤ 200
  cap : M.cap ≤ 9223372036854775807
theorem held_step {K : Nat} {M : MD} {j : Nat} (h : Hold K M j) (M' : MD) (hn : M'.n ≤ M.n + 1) (ht : tot M'.fs ≤ tot M.fs + K) (hl : M'.fs.length ≤ M.fs.length + 1) (hf : M'.fail = M.fail) (hk : M'.keep = M.keep) (hc : M'.cap = M.cap) : Hold K M' (j + 1) := by
  have h1 := h.n
  have h2 := h.tot
  have h3 := h.len
  refine ⟨by omega, ?_, by omega, by rw [hf]; exact h.fail, by rw [hk]; exact h.keep, by rw [hc]; exact h.cap⟩
  rw [Nat.succ_mul]
  exact Nat.le_trans ht (Nat.add_le_add_right h2 K)
theorem held_more {K : Nat} {M : MD} {j : Nat} (h : Hold K M j) : Hold K M (j + 1) :=
  held_step h M (by omega) (Nat.le_add_right _ _) (Nat.le_add_right _ _) rfl rfl rfl
def Adds (op : Opn) (c : Nat) : Prop := ∀ cap fs, Rising fs → tot (op cap fs).2 ≤ tot fs + c ∧ (op cap fs).2.length ≤ fs.length + 1
theorem held_act {K : Nat} {M : MD} {j : Nat} (h : Hold K M j) {op : Opn} (ho : Adds op K) (hr : Rising M.fs) : Hold K (M.act op).2 (j + 1) := by
  have h1 := ho M.cap M.fs hr
  unfold MD.act
  split
  · exact held_more h
  · split
    · refine held_step h _ (Int.le_refl _) ?_ ?_ rfl rfl rfl
      · show tot (if M.dn = true then (op M.cap M.fs).2 else M.fs) ≤ _
        split
        · exact h1.1
        · exact Nat.le_add_right _ _
      · show (if M.dn = true then (op M.cap M.fs).2 else M.fs).length ≤ _
        split
        · exact h1.2
        · exact Nat.le_add_right _ _
    · split
      · exact held_step h _ (Int.le_refl _) (Nat.le_add_right _ _) (Nat.le_add_right _ _) rfl rfl rfl
      · exact held_step h _ (Int.le_refl _) h1.1 h1.2 rfl rfl rfl
theorem tot_insE (x : Ent) (fs : List Ent) : tot (insE x fs) = x.2.1.length + tot fs := by rw [tot_perm (insE_perm x fs), tot_cons]
theorem tot_woE (k : List UInt8) (fs : List Ent) : tot (woE k fs) ≤ tot fs := by
  induction fs with
  | nil => exact Nat.le_refl _
  | cons x l ih =>
    unfold woE at *
    rw [List.filter_cons]
    split
    · rw [tot_cons, tot_cons]; omega
    · rw [tot_cons]; omega
theorem len_woE (k : List UInt8) (fs : List Ent) : (woE k fs).length ≤ fs.length := List.length_filter_le _ _
theorem tot_woE_mem {k : List UInt8} {fs : List Ent} {x : Ent} (h : fs.find? (isName k) = some x) : x.2.1.length + tot (woE k fs) ≤ tot fs := by
  induction fs with
  | nil => cases h
  | cons y l ih =>
    rw [List.find?_cons] at h
    cases hy : isName k y with
    | true =>
      rw [hy] at h
      cases h
      have := tot_woE k l
      unfold woE at *
      rw [List.filter_cons_of_neg (by simp [hy]), tot_cons]
      omega
    | false =>
      rw [hy] at h
      have := ih h
      unfold woE at *
      rw [List.filter_cons_of_pos (by simp [hy]), tot_cons, tot_cons]
      omega
theorem tot_updE {k : List UInt8} {u : Ent → Ent} {c : Nat} (hu : ∀ x, (u x).2.1.length ≤ x.2.1.length + c) {fs : List Ent} (hn : (fs.map (·.1)).Nodup) : tot (updE k u fs) ≤ tot fs + c := by
  induction fs with
  | nil => exact Nat.zero_le _
  | cons y l ih =>
    rw [List.map_cons, List.nodup_cons] at hn
    unfold updE at *
    rw [List.map_cons, tot_cons, tot_cons]
    have h1 := ih hn.2
    by_cases hy : isName k y = true
    · rw [if_pos hy]
      have h2 : l.map (fun x => if isName k x = true then u x else x) = l := by
        conv => rhs; rw [← List.map_id l]
        apply List.map_congr_left
        intro x hx
        rw [if_neg]
        · rfl
        · intro e
          exact hn.1 (List.mem_map.2 ⟨x, hx, (isName_iff.1 e).trans (isName_iff.1 hy).symm⟩)
      rw [h2]
      have := hu y
      omega
    · rw [if_neg hy]
      omega
theorem len_updE (k : List UInt8) (u : Ent → Ent) (fs : List Ent) : (updE k u fs).length = fs.length := by simp [updE]
theorem adds_create (c : Nat) (k : List UInt8) : Adds (opCreate k) c := by
  intro cap fs hr
  unfold opCreate
  split
  · exact ⟨Nat.le_add_right _ _, Nat.le_add_right _ _⟩
  · split
    · exact ⟨Nat.le_add_right _ _, Nat.le_add_right _ _⟩
    · simp only [tot_insE, insE_length, List.length_nil]; omega
theorem adds_append (c : Nat) (k l : List UInt8) (hl : l.length ≤ c) : Adds (opAppend k l) c := by
  intro cap fs hr
  unfold opAppend
  split
  · exact ⟨Nat.le_add_right _ _, Nat.le_add_right _ _⟩
  · split
    · exact ⟨Nat.le_add_right _ _, Nat.le_add_right _ _⟩
    · refine ⟨tot_updE (fun x => ?_) hr.nodup, by show (updE _ _ _).length ≤ _; rw [len_updE]; omega⟩
      simp only [List.length_append]; omega
theorem adds_sync (c : Nat) (k : List UInt8) : Adds (opSync k) c := by
  intro cap fs hr
  unfold opSync
  split
  · exact ⟨Nat.le_add_right _ _, Nat.le_add_right _ _⟩
  · exact ⟨tot_updE (u := fun x => (x.1, x.2.1, x.2.1.length)) (fun x => Nat.le_add_right _ _) hr.nodup, by show (updE _ _ _).length ≤ _; rw [len_updE]; omega⟩
theorem adds_cut (c : Nat) (k : List UInt8) (n : Int) : Adds (opCut k n) c := by
  intro cap fs hr
  unfold opCut
  split
  · exact ⟨Nat.le_add_right _ _, Nat.le_add_right _ _⟩
  · split
    · exact ⟨Nat.le_add_right _ _, Nat.le_add_right _ _⟩
    · exact ⟨tot_updE (fun x => by simp only [List.length_take]; omega) hr.nodup, by show (updE _ _ _).length ≤ _; rw [len_updE]; omega⟩
theorem adds_rename (c : Nat) (k j : List UInt8) : Adds (opRename k j) c := by
  intro cap fs hr
  unfold opRename
  split
  · exact ⟨Nat.le_add_right _ _, Nat.le_add_right _ _⟩
  · rename_i x hx
    split
    · exact ⟨Nat.le_add_right _ _, Nat.le_add_right _ _⟩
    · split
      · exact ⟨Nat.le_add_right _ _, Nat.le_add_right _ _⟩
      · have h1 := tot_woE j (woE k fs)
        have h2 := tot_woE_mem hx
        have h3 := len_woE j (woE k fs)
        have h4 := len_woE k fs
        simp only [tot_insE, insE_length]
        omega
theorem adds_remove (c : Nat) (k : List UInt8) : Adds (opRemove k) c := by
  intro cap fs hr
  unfold opRemove
  split
  · exact ⟨Nat.le_add_right _ _, Nat.le_add_right _ _⟩
  · have h1 := tot_woE k fs
    have h2 := len_woE k fs
    exact ⟨Nat.le_trans h1 (Nat.le_add_right _ _), Nat.le_trans h2 (Nat.le_add_right _ _)⟩
theorem held_restart {K : Nat} {M : MD} {j : Nat} (h : Hold K M j) {cap cr : Int} {dn : Bool} {zs ks : List Int} (hc : cap ≤ 9223372036854775807) (hz : zs.length ≤ 200) (hk : ks.length ≤ 200) : Hold K (M.restart cap cr dn zs ks) (j + 1) := by
  have h1 := tot_res M.keep M.fs M.fs.length
  have h3 := h.len
  refine ⟨by show (0 : Int) ≤ _; omega, ?_, by show (resE M.keep M.fs M.fs.length).length ≤ _; rw [resE_length]; omega, hz, hk, hc⟩
  rw [Nat.succ_mul]
  exact Nat.le_trans (Nat.le_trans h1 h.tot) (Nat.le_add_right _ _)
end Go.Proofs.YthcdkggkoanjpaaGreatDoor

namespace Go.Proofs.YthcdkggkoanjpaaGreatDoor
open Go.RowKit Go.Lib
structure Well (K : Nat) (M : MD) (j : Nat) : Prop where
  held : Hold K M j
  up : Rising M.fs
def Keeps (op : Opn) : Prop := ∀ cap fs, Rising fs → Rising (op cap fs).2
theorem keeps_create (k : List UInt8) : Keeps (opCreate k) := by
  intro cap fs h
  unfold opCreate
  split
  · exact h
  · split
    · exact h
    · rename_i hn
      exact insE_rising h (by simpa using hn)
theorem keeps_append (k l : List UInt8) : Keeps (opAppend k l) := by
  intro cap fs h
  unfold opAppend
  split
  · exact h
  · split
    · exact h
    · exact updE_rising (u := fun x => (x.1, x.2.1 ++ l, x.2.2)) (fun _ => rfl) h
theorem keeps_sync (k : List UInt8) : Keeps (opSync k) := by
  intro cap fs h
  unfold opSync
  split
  · exact h
  · exact updE_rising (u := fun x => (x.1, x.2.1, x.2.1.length)) (fun _ => rfl) h
theorem keeps_cut (k : List UInt8) (n : Int) : Keeps (opCut k n) := by
  intro cap fs h
  unfold opCut
  split
  · exact h
  · split
    · exact h
    · exact updE_rising (u := fun x => (x.1, x.2.1.take n.toNat, min x.2.2 n.toNat)) (fun _ => rfl) h
theorem well_act {K : Nat} {M : MD} {j : Nat} (h : Well K M j) {op : Opn} (ho : Adds op K) (hk : Keeps op) : Well K (M.act op).2 (j + 1) := by
  refine ⟨held_act h.held ho h.up, ?_⟩
  unfold MD.act
  split
  · exact h.up
  · split
    · show Rising (if M.dn = true then (op M.cap M.fs).2 else M.fs)
      split
      · exact hk _ _ h.up
      · exact h.up
    · split
      · exact h.up
      · exact hk _ _ h.up
theorem well_more {K : Nat} {M : MD} {i j : Nat} (h : Well K M i) (hj : i ≤ j) : Well K M j := by
  obtain ⟨d, rfl⟩ := Nat.exists_eq_add_of_le hj
  clear hj
  induction d with
  | zero => exact h
  | succ d ih => exact ⟨held_more ih.held, ih.up⟩
structure RoomW (K J : Nat) : Prop where
  all : J * K ≤ 890000000
  calls : J ≤ 100000
theorem well_totW {K J : Nat} (hR : RoomW K J) {M : MD} {j : Nat} (h : Well K M j) (hj : j ≤ J) : tot M.fs ≤ 890000000 :=
  Nat.le_trans h.held.tot (Nat.le_trans (Nat.mul_le_mul_right K hj) hR.all)
theorem well_limW {K J : Nat} (hR : RoomW K J) {M : MD} {j : Nat} (h : Well K M j) (hj : j ≤ J) : Lim M := by
  have h1 := h.held.n
  have h3 := h.held.len
  have h4 := h.held.fail
  have h5 := h.held.keep
  have h6 := hR.calls
  have h7 := well_totW hR h hj
  exact ⟨by omega, ⟨by omega, by omega⟩, by omega, by omega⟩
theorem mread_none {M : MD} {k : List UInt8} (h : (M.read k).2 = 3) : (M.read k).1 = [] := by
  unfold MD.read at *
  split
  · rfl
  · rename_i hd
    rw [if_neg hd] at h
    split
    · rfl
    · rename_i x hx
      rw [hx] at h
      cases h
theorem well_create {K : Nat} {M : MD} {j : Nat} (h : Well K M j) (k : List UInt8) : Well K (M.act (opCreate k)).2 (j + 1) := well_act h (adds_create K k) (keeps_create k)
theorem well_append {K : Nat} {M : MD} {j : Nat} (h : Well K M j) (k l : List UInt8) (hl : l.length ≤ K) : Well K (M.act (opAppend k l)).2 (j + 1) := well_act h (adds_append K k l hl) (keeps_append k l)
theorem well_sync {K : Nat} {M : MD} {j : Nat} (h : Well K M j) (k : List UInt8) : Well K (M.act (opSync k)).2 (j + 1) := well_act h (adds_sync K k) (keeps_sync k)
theorem well_cut {K : Nat} {M : MD} {j : Nat} (h : Well K M j) (k : List UInt8) (n : Int) : Well K (M.act (opCut k n)).2 (j + 1) := well_act h (adds_cut K k n) (keeps_cut k n)
theorem keeps_remove (k : List UInt8) : Keeps (opRemove k) := by
  intro cap fs h
  unfold opRemove
  split
  · exact h
  · exact woE_rising h
theorem keeps_rename (k j : List UInt8) : Keeps (opRename k j) := by
  intro cap fs h
  unfold opRename
  split
  · exact h
  · split
    · exact h
    · split
      · exact h
      · refine insE_rising (woE_rising (woE_rising h)) ?_
        show (woE j (woE k fs)).any (isName j) = false
        rw [woE_any, if_pos rfl]
end Go.Proofs.YthcdkggkoanjpaaGreatDoor
