/- Rename, that is carried out. Numbers and types by name. -/
import Derived.Test.YtmpjjnjggiipjaaCut
/- A file that is removed: the map's entry is deleted. Numbers and types by name. -/
namespace Go.Proofs.Ytmpjjnjggiipjaa
open Go.RowKit Go.Maps Go.Sort Go.WideMaps

def without (k : List UInt8) (files : List FM) : List FM := files.filter fun g => !named k g

theorem ownsMap_tight {w : World} {k : TypeId} {R : Value → Option (DataW Unit × List MemPlace)} {b n : Nat} {D : DataW Unit} (h : w.ownsMap Try.prog k R b n D) : w.ownsMap Try.prog k R b (Maps.size D) D := by
  obtain ⟨es, clock, hb, F, hs, rfl⟩ := h
  refine ⟨es, clock, hb, F, ?_, rfl⟩
  have e1 : Maps.size (DataW.map ((es.toList.map (WideElems.rg Try.prog k R)).foldr DataW.insert [])) = es.size := by simp [Maps.size, length_sorted]
  omega

theorem without_length (k : List UInt8) (files : List FM) (hn : (files.map (·.name)).Nodup) : (without k files).length + (if files.any (named k) = true then 1 else 0) = files.length := by
  induction files with
  | nil => rfl
  | cons a l ih =>
    simp only [List.map_cons, List.nodup_cons] at hn
    have h1 := ih hn.2
    by_cases ha : named k a = true
    · have hno : l.any (named k) = false := by
        cases e : l.any (named k) with
        | false => rfl
        | true =>
          obtain ⟨g, hg, hgn⟩ := List.any_eq_true.1 e
          refine absurd (List.mem_map.2 ⟨g, hg, ?_⟩) hn.1
          simp [named] at ha hgn
          rw [ha, hgn]
      rw [hno] at h1
      simp only [without, List.filter_cons, ha, Bool.not_true, Bool.false_eq_true, if_false, List.any_cons, Bool.true_or, if_true, List.length_cons] at h1 ⊢
      omega
    · have ha' : named k a = false := by simpa using ha
      simp only [without, List.filter_cons, ha', Bool.not_false, if_true, List.any_cons, Bool.false_or, List.length_cons] at h1 ⊢
      omega

theorem find_without (k x : List UInt8) (files : List FM) : (without k files).find? (named x) = if x = k then none else files.find? (named x) := by
  induction files with
  | nil => simp [without]
  | cons a l ih =>
    by_cases ha : named k a = true
    · have e : without k (a :: l) = without k l := by simp [without, ha]
      rw [e, ih]
      by_cases hx : x = k
      · simp [hx]
      · have : named x a = false := by
          simp [named] at ha ⊢
          rw [ha]; exact fun e => hx e.symm
        simp [hx, this]
    · have ha' : named k a = false := by simpa using ha
      have e : without k (a :: l) = a :: without k l := by simp [without, ha']
      rw [e, List.find?_cons, List.find?_cons, ih]
      by_cases hx : x = k
      · simp [hx, ha']
      · simp [hx]

theorem any_without (k x : List UInt8) (files : List FM) : (without k files).any (named x) = if x = k then false else files.any (named x) := by
  have h1 : ∀ l : List FM, l.any (named x) = (l.find? (named x)).isSome := by
    intro l
    rw [Bool.eq_iff_iff, List.find?_isSome, List.any_eq_true]
  rw [h1, h1, find_without]
  split <;> rfl

theorem MapAt.del {w' : World} {m : Nat} {files : List FM} {D : DataW Unit} {n : Nat} (k : List UInt8) (hnd : (files.map (·.name)).Nodup) (h1 : Maps.size D = files.length) (h2 : ∀ x, D.atKey (.string x) .nil = Go.Proofs.Ytmpjjnjggiipjaa.look files x) (h3 : ∀ x, Maps.has D (.string x) = files.any (named x))
    (hT : Tidy D) (hown : w'.ownsMap Try.prog 9 Rp m n (D.del (.string k))) : MapAt w' m (without k files) := by
  have hl : Maps.size (D.del (.string k)) = (without k files).length := by
    have e1 := size_del (k := .string k) hT
    have e2 := without_length k files hnd
    rw [h3] at e1
    omega
  refine ⟨_, by rw [← hl]; exact ownsMap_tight hown, hl, fun x => ?_, fun x => ?_⟩
  · by_cases hx : x = k
    · subst hx
      rw [atKey_del_same]
      unfold Go.Proofs.Ytmpjjnjggiipjaa.look
      rw [find_without]
      simp
    · rw [atKey_del_other (by simpa using hx), h2]
      unfold Go.Proofs.Ytmpjjnjggiipjaa.look
      rw [find_without, if_neg hx]
  · rw [any_without]
    by_cases hx : x = k
    · subst hx
      rw [has_del_same]
      simp
    · rw [has_del_other (by simpa using hx), h3, if_neg hx]

theorem mem_without {k : List UInt8} {files : List FM} {g : FM} (h : g ∈ without k files) : g ∈ files ∧ g.name ≠ k := by
  have h1 := List.mem_filter.1 h
  refine ⟨h1.1, ?_⟩
  have := h1.2
  simp [named] at this
  exact this

/-- The disk behind a deletion in its map. -/
theorem Rep.without {w w' : World} {base b : Nat} {S : DM} {s : DS} (h : Rep w base b S s) (k : List UInt8) (m : Nat) (hm : S.mp = some m) (t : Turn [m] w w') (hM : MapAt w' m (without k S.files)) :
    Rep w' base b { S with files := without k S.files } s := by
  have hfoot : ∀ x, x ∈ foot b { S with files := Go.Proofs.Ytmpjjnjggiipjaa.without k S.files } → x ∈ foot b S := by
    intro x hx
    simp only [foot, List.mem_cons, List.mem_append, List.mem_flatMap] at hx ⊢
    rcases hx with hx | hx | ⟨f, hf, hx⟩
    · exact .inl hx
    · exact .inr (.inl hx)
    · exact .inr (.inr ⟨f, (mem_without hf).1, hx⟩)
  have hmf : m ∈ foot b S := by simp [foot, hm]
  obtain ⟨ao, c, ao', c', g1, g2, g3, g4, g5, g6, g7, g8⟩ := h.lists
  exact {
    disk := h.disk.turn t (by simpa using h.apart1 m hm)
    cap := h.cap
    cr := h.cr
    ca := h.ca
    dn := h.dn
    dw := h.dw
    fs := h.fs
    lists := ⟨ao, c, ao', c', g1, g2, owns_turn g3 t (fun g hg => by
        have := g7 g (g5.symm.trans hg); simp; rintro rfl; exact this hmf), owns_turn g4 t (fun g hg => by
        have := g8 g (g6.symm.trans hg); simp; rintro rfl; exact this hmf), g5, g6, (fun g hg hx => g7 g hg (hfoot g hx)), (fun g hg hx => g8 g hg (hfoot g hx))⟩
    mapN := fun e => by rw [show ({ S with files := Go.Proofs.Ytmpjjnjggiipjaa.without k S.files } : DM).mp = S.mp from rfl, hm] at e; cases e
    mapS := fun m' hm' => by
      obtain rfl : m = m' := by
        have : S.mp = some m' := hm'
        rw [hm] at this; simpa using this
      exact hM
    files := fun f hf => (h.files f (mem_without hf).1).keep t (fun x hx => by
      simp only [List.mem_singleton]; rintro rfl; exact (h.apart2 f (mem_without hf).1).2.1 _ hm hx)
    apart1 := h.apart1
    apart2 := fun f hf => h.apart2 f (mem_without hf).1
    apart3 := h.apart3.sublist List.filter_sublist
    low := fun x hx => h.low x (hfoot x hx)
    names := h.names.sublist (List.filter_sublist.map _)
    sorted := h.sorted }

theorem without_mapF (k : List UInt8) (u : FM → FM) (hu : ∀ g, (u g).name = g.name) (files : List FM) : Go.Proofs.Ytmpjjnjggiipjaa.without k (mapF k u files) = Go.Proofs.Ytmpjjnjggiipjaa.without k files := by
  induction files with
  | nil => rfl
  | cons a l ih =>
    unfold Go.Proofs.Ytmpjjnjggiipjaa.without mapF at *
    rw [List.map_cons]
    by_cases ha : named k a = true
    · have h2 : named k (u a) = true := by simp [named, hu] at ha ⊢; exact ha
      simp only [ha, if_true, List.filter_cons, h2, Bool.not_true, Bool.false_eq_true, if_false]
      exact ih
    · have ha' : named k a = false := by simpa using ha
      simp only [ha', Bool.false_eq_true, if_false, List.filter_cons, Bool.not_false, if_true]
      rw [ih]

theorem total_without (k : List UInt8) (files : List FM) (f : FM) (hf : files.find? (named k) = some f) (hn : (files.map (·.name)).Nodup) : total (Go.Proofs.Ytmpjjnjggiipjaa.without k files) + f.bytes.length = total files := by
  induction files with
  | nil => cases hf
  | cons a l ih =>
    simp only [List.map_cons, List.nodup_cons] at hn
    rw [List.find?_cons] at hf
    by_cases ha : named k a = true
    · simp only [ha] at hf
      obtain rfl := Option.some.inj hf
      have e : Go.Proofs.Ytmpjjnjggiipjaa.without k (a :: l) = l := by
        have : Go.Proofs.Ytmpjjnjggiipjaa.without k l = l := by
          refine List.filter_eq_self.2 fun g hg => ?_
          cases e : named k g with
          | false => rfl
          | true =>
            refine absurd (List.mem_map.2 ⟨g, hg, ?_⟩) hn.1
            simp [named] at ha e
            rw [ha, e]
        simpa [Go.Proofs.Ytmpjjnjggiipjaa.without, ha] using this
      rw [e]
      simp [total]; omega
    · have ha' : named k a = false := by simpa using ha
      simp only [ha'] at hf
      have e : Go.Proofs.Ytmpjjnjggiipjaa.without k (a :: l) = a :: Go.Proofs.Ytmpjjnjggiipjaa.without k l := by simp [Go.Proofs.Ytmpjjnjggiipjaa.without, ha']
      rw [e]
      have := ih hf hn.2
      simp [total] at this ⊢; omega

end Go.Proofs.Ytmpjjnjggiipjaa

/- 'drop'. Numbers and types by name. -/
namespace Go.Proofs.Ytmpjjnjggiipjaa
open Go.RowKit Go.Maps Go.Sort Go.WideMaps

theorem drop_none (base b : Nat) (S : DM) (s : DS) (name : ByteArray) (w : World) (hR : Rep w base b S s) (hf : S.files.find? (named name.data.toList) = none) (hl : name.size ≤ maxLen) :
    Calls Try.prog 48 #[theDisk b, .string name] w fun e w' => e = .returned (.tuple #[]) ∧ Turn [] w w' := by
  have c5 := hR.disk.c5
  have hlk : ∀ n, (Instr.lookup 49 s.fs (.string name) false).run Try.prog (w.drewN n) = .ok (.pointer none) (w.drewN n) := by
    intro n
    have := (hR.new ((Turn.refl [] w).drewN n)).look name hl
    rw [this]; simp [ptrOf, hf]
  have hlk0 : (Instr.lookup 49 s.fs (.string name) false).run Try.prog w = .ok (.pointer none) w := hlk 0
  unfold theDisk
  clear hR hf hl
  go_enter Try.func48, Try.ntmps48
  go_wp2
  go_end0
  exact ⟨rfl, Turn.refl [] w⟩

set_option maxRecDepth 100000 in
theorem drop_some (base b : Nat) (S : DM) (s : DS) (name : ByteArray) (f : FM) (w : World) (hR : Rep w base b S s) (hf : S.files.find? (named name.data.toList) = some f) (hl : name.size ≤ maxLen) (hsz : s.sz = total S.files) (hs1 : total S.files < 1000000000) (hbase : base ≤ w.heap.size) :
    Calls Try.prog 48 #[theDisk b, .string name] w fun e w' => e = .returned (.tuple #[]) ∧ ∃ s', Rep w' base b { S with files := without name.data.toList S.files } s' ∧ s'.sz = total (without name.data.toList S.files) ∧ Turn (foot b S) w w' := by
  obtain ⟨hmem, hnm⟩ := find_mem hf
  obtain ⟨m, hm⟩ : ∃ m, S.mp = some m := by
    cases e : S.mp with
    | none => rw [hR.mapN e] at hmem; cases hmem
    | some m => exact ⟨m, rfl⟩
  obtain ⟨ao, c, hfc, hown, hrow, hsy⟩ := (hR.files f hmem).own
  obtain ⟨hbf, hmf, hnd⟩ := hR.apart2 f hmem
  have hblk : f.blk ∈ f.foot := by simp [FM.foot]
  have hsub : f.blk ∈ foot b S := by simp only [foot, List.mem_cons, List.mem_append, List.mem_flatMap]; exact .inr (.inr ⟨f, hmem, hblk⟩)
  have hmS : m ∈ foot b S := by simp [foot, hm]
  have hbb : b ≠ f.blk := fun e => hbf (e ▸ hblk)
  have hlk : ∀ n, (Instr.lookup 49 s.fs (.string name) false).run Try.prog (w.drewN n) = .ok (.pointer (some ⟨f.blk, 0, none⟩)) (w.drewN n) := by
    intro n
    have := (hR.new ((Turn.refl [] w).drewN n)).look name hl
    rw [this]; simp [ptrOf, hf]
  have hlk0 : (Instr.lookup 49 s.fs (.string name) false).run Try.prog w = .ok (.pointer (some ⟨f.blk, 0, none⟩)) w := hlk 0
  have hft := le_total hmem
  have hcp := owns_cap hown
  have HS := Lib.hid (shorten_any b f.blk s ao f.bytes.length c f.sy 0 w hR.disk hfc (Nat.zero_le _) hcp.1 hcp.2 hbb (by omega) (by omega))
  have HC := Lib.hid (fun (w2 : World) (hd2 : DiskC w2 b { s with sz := s.sz - (f.bytes.length - (0 : Nat)) }) (hf2 : FileC w2 f.blk (.slice ao 0 c) (min (f.sy : Int) (0 : Nat))) (t2 : Turn [b, f.blk] w w2) =>
    cut_rep hR hsz f (by rw [hnm]; exact hf) 0 (Nat.zero_le _) ao c hown hrow hsy t2 hd2 hf2 hbase)
  have c5 := hR.disk.c5
  have hkey := keyOf_string_mk Try.underlying9 hl
  have HM := Lib.hid (And.intro hm (And.intro hmS (And.intro hsub (And.intro hnm (And.intro hR.names hf)))))
  unfold theDisk
  clear hR hfc hown hrow hsy hbf hmf hnd hblk hbb hft hcp hf hmem hnm hsub hsz hs1 hbase hm hmS hl
  go_enter Try.func48, Try.ntmps48
  go_wp2_with fail
  refine HS.out.mono ?_
  rintro e w2 ⟨rfl, hd2, hf2, t2⟩
  have hR2 := HC.out w2 hd2 hf2 ⟨t2.os, t2.tape, t2.output, t2.size, t2.block⟩
  obtain ⟨D, hown2, h1, h2, h3⟩ := hR2.mapS m HM.out.1
  have d5 := hR2.disk.c5
  rw [hR2.fs] at d5
  rw [show ({ S with files := mapF f.name (cutTo 0) S.files } : DM).mp = some m from HM.out.1] at d5
  have HR2 := Lib.hid (And.intro hR2 (And.intro h1 (And.intro h2 h3)))
  have HT2 : Hid (Turn (foot b S) w w2) := Lib.hid ⟨t2.os, t2.tape, t2.output, t2.size, fun k hk hne => t2.block k hk (by simp; exact ⟨fun e => hne (by simp [foot, e]), fun e => hne (e ▸ HM.out.2.2.1)⟩)⟩
  clear HS HC hd2 hf2 t2 c5 hlk hlk0 hR2 h1 h2 h3
  go_wp2_with (at_delete; refine wpList_delete_own _ rfl _ _ 49 9 rfl 63 law Try.underlying49 Rp m _ D rfl hown2 _ _ rfl hkey ?_; intro w3 hown3 hturn3)
  obtain ⟨hR2, h1, h2, h3⟩ := HR2.out
  obtain ⟨hm, hmS, hsub, hnm, hnames, hf⟩ := HM.out
  have t3 : Turn [m] w2 w3 := Turn.of_grown hturn3.grown (by intro k e; cases e; simp)
  have hM3 : MapAt w3 m (without name.data.toList (mapF f.name (cutTo 0) S.files)) := MapAt.del _ (by rw [mapF_names f.name (cutTo 0) (fun _ => rfl)]; exact hnames) h1 h2 h3 (hown2.tidy law) hown3
  have hR3 := hR2.without name.data.toList m hm t3 hM3
  have e1 : without name.data.toList (mapF f.name (cutTo 0) S.files) = without name.data.toList S.files := by
    rw [hnm]; exact without_mapF name.data.toList (cutTo 0) (fun _ => rfl) S.files
  have e2 := total_mapF f.name (cutTo 0) S.files f (by rw [hnm]; exact hf) hnames
  have e3 := total_without name.data.toList S.files f hf hnames
  have e4 : total (mapF f.name (cutTo 0) S.files) = total (without name.data.toList S.files) := by
    simp [cutTo] at e2; omega
  simp only [e1] at hR3
  rw [e4] at hR3
  have HE := Lib.hid (And.intro hR3 (HT2.out.trans (t3.mono (by intro x hx; simp at hx; subst hx; exact hmS))))
  clear HR2 HM hown2 hown3 hturn3 h1 h2 h3 hR2 hM3 e1 e2 e3 e4 HT2 hR3 t3 hkey hmS hsub hnm hnames hf d5
  go_end0
  exact ⟨rfl, _, HE.out.1, rfl, HE.out.2⟩

end Go.Proofs.Ytmpjjnjggiipjaa

namespace Go.Proofs.Ytmpjjnjggiipjaa
open Go.RowKit Go.Maps Go.Sort Go.WideMaps

theorem without_none {k : List UInt8} {files : List FM} (h : files.find? (named k) = none) : without k files = files := by
  refine List.filter_eq_self.2 fun g hg => ?_
  have := List.find?_eq_none.1 h g hg
  simpa using this

/-- drop, whether the file is there or not. -/
theorem drop_any (base b : Nat) (S : DM) (s : DS) (name : ByteArray) (w : World) (hR : Rep w base b S s) (hl : name.size ≤ maxLen) (hsz : s.sz = total S.files) (hs1 : total S.files < 1000000000) (hbase : base ≤ w.heap.size) :
    Calls Try.prog 48 #[theDisk b, .string name] w fun e w' => e = .returned (.tuple #[]) ∧ ∃ s', Rep w' base b { S with files := without name.data.toList S.files } s' ∧ s'.sz = total (without name.data.toList S.files) ∧ Turn (foot b S) w w' := by
  cases hf : S.files.find? (named name.data.toList) with
  | some f => exact drop_some base b S s name f w hR hf hl hsz hs1 hbase
  | none =>
    refine (drop_none base b S s name w hR hf hl).mono ?_
    rintro e w' ⟨rfl, t⟩
    rw [without_none hf]
    exact ⟨rfl, s, hR.new t, hsz, t.mono (by simp)⟩

def renamed (src dst : List UInt8) (f : FM) (files : List FM) : List FM := without src (without dst files) ++ [{ f with name := dst }]

def MovedAt (w : World) (base b : Nat) (S : DM) (ca : Int) (src dst : List UInt8) (f : FM) (k : Int) (w' : World) : Prop :=
  k = 0 ∧ ∃ m s', (S.mp = some m ∨ w.heap.size ≤ m) ∧ Rep w' base b { S with ca := ca, files := renamed src dst f S.files, mp := some m } s' ∧ s'.sz = total (without dst S.files) ∧ Turn (foot b S) w w'
def Moved (w : World) (base b : Nat) (S : DM) (ca : Int) (src dst : List UInt8) (f : FM) (k : Int) (w' : World) : Prop :=
  k = 0 ∧ ∃ m s', Rep w' base b { S with ca := ca, files := renamed src dst f S.files, mp := some m } s' ∧ s'.sz = total (without dst S.files) ∧ Turn (foot b S) w w'

theorem find_keep {k x : List UInt8} {files : List FM} {f : FM} (h : files.find? (named k) = some f) (hne : k ≠ x) : (without x files).find? (named k) = some f := by
  rw [find_without, if_neg hne]; exact h

/-- A file's blocks stand apart from all that is left when its name is taken out. -/
theorem apart_without {w : World} {base b : Nat} {S : DM} {s : DS} (h : Rep w base b S s) {f : FM} {k : List UInt8} (hf : S.files.find? (named k) = some f) : ∀ x ∈ f.foot, x ∉ foot b { S with files := without k S.files } := by
  obtain ⟨hmem, hnm⟩ := find_mem hf
  obtain ⟨hbf, hmf, hnd⟩ := h.apart2 f hmem
  intro x hx hm
  simp only [foot, List.mem_cons, List.mem_append, List.mem_flatMap, Option.mem_toList] at hm
  rcases hm with rfl | hm | ⟨g, hg, hgx⟩
  · exact hbf hx
  · exact hmf x hm hx
  · obtain ⟨hgm, hgn⟩ := mem_without hg
    have hne : g ≠ f := fun e => hgn (e ▸ hnm)
    have hp : ∀ (l : List FM), l.Pairwise (fun f g => ∀ k ∈ f.foot, k ∉ g.foot) → f ∈ l → g ∈ l → False := by
      intro l hl
      induction l with
      | nil => intro h; cases h
      | cons a t ih =>
        intro h1 h2
        obtain ⟨ha, ht⟩ := List.pairwise_cons.1 hl
        rcases List.mem_cons.1 h1 with rfl | h1'
        · rcases List.mem_cons.1 h2 with rfl | h2'
          · exact hne rfl
          · exact ha g h2' x hx hgx
        · rcases List.mem_cons.1 h2 with rfl | h2'
          · exact ha f h1' x hgx hx
          · exact ih ht h1' h2'
    exact hp _ h.apart3 hmem hgm

/-- 'delete' at a step of a region that draws its order. -/
theorem step_delete {ops : Array Oper} {o : Oper} {a : Act} {w : World} {K : Act → World → Prop} {Q : Exit → Act → World → Prop} {E : Prop} (hgd : o.guard = none) (m x : Operand)
    (hop : o.op = Op.call { callee := Callee.builtin Builtin.delete, args := #[m, x], argTypes := #[49, 9] })
    (b n : Nat) (D : DataW Unit) (hm : a.eval m = .map (some b)) (hown : w.ownsMap Try.prog 9 Rp b n D) (key : Value) (kl : Lit) (hx : a.eval x = key) (hkey : keyOf Try.prog 9 key = some kl)
    (hK : ∀ w', w'.ownsMap Try.prog 9 Rp b n (D.del kl) → w.mapTurned w' b → K (a.put o.dst (.tuple #[])) w') :
    if Region.wanted o (yielded ops a.tmps) = true then Oper.wp Try.prog o a w K Q else E := by
  have hw : Region.wanted o (yielded ops a.tmps) = true := by simp [Region.wanted, hgd]
  rw [if_pos hw]
  obtain ⟨w', hrun, r1, r2⟩ := hown.drop law Try.underlying49 hkey o.type
  unfold Oper.wp execOp
  simp only [hop, resolve, invoke, builtin, Sem.run_bind, Sem.run_pure, Result.andThen_ok, List.map_toArray, List.map_cons, List.map_nil, hm, hx, hrun]
  exact hK w' r1 r2

theorem cell_turn {w w' : World} {F : List Nat} (t : Turn F w w') {p : Nat} (hp : p ∉ F) {v : Value} (h : w.cell? ⟨p, 0, none⟩ = some v) : w'.cell? ⟨p, 0, none⟩ = some v :=
  (World.cell?_of_block (t.block p (World.block_lt_of_cell? w _ h) hp)).trans h

theorem rename_mid {w2 w3 : World} {base b : Nat} {S : DM} {s : DS} {src : List UInt8} {f : FM} {m : Nat} (hR : Rep w2 base b S s) (hm : S.mp = some m) (hf : S.files.find? (named src) = some f) (t3 : Turn [m] w2 w3) (hM3 : MapAt w3 m (without src S.files)) (dst : ByteArray) (hl : dst.size ≤ maxLen)
    (hno : S.files.any (named dst.data.toList) = false) (hlen : S.files.length < maxLen) (hbase : base ≤ w2.heap.size) :
    Calls Try.prog 34 #[theDisk b, .string dst, .pointer (some ⟨f.blk, 0, none⟩)] w3 fun e w' => e = .returned (.tuple #[]) ∧ ∃ m' s', (S.mp = some m' ∨ w3.heap.size ≤ m') ∧ Rep w' base b { S with files := without src S.files ++ [{ f with name := dst.data.toList }], mp := some m' } s' ∧ s'.sz = s.sz ∧ Turn (b :: S.mp.toList) w3 w' := by
  obtain ⟨hmem, hnm⟩ := find_mem hf
  obtain ⟨hbf, hmf, hnd⟩ := hR.apart2 f hmem
  have hR3 := hR.without src m hm t3 hM3
  have hsub : ∀ x ∈ f.foot, x ∈ foot b S := fun x hx => by simp only [foot, List.mem_cons, List.mem_append, List.mem_flatMap]; exact .inr (.inr ⟨f, hmem, hx⟩)
  have hF3 : FileAt w3 base f := (hR.files f hmem).keep t3 (fun x hx => by simp only [List.mem_singleton]; rintro rfl; exact hmf _ hm hx)
  obtain ⟨ao, c, ao', c', g1, g2, g3, g4, g5, g6, g7, g8⟩ := hR.lists
  refine put_new_at base b { S with files := without src S.files } s dst { f with name := dst.data.toList } w3 hR3 rfl hl ?_ ?_ hF3 hnd (fun k hk => apart_without hR hf k hk) (fun k hk => hR.low k (hsub k hk)) (fun g hg hk => g7 g hg (hsub g hk)) (fun g hg hk => g8 g hg (hsub g hk)) (Nat.le_trans hbase t3.size)
  · exact Nat.lt_of_le_of_lt (List.length_filter_le _ _) hlen
  · show (without src S.files).any (named dst.data.toList) = false
    rw [any_without]
    split
    · rfl
    · exact hno

set_option maxRecDepth 100000 in
theorem rename_clo_at (pd pn pt base b : Nat) (S : DM) (s : DS) (src dst : ByteArray) (f : FM) (w : World) (hR : Rep w base b S s)
    (hd : w.cell? ⟨pd, 0, none⟩ = some (theDisk b)) (hn : w.cell? ⟨pn, 0, none⟩ = some (.string src)) (ht : w.cell? ⟨pt, 0, none⟩ = some (.string dst)) (hpd : pd ∉ foot b S) (hpn : pn ∉ foot b S) (hpt : pt ∉ foot b S)
    (hf : S.files.find? (named src.data.toList) = some f) (hne : dst.toList.isEmpty = false) (hst : (src.toList == dst.toList) = false) (hst2 : src.data.toList ≠ dst.data.toList) (hl : src.size ≤ maxLen) (hl2 : dst.size ≤ maxLen) (hsz : s.sz = total S.files) (hs1 : total S.files < 1000000000) (hbase : base ≤ w.heap.size) (hlen : S.files.length < maxLen) :
    Calls Try.prog 47 #[.pointer (some ⟨pd, 0, none⟩), .pointer (some ⟨pn, 0, none⟩), .pointer (some ⟨pt, 0, none⟩)] w (Left (MovedAt w base b S S.ca src.data.toList dst.data.toList f)) := by
  obtain ⟨hmem, hnm⟩ := find_mem hf
  obtain ⟨m, hm⟩ : ∃ m, S.mp = some m := by
    cases e : S.mp with
    | none => rw [hR.mapN e] at hmem; cases hmem
    | some m => exact ⟨m, rfl⟩
  have hlk : ∀ n, (Instr.lookup 49 s.fs (.string src) false).run Try.prog (w.drewN n) = .ok (.pointer (some ⟨f.blk, 0, none⟩)) (w.drewN n) := by
    intro n
    have := (hR.new ((Turn.refl [] w).drewN n)).look src hl
    rw [this]; simp [ptrOf, hf]
  have c5 := hR.disk.c5
  have hkey := keyOf_string_mk Try.underlying9 hl
  have HM := Lib.hid (And.intro hR (And.intro hm (And.intro hsz (And.intro hs1 (And.intro hbase (And.intro hf (And.intro hlen (And.intro hpd (And.intro hpn hpt)))))))))
  unfold theDisk at hd
  clear hR hm hsz hs1 hbase hf hlen hpd hpn hpt hmem hnm hl
  go_enter Try.func47, Try.ntmps47
  go_wp2_with fail
  go_quiet (fail)
  go_wp2_with fail
  have hRq := HM.out.1.new ((Turn.refl [] w).drewN nq)
  refine (drop_any base b S s dst (w.drewN nq) hRq hl2 HM.out.2.2.1 HM.out.2.2.2.1 HM.out.2.2.2.2.1).mono ?_
  rintro e w2 ⟨rfl, s2, hR2, hsz2, t2⟩
  have t02 : Turn (foot b S) w w2 := ((Turn.refl _ w).drewN nq).trans t2
  have kd : w2.cell? ⟨pd, 0, none⟩ = some (.pointer (some ⟨b, 0, none⟩)) := cell_turn t02 HM.out.2.2.2.2.2.2.2.1 hd
  have kn : w2.cell? ⟨pn, 0, none⟩ = some (.string src) := cell_turn t02 HM.out.2.2.2.2.2.2.2.2.1 hn
  have kt : w2.cell? ⟨pt, 0, none⟩ = some (.string dst) := cell_turn t02 HM.out.2.2.2.2.2.2.2.2.2 ht
  obtain ⟨D, hown2, h1, h2, h3⟩ := hR2.mapS m HM.out.2.1
  have d5 := hR2.disk.c5
  rw [hR2.fs] at d5
  rw [show ({ S with files := without dst.data.toList S.files } : DM).mp = some m from HM.out.2.1] at d5
  have HR2 := Lib.hid (And.intro hR2 (And.intro hsz2 (And.intro t02 (And.intro h1 (And.intro h2 h3)))))
  clear hRq hR2 hsz2 t2 t02 h1 h2 h3 hd hn ht c5 hlk
  go_wp2_with fail
  go_region_law (refine step_delete rfl (.tmp 24) (.tmp 25) rfl m _ D (by simp [Act.eval]) hown2 (.string src) _ (by simp [Act.eval]) hkey ?_; intro w3 hown3 hturn3)
  all_goals
    have t3 : Turn [m] w2 w3 := by
      have t := Turn.of_grown (F := [m]) hturn3.grown (by intro k e; cases e; simp)
      exact ⟨t.os, t.tape, t.output, t.size, t.block⟩
    obtain ⟨hR2, hsz2, t02, h1, h2, h3⟩ := HR2.out
    have hM3 : MapAt w3 m (without src.data.toList (without dst.data.toList S.files)) := MapAt.del _ hR2.names h1 h2 h3 (hown2.tidy law) hown3
    have hno : (without dst.data.toList S.files).any (named dst.data.toList) = false := by rw [any_without, if_pos rfl]
    have HP := Lib.hid (rename_mid hR2 HM.out.2.1 (find_keep HM.out.2.2.2.2.2.1 hst2) t3 hM3 dst hl2 hno (Nat.lt_of_le_of_lt (List.length_filter_le _ _) HM.out.2.2.2.2.2.2.1) (Nat.le_trans HM.out.2.2.2.2.1 t02.size))
    have hmS : m ∈ foot b S := by simp [foot, HM.out.2.1]
    have HT := Lib.hid (t02.trans (t3.mono (by intro x hx; simp at hx; subst hx; exact hmS)))
    have HZ := Lib.hid hsz2
    have kd3 : w3.cell? ⟨pd, 0, none⟩ = some (.pointer (some ⟨b, 0, none⟩)) := cell_turn t3 (by simp; rintro rfl; exact HM.out.2.2.2.2.2.2.2.1 hmS) kd
    have kt3 : w3.cell? ⟨pt, 0, none⟩ = some (.string dst) := cell_turn t3 (by simp; rintro rfl; exact HM.out.2.2.2.2.2.2.2.2.2 hmS) kt
    unfold theDisk at HP
    clear hown2 hown3 hturn3 hR2 hsz2 t02 h1 h2 h3 hM3 hno hmS t3 HR2 d5 kd kn kt hkey hne hst hst2 hl2
    go_wp2_with fail
    refine HP.out.mono ?_
    rintro e w4 ⟨rfl, m', s', r0, hR4, hs4, t4⟩
    have HE : Hid (MovedAt w base b S S.ca src.data.toList dst.data.toList f 0 w4) := Lib.hid ⟨rfl, m', s', r0.imp id (fun h => Nat.le_trans HT.out.size h), hR4, by rw [hs4]; exact HZ.out, HT.out.trans (t4.mono (by
      intro x hx
      simp only [List.mem_cons, Option.mem_toList] at hx
      simp only [foot, List.mem_cons, List.mem_append, Option.mem_toList]
      exact hx.imp id .inl))⟩
    clear r0 hR4 hs4 t4 HP HZ HT kd3 kt3 HM
    go_wp2_with fail
    go_ret
    exact ⟨0, rfl, HE.out⟩

theorem rename_clo (pd pn pt base b : Nat) (S : DM) (s : DS) (src dst : ByteArray) (f : FM) (w : World) (hR : Rep w base b S s)
    (hd : w.cell? ⟨pd, 0, none⟩ = some (theDisk b)) (hn : w.cell? ⟨pn, 0, none⟩ = some (.string src)) (ht : w.cell? ⟨pt, 0, none⟩ = some (.string dst)) (hpd : pd ∉ foot b S) (hpn : pn ∉ foot b S) (hpt : pt ∉ foot b S)
    (hf : S.files.find? (named src.data.toList) = some f) (hne : dst.toList.isEmpty = false) (hst : (src.toList == dst.toList) = false) (hst2 : src.data.toList ≠ dst.data.toList) (hl : src.size ≤ maxLen) (hl2 : dst.size ≤ maxLen) (hsz : s.sz = total S.files) (hs1 : total S.files < 1000000000) (hbase : base ≤ w.heap.size) (hlen : S.files.length < maxLen) :
    Calls Try.prog 47 #[.pointer (some ⟨pd, 0, none⟩), .pointer (some ⟨pn, 0, none⟩), .pointer (some ⟨pt, 0, none⟩)] w (Left (Moved w base b S S.ca src.data.toList dst.data.toList f)) := by
  refine (rename_clo_at pd pn pt base b S s src dst f w hR hd hn ht hpd hpn hpt hf hne hst hst2 hl hl2 hsz hs1 hbase hlen).mono ?_
  rintro e w' ⟨k, rfl, h, m, s', _, h2⟩
  exact ⟨k, rfl, h, m, s', h2⟩

/-- Rename over what its closure does. -/
theorem rename_met (base b : Nat) (S : DM) (s : DS) (src dst : ByteArray) (w : World) (R : Int → World → Prop) (hR : Rep w base b S s) (hr : Runs S)
    (hcl : ∀ w1, Rep w1 base b { S with ca := S.ca + 1 } { s with ca := S.ca + 1 } → Turn [b] w w1 → w1.cell? ⟨w.heap.size, 0, none⟩ = some (theDisk b) → w1.cell? ⟨w.heap.size + 1, 0, none⟩ = some (.string src) → w1.cell? ⟨w.heap.size + 1 + 1, 0, none⟩ = some (.string dst) →
      Calls Try.prog 47 #[.pointer (some ⟨w.heap.size, 0, none⟩), .pointer (some ⟨w.heap.size + 1, 0, none⟩), .pointer (some ⟨w.heap.size + 1 + 1, 0, none⟩)] w1 (Left R)) :
    Calls Try.prog 24 #[theDisk b, .string src, .string dst] w (Left R) := by
  have hw : ∀ W, W = ((w.alloc (.cells #[theDisk b] 28)).alloc (.cells #[.string src] 9)).alloc (.cells #[.string dst] 9) →
      Calls Try.prog 32 #[theDisk b, .func (.func 47) #[] #[.pointer (some ⟨w.heap.size, 0, none⟩), .pointer (some ⟨w.heap.size + 1, 0, none⟩), .pointer (some ⟨w.heap.size + 1 + 1, 0, none⟩)]] W (Left R) := by
    rintro W rfl
    have ta : Turn [] w (w.alloc (.cells #[theDisk b] 28)) := (Turn.refl [] w).alloc _
    have tb : Turn [] (w.alloc (.cells #[theDisk b] 28)) ((w.alloc (.cells #[theDisk b] 28)).alloc (.cells #[.string src] 9)) := (Turn.refl [] _).alloc _
    have tc : Turn [] ((w.alloc (.cells #[theDisk b] 28)).alloc (.cells #[.string src] 9)) (((w.alloc (.cells #[theDisk b] 28)).alloc (.cells #[.string src] 9)).alloc (.cells #[.string dst] 9)) := (Turn.refl [] _).alloc _
    have t0 := (ta.trans tb).trans tc
    have hbl := hR.disk.lt
    refine write_run base b _ _ S s _ _ (hR.new t0) hr.dw hr.cr hr.fail hr.ca0 hr.ca1 hr.fl (enters_of Try.func47 (by kernel_rfl) rfl) ?_
    intro w1 hR1 t1
    have hpd : w1.cell? ⟨w.heap.size, 0, none⟩ = some (theDisk b) := box_at (((tb.trans tc).mono (by simp)).trans t1) (by simp; omega)
    have hpn : w1.cell? ⟨w.heap.size + 1, 0, none⟩ = some (.string src) := by
      have := box_at ((tc.mono (by simp)).trans t1) (by simp; omega)
      simpa using this
    have hpb : w1.cell? ⟨w.heap.size + 1 + 1, 0, none⟩ = some (.string dst) := by
      have := box_at t1 (by simp; omega)
      simpa using this
    exact hcl w1 hR1 ((t0.mono (by simp)).trans t1) hpd hpn hpb
  have hmf := hmf
  unfold theDisk at hw
  unfold theDisk
  clear hR hr hcl
  go_enter Try.func24, Try.ntmps24
  go_wp2_with fail
  refine (hw _ rfl).mono ?_
  rintro e w' ⟨k, rfl, hk⟩
  have HK := Lib.hid hk
  clear hk hw
  go_wp2
  go_ret
  exact ⟨k, rfl, HK.out⟩

theorem rename_ok (base b : Nat) (S : DM) (s : DS) (src dst : ByteArray) (f : FM) (w : World) (hR : Rep w base b S s) (hr : Runs S) (hf : S.files.find? (named src.data.toList) = some f) (hne : dst.toList.isEmpty = false) (hst : (src.toList == dst.toList) = false) (hst2 : src.data.toList ≠ dst.data.toList) (hl : src.size ≤ maxLen) (hl2 : dst.size ≤ maxLen)
    (hsz : s.sz = total S.files) (hs1 : total S.files < 1000000000) (hbase : base ≤ w.heap.size) (hlen : S.files.length < maxLen) :
    Calls Try.prog 24 #[theDisk b, .string src, .string dst] w (Left (Moved w base b S (S.ca + 1) src.data.toList dst.data.toList f)) := by
  have hlt := hR.lt
  refine rename_met base b S s src dst w _ hR hr ?_
  intro w1 hR1 t1 h1 h2 h3
  refine (rename_clo _ _ _ base b _ _ src dst f w1 hR1 h1 h2 h3 (fun h => by have := hlt _ h; omega) (fun h => by have := hlt _ h; omega) (fun h => by have := hlt _ h; omega) hf hne hst hst2 hl hl2 hsz hs1 (Nat.le_trans hbase t1.size) hlen).mono ?_
  rintro e w' ⟨k, rfl, hk, m, s', g1, g2, g3⟩
  exact ⟨k, rfl, hk, m, s', g1, g2, (t1.mono (by intro x hx; simp at hx; subst hx; simp [foot])).trans g3⟩

end Go.Proofs.Ytmpjjnjggiipjaa
