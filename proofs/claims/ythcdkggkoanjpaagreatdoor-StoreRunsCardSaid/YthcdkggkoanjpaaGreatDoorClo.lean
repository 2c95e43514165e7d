/- The closures of the writing calls, each way; the methods over what write does. Numbers and types by name. -/
import Derived.Test.YthcdkggkoanjpaaGreatDoorFil
import Derived.Test.YthcdkggkoanjpaaGreatDoorCut
namespace Go.Proofs.YthcdkggkoanjpaaGreatDoor
open Go.RowKit Go.Maps Go.Sort Go.WideMaps
def without (k : List UInt8) (files : List FM) : List FM := files.filter fun g => !named k g
theorem ownsMap_tight {w : World} {k : TypeId} {R : Value → Option (DataW Unit × List MemPlace)} {b n : Nat} {D : DataW Unit} (h : w.ownsMap Tryz.prog k R b n D) : w.ownsMap Tryz.prog k R b (Maps.size D) D := by
  obtain ⟨es, clock, hb, F, hs, rfl⟩ := h
  refine ⟨es, clock, hb, F, ?_, rfl⟩
  have e1 : Maps.size (DataW.map ((es.toList.map (WideElems.rg Tryz.prog k R)).foldr DataW.insert [])) = es.size := by simp [Maps.size, length_sorted]
  omega
theorem without_length (k : List UInt8) (files : List FM) (hn : (files.map (·.name)).Nodup) : (without k files).length + (if files.any (named k) = true then 1 else 0) = files.length := by
  induction files with
  | nil => rfl
  | cons a l ih =>
    simp only [List.map_cons, List.nodup_cons] at hn
    have h1 := ih hn.2
    by_cases ha : named k a = true
    · have hno : l.any (named k) = false := by
        cases e : l.any (named k) with
        | false => rfl
        | true =>
          obtain ⟨g, hg, hgn⟩ := List.any_eq_true.1 e
          refine absurd (List.mem_map.2 ⟨g, hg, ?_⟩) hn.1
          simp [named] at ha hgn
          rw [ha, hgn]
      rw [hno] at h1
      simp only [without, List.filter_cons, ha, Bool.not_true, Bool.false_eq_true, if_false, List.any_cons, Bool.true_or, if_true, List.length_cons] at h1 ⊢
      omega
    · have ha' : named k a = false := by simpa using ha
      simp only [without, List.filter_cons, ha', Bool.not_false, if_true, List.any_cons, Bool.false_or, List.length_cons] at h1 ⊢
      omega
theorem find_without (k x : List UInt8) (files : List FM) : (without k files).find? (named x) = if x = k then none else files.find? (named x) := by
  induction files with
  | nil => simp [without]
  | cons a l ih =>
    by_cases ha : named k a = true
    · have e : without k (a :: l) = without k l := by simp [without, ha]
      rw [e, ih]
      by_cases hx : x = k
      · simp [hx]
      · have : named x a = false := by
          simp [named] at ha ⊢
          rw [ha]; exact fun e => hx e.symm
        simp [hx, this]
    · have ha' : named k a = false := by simpa using ha
      have e : without k (a :: l) = a :: without k l := by simp [without, ha']
      rw [e, List.find?_cons, List.find?_cons, ih]
      by_cases hx : x = k
      · simp [hx, ha']
      · simp [hx]
theorem any_without (k x : List UInt8) (files : List FM) : (without k files).any (named x) = if x = k then false else files.any (named x) := by
  have h1 : ∀ l : List FM, l.any (named x) = (l.find? (named x)).isSome := by
    intro l
    rw [Bool.eq_iff_iff, List.find?_isSome, List.any_eq_true]
  rw [h1, h1, find_without]
  split <;> rfl
theorem MapAt.del {w' : World} {m : Nat} {files : List FM} {D : DataW Unit} {n : Nat} (k : List UInt8) (hnd : (files.map (·.name)).Nodup) (h1 : Maps.size D = files.length) (h2 : ∀ x, D.atKey (.string x) .nil = Go.Proofs.YthcdkggkoanjpaaGreatDoor.lookD files x) (h3 : ∀ x, Maps.has D (.string x) = files.any (named x))
    (hT : Tidy D) (hown : w'.ownsMap Tryz.prog 9 Rp m n (D.del (.string k))) : MapAt w' m (without k files) := by
  have hl : Maps.size (D.del (.string k)) = (without k files).length := by
    have e1 := size_del (k := .string k) hT
    have e2 := without_length k files hnd
    rw [h3] at e1
    omega
  refine ⟨_, by rw [← hl]; exact ownsMap_tight hown, hl, fun x => ?_, fun x => ?_⟩
  · by_cases hx : x = k
    · subst hx
      rw [atKey_del_same]
      unfold Go.Proofs.YthcdkggkoanjpaaGreatDoor.lookD
      rw [find_without]
      simp
    · rw [atKey_del_other (by simpa using hx), h2]
      unfold Go.Proofs.YthcdkggkoanjpaaGreatDoor.lookD
      rw [find_without, if_neg hx]
  · rw [any_without]
    by_cases hx : x = k
    · subst hx
      rw [has_del_same]
      simp
    · rw [has_del_other (by simpa using hx), h3, if_neg hx]
theorem mem_without {k : List UInt8} {files : List FM} {g : FM} (h : g ∈ without k files) : g ∈ files ∧ g.name ≠ k := by
  have h1 := List.mem_filter.1 h
  refine ⟨h1.1, ?_⟩
  have := h1.2
  simp [named] at this
  exact this
theorem Rep.without {w w' : World} {base b : Nat} {S : DM} {s : DS} (h : Rep w base b S s) (k : List UInt8) (m : Nat) (hm : S.mp = some m) (t : Turn [m] w w') (hM : MapAt w' m (without k S.files)) :
    Rep w' base b { S with files := without k S.files } s := by
  have hfoot : ∀ x, x ∈ foot b { S with files := Go.Proofs.YthcdkggkoanjpaaGreatDoor.without k S.files } → x ∈ foot b S := by
    intro x hx
    simp only [foot, List.mem_cons, List.mem_append, List.mem_flatMap] at hx ⊢
    rcases hx with hx | hx | ⟨f, hf, hx⟩
    · exact .inl hx
    · exact .inr (.inl hx)
    · exact .inr (.inr ⟨f, (mem_without hf).1, hx⟩)
  have hmf : m ∈ foot b S := by simp [foot, hm]
  obtain ⟨ao, c, ao', c', g1, g2, g3, g4, g5, g6, g7, g8⟩ := h.lists
  exact {
    disk := h.disk.turn t (by simpa using h.apart1 m hm)
    cap := h.cap
    cr := h.cr
    ca := h.ca
    dn := h.dn
    dw := h.dw
    fs := h.fs
    lists := ⟨ao, c, ao', c', g1, g2, owns_turn g3 t (fun g hg => by
        have := g7 g (g5.symm.trans hg); simp; rintro rfl; exact this hmf), owns_turn g4 t (fun g hg => by
        have := g8 g (g6.symm.trans hg); simp; rintro rfl; exact this hmf), g5, g6, (fun g hg hx => g7 g hg (hfoot g hx)), (fun g hg hx => g8 g hg (hfoot g hx))⟩
    mapN := fun e => by rw [show ({ S with files := Go.Proofs.YthcdkggkoanjpaaGreatDoor.without k S.files } : DM).mp = S.mp from rfl, hm] at e; cases e
    mapS := fun m' hm' => by
      obtain rfl : m = m' := by
        have : S.mp = some m' := hm'
        rw [hm] at this; simpa using this
      exact hM
    files := fun f hf => (h.files f (mem_without hf).1).keep t (fun x hx => by
      simp only [List.mem_singleton]; rintro rfl; exact (h.apart2 f (mem_without hf).1).2.1 _ hm hx)
    apart1 := h.apart1
    apart2 := fun f hf => h.apart2 f (mem_without hf).1
    apart3 := h.apart3.sublist List.filter_sublist
    low := fun x hx => h.low x (hfoot x hx)
    names := h.names.sublist (List.filter_sublist.map _)
    sorted := h.sorted }
theorem without_mapF (k : List UInt8) (u : FM → FM) (hu : ∀ g, (u g).name = g.name) (files : List FM) : Go.Proofs.YthcdkggkoanjpaaGreatDoor.without k (mapF k u files) = Go.Proofs.YthcdkggkoanjpaaGreatDoor.without k files := by
  induction files with
  | nil => rfl
  | cons a l ih =>
    unfold Go.Proofs.YthcdkggkoanjpaaGreatDoor.without mapF at *
    rw [List.map_cons]
    by_cases ha : named k a = true
    · have h2 : named k (u a) = true := by simp [named, hu] at ha ⊢; exact ha
      simp only [ha, if_true, List.filter_cons, h2, Bool.not_true, Bool.false_eq_true, if_false]
      exact ih
    · have ha' : named k a = false := by simpa using ha
      simp only [ha', Bool.false_eq_true, if_false, List.filter_cons, Bool.not_false, if_true]
      rw [ih]
theorem total_without (k : List UInt8) (files : List FM) (f : FM) (hf : files.find? (named k) = some f) (hn : (files.map (·.name)).Nodup) : total (Go.Proofs.YthcdkggkoanjpaaGreatDoor.without k files) + f.bytes.length = total files := by
  induction files with
  | nil => cases hf
  | cons a l ih =>
    simp only [List.map_cons, List.nodup_cons] at hn
    rw [List.find?_cons] at hf
    by_cases ha : named k a = true
    · simp only [ha] at hf
      obtain rfl := Option.some.inj hf
      have e : Go.Proofs.YthcdkggkoanjpaaGreatDoor.without k (a :: l) = l := by
        have : Go.Proofs.YthcdkggkoanjpaaGreatDoor.without k l = l := by
          refine List.filter_eq_self.2 fun g hg => ?_
          cases e : named k g with
          | false => rfl
          | true =>
            refine absurd (List.mem_map.2 ⟨g, hg, ?_⟩) hn.1
            simp [named] at ha e
            rw [ha, e]
        simpa [Go.Proofs.YthcdkggkoanjpaaGreatDoor.without, ha] using this
      rw [e]
      simp [total]; omega
    · have ha' : named k a = false := by simpa using ha
      simp only [ha'] at hf
      have e : Go.Proofs.YthcdkggkoanjpaaGreatDoor.without k (a :: l) = a :: Go.Proofs.YthcdkggkoanjpaaGreatDoor.without k l := by simp [Go.Proofs.YthcdkggkoanjpaaGreatDoor.without, ha']
      rw [e]
      have := ih hf hn.2
      simp [total] at this ⊢; omega
end Go.Proofs.YthcdkggkoanjpaaGreatDoor
namespace Go.Proofs.YthcdkggkoanjpaaGreatDoor
open Go.RowKit Go.Maps Go.Sort Go.WideMaps
theorem drop_none (base b : Nat) (S : DM) (s : DS) (name : ByteArray) (w : World) (hR : Rep w base b S s) (hf : S.files.find? (named name.data.toList) = none) (hl : name.size ≤ maxLen) :
    Calls Tryz.prog 171 #[theDisk b, .string name] w fun e w' => e = .returned (.tuple #[]) ∧ Turn [] w w' := by
  have c5 := hR.disk.c5
  have hlk : ∀ n, (Instr.lookup 74 s.fs (.string name) false).run Tryz.prog (w.drewN n) = .ok (.pointer none) (w.drewN n) := by
    intro n
    have := (hR.new ((Turn.refl [] w).drewN n)).look name hl
    rw [this]; simp [ptrOf, hf]
  have hlk0 : (Instr.lookup 74 s.fs (.string name) false).run Tryz.prog w = .ok (.pointer none) w := hlk 0
  unfold theDisk
  clear hR hf hl
  go_enter Tryz.func171, Tryz.ntmps171
  go_wp2
  go_end0
  exact ⟨rfl, Turn.refl [] w⟩
set_option maxRecDepth 100000 in
theorem drop_some (base b : Nat) (S : DM) (s : DS) (name : ByteArray) (f : FM) (w : World) (hR : Rep w base b S s) (hf : S.files.find? (named name.data.toList) = some f) (hl : name.size ≤ maxLen) (hsz : s.sz = total S.files) (hs1 : total S.files < 1000000000) (hbase : base ≤ w.heap.size) :
    Calls Tryz.prog 171 #[theDisk b, .string name] w fun e w' => e = .returned (.tuple #[]) ∧ ∃ s', Rep w' base b { S with files := without name.data.toList S.files } s' ∧ s'.sz = total (without name.data.toList S.files) ∧ Turn (foot b S) w w' := by
  obtain ⟨hmem, hnm⟩ := find_mem hf
  obtain ⟨m, hm⟩ : ∃ m, S.mp = some m := by
    cases e : S.mp with
    | none => rw [hR.mapN e] at hmem; cases hmem
    | some m => exact ⟨m, rfl⟩
  obtain ⟨ao, c, hfc, hown, hrow, hsy⟩ := (hR.files f hmem).own
  obtain ⟨hbf, hmf, hnd⟩ := hR.apart2 f hmem
  have hblk : f.blk ∈ f.foot := by simp [FM.foot]
  have hsub : f.blk ∈ foot b S := by simp only [foot, List.mem_cons, List.mem_append, List.mem_flatMap]; exact .inr (.inr ⟨f, hmem, hblk⟩)
  have hmS : m ∈ foot b S := by simp [foot, hm]
  have hbb : b ≠ f.blk := fun e => hbf (e ▸ hblk)
  have hlk : ∀ n, (Instr.lookup 74 s.fs (.string name) false).run Tryz.prog (w.drewN n) = .ok (.pointer (some ⟨f.blk, 0, none⟩)) (w.drewN n) := by
    intro n
    have := (hR.new ((Turn.refl [] w).drewN n)).look name hl
    rw [this]; simp [ptrOf, hf]
  have hlk0 : (Instr.lookup 74 s.fs (.string name) false).run Tryz.prog w = .ok (.pointer (some ⟨f.blk, 0, none⟩)) w := hlk 0
  have hft := le_total hmem
  have hcp := owns_cap hown
  have HS := Lib.hid (shorten_any b f.blk s ao f.bytes.length c f.sy 0 w hR.disk hfc (Nat.zero_le _) hcp.1 hcp.2 hbb (by omega) (by omega))
  have HC := Lib.hid (fun (w2 : World) (hd2 : DiskC w2 b { s with sz := s.sz - (f.bytes.length - (0 : Nat)) }) (hf2 : FileC w2 f.blk (.slice ao 0 c) (min (f.sy : Int) (0 : Nat))) (t2 : Turn [b, f.blk] w w2) =>
    cut_rep hR hsz f (by rw [hnm]; exact hf) 0 (Nat.zero_le _) ao c hown hrow hsy t2 hd2 hf2 hbase)
  have c5 := hR.disk.c5
  have hkey := keyOf_string_mk Tryz.underlying9 hl
  have HM := Lib.hid (And.intro hm (And.intro hmS (And.intro hsub (And.intro hnm (And.intro hR.names hf)))))
  unfold theDisk
  clear hR hfc hown hrow hsy hbf hmf hnd hblk hbb hft hcp hf hmem hnm hsub hsz hs1 hbase hm hmS hl
  go_enter Tryz.func171, Tryz.ntmps171
  go_wp2_with fail
  refine HS.out.mono ?_
  rintro e w2 ⟨rfl, hd2, hf2, t2⟩
  have hR2 := HC.out w2 hd2 hf2 ⟨t2.os, t2.tape, t2.output, t2.size, t2.block⟩
  obtain ⟨D, hown2, h1, h2, h3⟩ := hR2.mapS m HM.out.1
  have d5 := hR2.disk.c5
  rw [hR2.fs] at d5
  rw [show ({ S with files := mapF f.name (cutTo 0) S.files } : DM).mp = some m from HM.out.1] at d5
  have HR2 := Lib.hid (And.intro hR2 (And.intro h1 (And.intro h2 h3)))
  have HT2 : Hid (Turn (foot b S) w w2) := Lib.hid ⟨t2.os, t2.tape, t2.output, t2.size, fun k hk hne => t2.block k hk (by simp; exact ⟨fun e => hne (by simp [foot, e]), fun e => hne (e ▸ HM.out.2.2.1)⟩)⟩
  clear HS HC hd2 hf2 t2 c5 hlk hlk0 hR2 h1 h2 h3
  go_wp2_with (at_delete; refine wpList_delete_own _ rfl _ _ 74 9 rfl 99 law Tryz.underlying74 Rp m _ D rfl hown2 _ _ rfl hkey ?_; intro w3 hown3 hturn3)
  obtain ⟨hR2, h1, h2, h3⟩ := HR2.out
  obtain ⟨hm, hmS, hsub, hnm, hnames, hf⟩ := HM.out
  have t3 : Turn [m] w2 w3 := Turn.of_grown hturn3.grown (by intro k e; cases e; simp)
  have hM3 : MapAt w3 m (without name.data.toList (mapF f.name (cutTo 0) S.files)) := MapAt.del _ (by rw [mapF_names f.name (cutTo 0) (fun _ => rfl)]; exact hnames) h1 h2 h3 (hown2.tidy law) hown3
  have hR3 := hR2.without name.data.toList m hm t3 hM3
  have e1 : without name.data.toList (mapF f.name (cutTo 0) S.files) = without name.data.toList S.files := by
    rw [hnm]; exact without_mapF name.data.toList (cutTo 0) (fun _ => rfl) S.files
  have e2 := total_mapF f.name (cutTo 0) S.files f (by rw [hnm]; exact hf) hnames
  have e3 := total_without name.data.toList S.files f hf hnames
  have e4 : total (mapF f.name (cutTo 0) S.files) = total (without name.data.toList S.files) := by
    simp [cutTo] at e2; omega
  simp only [e1] at hR3
  rw [e4] at hR3
  have HE := Lib.hid (And.intro hR3 (HT2.out.trans (t3.mono (by intro x hx; simp at hx; subst hx; exact hmS))))
  clear HR2 HM hown2 hown3 hturn3 h1 h2 h3 hR2 hM3 e1 e2 e3 e4 HT2 hR3 t3 hkey hmS hsub hnm hnames hf d5
  go_end0
  exact ⟨rfl, _, HE.out.1, rfl, HE.out.2⟩
end Go.Proofs.YthcdkggkoanjpaaGreatDoor
namespace Go.Proofs.YthcdkggkoanjpaaGreatDoor
open Go.RowKit Go.Maps Go.Sort Go.WideMaps
theorem create_via (b : Nat) (name : ByteArray) (w : World) (R : Int → World → Prop)
    (hw : ∀ W, W = (w.alloc (.cells #[theDisk b] 27)).alloc (.cells #[.string name] 9) →
      Calls Tryz.prog 60 #[theDisk b, .func (.func 107) #[] #[.pointer (some ⟨w.heap.size + 1, 0, none⟩), .pointer (some ⟨w.heap.size, 0, none⟩)]] W (Left R)) :
    Calls Tryz.prog 65 #[theDisk b, .string name] w (Left R) := by
  have hmf := hmf
  unfold theDisk at hw
  unfold theDisk
  go_enter Tryz.func65, Tryz.ntmps65
  go_wp2_with fail
  refine (hw _ rfl).mono ?_
  rintro e w' ⟨k, rfl, hk⟩
  have HK := Lib.hid hk
  clear hk hw
  go_wp2
  go_ret
  exact ⟨k, rfl, HK.out⟩
theorem read_down (base b : Nat) (S : DM) (s : DS) (name : Value) (w : World) (hR : Rep w base b S s) (hdw : S.dw = true) :
    Calls Tryz.prog 32 #[theDisk b, name] w fun e w' => e = .returned (.tuple #[.slice none 0 0, .int .i64 7]) ∧ w = w' := by
  have c8 := hR.disk.c8
  rw [hR.dw, hdw] at c8
  clear hR
  unfold theDisk
  go_enter Tryz.func32, Tryz.ntmps32
  go_wp2
  go_ret2
  exact ⟨rfl, rfl⟩
theorem down_rep (base b : Nat) (S : DM) (s : DS) (w : World) (hR : Rep w base b S s) :
    Calls Tryz.prog 56 #[theDisk b] w fun e w' => e = .returned (.bool S.dw) ∧ w = w' := by
  have c8 := hR.disk.c8
  rw [hR.dw] at c8
  clear hR
  unfold theDisk
  go_enter Tryz.func56, Tryz.ntmps56
  go_wp2
  go_ret
  exact ⟨rfl, rfl⟩
theorem read_none (base b : Nat) (S : DM) (s : DS) (name : ByteArray) (w : World) (hR : Rep w base b S s) (hdw : S.dw = false) (hf : S.files.find? (named name.data.toList) = none) (hl : name.size ≤ maxLen) :
    Calls Tryz.prog 32 #[theDisk b, .string name] w fun e w' => e = .returned (.tuple #[.slice none 0 0, .int .i64 3]) ∧ w = w' := by
  have c8 := hR.disk.c8
  rw [hR.dw, hdw] at c8
  have c5 := hR.disk.c5
  have hlk : (Instr.lookup 74 s.fs (.string name) false).run Tryz.prog w = .ok (.pointer none) w := by
    rw [hR.look name hl]; simp [ptrOf, hf]
  clear hR hdw hf hl
  unfold theDisk
  go_enter Tryz.func32, Tryz.ntmps32
  go_wp2
  go_ret2
  exact ⟨rfl, rfl⟩
theorem append_via (b : Nat) (name : ByteArray) (aob : Option Addr) (nb cb : Nat) (w : World) (R : Int → World → Prop)
    (hw : ∀ W, W = ((w.alloc (.cells #[theDisk b] 27)).alloc (.cells #[.string name] 9)).alloc (.cells #[.slice aob nb cb] 24) →
      Calls Tryz.prog 60 #[theDisk b, .func (.func 61) #[] #[.pointer (some ⟨w.heap.size, 0, none⟩), .pointer (some ⟨w.heap.size + 1, 0, none⟩), .pointer (some ⟨w.heap.size + 1 + 1, 0, none⟩)]] W (Left R)) :
    Calls Tryz.prog 33 #[theDisk b, .string name, .slice aob nb cb] w (Left R) := by
  have hmf := hmf
  unfold theDisk at hw
  unfold theDisk
  go_enter Tryz.func33, Tryz.ntmps33
  go_wp2_with fail
  refine (hw _ rfl).mono ?_
  rintro e w' ⟨k, rfl, hk⟩
  have HK := Lib.hid hk
  clear hk hw
  go_wp2
  go_ret
  exact ⟨k, rfl, HK.out⟩
theorem append_clo_none (pd pn pb base b : Nat) (S : DM) (s : DS) (name : ByteArray) (vb : Value) (w : World) (hR : Rep w base b S s)
    (hd : w.cell? ⟨pd, 0, none⟩ = some (theDisk b)) (hn : w.cell? ⟨pn, 0, none⟩ = some (.string name)) (_hb : w.cell? ⟨pb, 0, none⟩ = some vb)
    (hf : S.files.find? (named name.data.toList) = none) (hl : name.size ≤ maxLen) :
    Calls Tryz.prog 61 #[.pointer (some ⟨pd, 0, none⟩), .pointer (some ⟨pn, 0, none⟩), .pointer (some ⟨pb, 0, none⟩)] w (Left fun k w' => k = 3 ∧ Turn [] w w') := by
  have hlk : ∀ n, (Instr.lookup 74 s.fs (.string name) false).run Tryz.prog (w.drewN n) = .ok (.pointer none) (w.drewN n) := by
    intro n
    have := (hR.new ((Turn.refl [] w).drewN n)).look name hl
    rw [this]; simp [ptrOf, hf]
  have c5 := hR.disk.c5
  unfold theDisk at hd
  clear hR hf hl
  go_enter Tryz.func61, Tryz.ntmps61
  go_wp2
  go_quiet (fail)
  go_wp2
  go_ret
  exact ⟨3, rfl, rfl, (Turn.refl [] w).drewN _⟩
theorem append_clo_full (pd pn pb base b : Nat) (S : DM) (s : DS) (name : ByteArray) (aob : Option Addr) (nb cb : Nat) (f : FM) (w : World) (hR : Rep w base b S s)
    (hd : w.cell? ⟨pd, 0, none⟩ = some (theDisk b)) (hn : w.cell? ⟨pn, 0, none⟩ = some (.string name)) (hb : w.cell? ⟨pb, 0, none⟩ = some (.slice aob nb cb))
    (hf : S.files.find? (named name.data.toList) = some f) (hl : name.size ≤ maxLen) (hsz : s.sz = total S.files) (hs1 : total S.files + nb < 1000000000) (hcap : S.cap < (total S.files : Int) + nb) :
    Calls Tryz.prog 61 #[.pointer (some ⟨pd, 0, none⟩), .pointer (some ⟨pn, 0, none⟩), .pointer (some ⟨pb, 0, none⟩)] w (Left fun k w' => k = 5 ∧ Turn [] w w') := by
  have hlk : ∀ n, (Instr.lookup 74 s.fs (.string name) false).run Tryz.prog (w.drewN n) = .ok (.pointer (some ⟨f.blk, 0, none⟩)) (w.drewN n) := by
    intro n
    have := (hR.new ((Turn.refl [] w).drewN n)).look name hl
    rw [this]; simp [ptrOf, hf]
  have c5 := hR.disk.c5
  have c0 := hR.disk.c0
  have c6 := hR.disk.c6
  rw [hR.cap] at c0
  rw [hsz] at c6
  generalize total S.files = T at *
  generalize S.cap = C at *
  have HCAP : decide (C < (T : Int) + (nb : Int)) = true := by simp; omega
  have HC2 : C < (T : Int) + (nb : Int) := hcap
  unfold theDisk at hd
  clear hR hf hl hsz
  go_enter Tryz.func61, Tryz.ntmps61
  go_wp2
  go_quiet (fail)
  go_wp2
  go_quiet (fail)
  go_wp2
  go_ret
  rw [World.drewN_drewN]
  exact ⟨5, rfl, rfl, (Turn.refl [] w).drewN _⟩
theorem rename_clo_none (pd pn pt base b : Nat) (S : DM) (s : DS) (src dst : ByteArray) (w : World) (hR : Rep w base b S s)
    (hd : w.cell? ⟨pd, 0, none⟩ = some (theDisk b)) (hn : w.cell? ⟨pn, 0, none⟩ = some (.string src)) (_ht : w.cell? ⟨pt, 0, none⟩ = some (.string dst)) (hf : S.files.find? (named src.data.toList) = none) (hl : src.size ≤ maxLen) :
    Calls Tryz.prog 172 #[.pointer (some ⟨pd, 0, none⟩), .pointer (some ⟨pn, 0, none⟩), .pointer (some ⟨pt, 0, none⟩)] w (Left fun k w' => k = 3 ∧ Turn [] w w') := by
  have hlk : ∀ n, (Instr.lookup 74 s.fs (.string src) false).run Tryz.prog (w.drewN n) = .ok (.pointer none) (w.drewN n) := by
    intro n
    have := (hR.new ((Turn.refl [] w).drewN n)).look src hl
    rw [this]; simp [ptrOf, hf]
  have c5 := hR.disk.c5
  unfold theDisk at hd
  clear hR hf hl
  go_enter Tryz.func172, Tryz.ntmps172
  go_wp2_with fail
  go_quiet (fail)
  go_wp2_with fail
  go_ret
  exact ⟨3, rfl, rfl, (Turn.refl [] w).drewN _⟩
theorem rename_clo_arg (pd pn pt base b : Nat) (S : DM) (s : DS) (src : ByteArray) (f : FM) (w : World) (hR : Rep w base b S s)
    (hd : w.cell? ⟨pd, 0, none⟩ = some (theDisk b)) (hn : w.cell? ⟨pn, 0, none⟩ = some (.string src)) (ht : w.cell? ⟨pt, 0, none⟩ = some (.string ⟨#[]⟩)) (hf : S.files.find? (named src.data.toList) = some f) (hl : src.size ≤ maxLen) :
    Calls Tryz.prog 172 #[.pointer (some ⟨pd, 0, none⟩), .pointer (some ⟨pn, 0, none⟩), .pointer (some ⟨pt, 0, none⟩)] w (Left fun k w' => k = 1 ∧ Turn [] w w') := by
  have hlk : ∀ n, (Instr.lookup 74 s.fs (.string src) false).run Tryz.prog (w.drewN n) = .ok (.pointer (some ⟨f.blk, 0, none⟩)) (w.drewN n) := by
    intro n
    have := (hR.new ((Turn.refl [] w).drewN n)).look src hl
    rw [this]; simp [ptrOf, hf]
  have c5 := hR.disk.c5
  unfold theDisk at hd
  clear hR hf hl
  go_enter Tryz.func172, Tryz.ntmps172
  go_wp2_with fail
  go_quiet (fail)
  go_wp2_with fail
  go_ret
  exact ⟨1, rfl, rfl, (Turn.refl [] w).drewN _⟩
theorem rename_clo_same (pd pn pt base b : Nat) (S : DM) (s : DS) (src : ByteArray) (f : FM) (w : World) (hR : Rep w base b S s)
    (hd : w.cell? ⟨pd, 0, none⟩ = some (theDisk b)) (hn : w.cell? ⟨pn, 0, none⟩ = some (.string src)) (ht : w.cell? ⟨pt, 0, none⟩ = some (.string src)) (hf : S.files.find? (named src.data.toList) = some f) (hne : src.toList.isEmpty = false) (hl : src.size ≤ maxLen) :
    Calls Tryz.prog 172 #[.pointer (some ⟨pd, 0, none⟩), .pointer (some ⟨pn, 0, none⟩), .pointer (some ⟨pt, 0, none⟩)] w (Left fun k w' => k = 0 ∧ Turn [] w w') := by
  have hlk : ∀ n, (Instr.lookup 74 s.fs (.string src) false).run Tryz.prog (w.drewN n) = .ok (.pointer (some ⟨f.blk, 0, none⟩)) (w.drewN n) := by
    intro n
    have := (hR.new ((Turn.refl [] w).drewN n)).look src hl
    rw [this]; simp [ptrOf, hf]
  have c5 := hR.disk.c5
  have hst : (src.toList == src.toList) = true := by simp
  unfold theDisk at hd
  clear hR hf hl
  go_enter Tryz.func172, Tryz.ntmps172
  go_wp2_with fail
  go_quiet (fail)
  go_wp2_with fail
  go_ret
  exact ⟨0, rfl, rfl, (Turn.refl [] w).drewN _⟩
theorem remove_clo_none (pd pn base b : Nat) (S : DM) (s : DS) (name : ByteArray) (w : World) (hR : Rep w base b S s)
    (hd : w.cell? ⟨pd, 0, none⟩ = some (theDisk b)) (hn : w.cell? ⟨pn, 0, none⟩ = some (.string name)) (hf : S.files.find? (named name.data.toList) = none) (hl : name.size ≤ maxLen) :
    Calls Tryz.prog 170 #[.pointer (some ⟨pd, 0, none⟩), .pointer (some ⟨pn, 0, none⟩)] w (Left fun k w' => k = 3 ∧ Turn [] w w') := by
  have hlk : ∀ n, (Instr.lookup 74 s.fs (.string name) false).run Tryz.prog (w.drewN n) = .ok (.pointer none) (w.drewN n) := by
    intro n
    have := (hR.new ((Turn.refl [] w).drewN n)).look name hl
    rw [this]; simp [ptrOf, hf]
  have c5 := hR.disk.c5
  unfold theDisk at hd
  clear hR hf hl
  go_enter Tryz.func170, Tryz.ntmps170
  go_wp2_with fail
  go_quiet (fail)
  go_wp2_with fail
  go_ret
  exact ⟨3, rfl, rfl, (Turn.refl [] w).drewN _⟩
theorem remove_clo_some (pd pn base b : Nat) (S : DM) (s : DS) (name : ByteArray) (f : FM) (w : World) (hR : Rep w base b S s)
    (hd : w.cell? ⟨pd, 0, none⟩ = some (theDisk b)) (hn : w.cell? ⟨pn, 0, none⟩ = some (.string name)) (hf : S.files.find? (named name.data.toList) = some f) (hl : name.size ≤ maxLen) (hsz : s.sz = total S.files) (hs1 : total S.files < 1000000000) (hbase : base ≤ w.heap.size) :
    Calls Tryz.prog 170 #[.pointer (some ⟨pd, 0, none⟩), .pointer (some ⟨pn, 0, none⟩)] w (Left fun k w' => k = 0 ∧ ∃ s', Rep w' base b { S with files := without name.data.toList S.files } s' ∧ s'.sz = total (without name.data.toList S.files) ∧ Turn (foot b S) w w') := by
  have hlk : ∀ n, (Instr.lookup 74 s.fs (.string name) false).run Tryz.prog (w.drewN n) = .ok (.pointer (some ⟨f.blk, 0, none⟩)) (w.drewN n) := by
    intro n
    have := (hR.new ((Turn.refl [] w).drewN n)).look name hl
    rw [this]; simp [ptrOf, hf]
  have c5 := hR.disk.c5
  have HD := Lib.hid (fun q : Nat => drop_some base b S s name f (w.drewN q) (hR.new ((Turn.refl [] w).drewN q)) hf hl hsz hs1 hbase)
  unfold theDisk at hd HD
  clear hR hf hl hsz hs1 hbase
  go_enter Tryz.func170, Tryz.ntmps170
  go_wp2_with fail
  go_quiet (fail)
  go_wp2_with fail
  refine (HD.out nq).mono ?_
  rintro e w2 ⟨rfl, s', h1, h2, t⟩
  have HE := Lib.hid (And.intro h1 (And.intro h2 (((Turn.refl (foot b S) w).drewN nq).trans t)))
  clear h1 h2 t HD hlk c5 hd hn
  go_wp2_with fail
  go_ret
  exact ⟨0, rfl, rfl, s', HE.out⟩
end Go.Proofs.YthcdkggkoanjpaaGreatDoor
