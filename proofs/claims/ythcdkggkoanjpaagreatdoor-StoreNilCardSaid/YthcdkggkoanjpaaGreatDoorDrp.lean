/- 'drop'. Numbers and types by name. -/
import Derived.Test.YthcdkggkoanjpaaGreatDoorWr2
import Derived.Test.YthcdkggkoanjpaaGreatDoorAp2
import Derived.Test.YthcdkggkoanjpaaGreatDoorRst
import Derived.Test.YthcdkggkoanjpaaGreatDoorFil
/- Cut, that is carried out or refused. Numbers and types by name. -/
namespace Go.Proofs.YthcdkggkoanjpaaGreatDoor
open Go.RowKit Go.Maps Go.Sort Go.WideMaps
def cutTo (n : Nat) (g : FM) : FM := { g with bytes := g.bytes.take n, sy := min g.sy n }
theorem cut_rep {w w' : World} {base b : Nat} {S : DM} {s : DS} (h : Rep w base b S s) (hsz : s.sz = total S.files) (f : FM) (hf : S.files.find? (named f.name) = some f) (n : Nat) (hn : n ≤ f.bytes.length) (ao : Option Addr) (c : Nat)
    (hown : w.ownsRow base 5 1 (.slice ao f.bytes.length c) f.bytes.length (bv f.bytes)) (hrow : (Value.slice ao f.bytes.length c).ownBlock = f.row) (_hsy : f.sy ≤ f.bytes.length)
    (t : Turn [b, f.blk] w w') (hd : DiskC w' b { s with sz := s.sz - (f.bytes.length - n) }) (hfc : FileC w' f.blk (.slice ao n c) (min (f.sy : Int) n)) (hbase : base ≤ w.heap.size) :
    Rep w' base b { S with files := mapF f.name (cutTo n) S.files } { s with sz := total (mapF f.name (cutTo n) S.files) } := by
  obtain ⟨hmem, _⟩ := find_mem hf
  obtain ⟨hbf, hmf, hndf⟩ := h.apart2 f hmem
  have hblk : f.blk ∈ f.foot := by simp [FM.foot]
  have hl : (cutTo n f).bytes.length = n := by simp [cutTo]; omega
  have hrb : ∀ g, f.row = some g → g ≠ f.blk ∧ g ≠ b := by
    intro g hg
    refine ⟨?_, ?_⟩
    · rintro rfl; simp [FM.foot, hg] at hndf
    · rintro rfl; exact hbf (by simp [FM.foot, hg])
  have htot := total_mapF f.name (cutTo n) S.files f hf h.names
  rw [hl] at htot
  have e : s.sz - ((f.bytes.length : Int) - n) = (total (mapF f.name (cutTo n) S.files) : Int) := by omega
  rw [e] at hd
  refine h.file t f hf (cutTo n) (fun _ => rfl) (fun _ => rfl) (by intro x hx; simp at hx; rcases hx with rfl | rfl; exact .inl rfl; exact .inr hblk) ?_ (.inl rfl) _ hd hbase
  have e2 : ((cutTo n f).sy : Int) = min (f.sy : Int) n := by simp [cutTo]; omega
  refine ⟨ao, c, by rw [e2, hl]; exact hfc, ?_, ?_, ?_⟩
  · rw [hl, show bv (cutTo n f).bytes = (bv f.bytes).take n from by simp [cutTo, bv, List.map_take]]
    exact owns_turn (owns_take hown n hn) t (fun g hg => by
      have h0 : (Value.slice ao f.bytes.length c).ownBlock = some g := by cases ao with
        | none => cases hg
        | some a => exact hg
      have := hrb g (hrow.symm.trans h0)
      simp [this])
  · have : (Value.slice ao (cutTo n f).bytes.length c).ownBlock = (Value.slice ao f.bytes.length c).ownBlock := by cases ao <;> rfl
    rw [this]; exact hrow
  · rw [hl]; simp [cutTo]; omega
def Shorter (w : World) (base b : Nat) (S : DM) (ca : Int) (name : List UInt8) (n : Nat) (k : Int) (w' : World) : Prop :=
  k = 0 ∧ ∃ s', Rep w' base b { S with ca := ca, files := mapF name (cutTo n) S.files } s' ∧ s'.sz = total (mapF name (cutTo n) S.files) ∧ Turn (foot b S) w w'
def Refused (w : World) (base b : Nat) (S : DM) (s : DS) (ca : Int) (err : Int) (k : Int) (w' : World) : Prop :=
  k = err ∧ ∃ s', Rep w' base b { S with ca := ca } s' ∧ s'.sz = s.sz ∧ Turn (foot b S) w w'
theorem cut_clo (pd pn pk base b : Nat) (S : DM) (s : DS) (name : ByteArray) (n : Nat) (f : FM) (w : World) (hR : Rep w base b S s)
    (hd : w.cell? ⟨pd, 0, none⟩ = some (theDisk b)) (hn : w.cell? ⟨pn, 0, none⟩ = some (.string name)) (hk : w.cell? ⟨pk, 0, none⟩ = some (.int .i64 n))
    (hf : S.files.find? (named name.data.toList) = some f) (hl : name.size ≤ maxLen) (hnl : n ≤ f.bytes.length) (hsz : s.sz = total S.files) (hs1 : total S.files < 1000000000) (hbase : base ≤ w.heap.size) :
    Calls Tryz.prog 110 #[.pointer (some ⟨pd, 0, none⟩), .pointer (some ⟨pn, 0, none⟩), .pointer (some ⟨pk, 0, none⟩)] w (Left (Shorter w base b S S.ca name.data.toList n)) := by
  obtain ⟨hmem, hnm⟩ := find_mem hf
  obtain ⟨ao, c, hfc, hown, hrow, hsy⟩ := (hR.files f hmem).own
  obtain ⟨hbf, hmf, hnd⟩ := hR.apart2 f hmem
  have hblk : f.blk ∈ f.foot := by simp [FM.foot]
  have hsub : f.blk ∈ foot b S := by simp only [foot, List.mem_cons, List.mem_append, List.mem_flatMap]; exact .inr (.inr ⟨f, hmem, hblk⟩)
  have hbb : b ≠ f.blk := fun e => hbf (e ▸ hblk)
  have hlk : ∀ n, (Instr.lookup 74 s.fs (.string name) false).run Tryz.prog (w.drewN n) = .ok (.pointer (some ⟨f.blk, 0, none⟩)) (w.drewN n) := by
    intro n
    have := (hR.new ((Turn.refl [] w).drewN n)).look name hl
    rw [this]; simp [ptrOf, hf]
  have hft := le_total hmem
  have hcp := owns_cap hown
  have HS := Lib.hid (fun q : Nat => shorten_any b f.blk s ao f.bytes.length c f.sy n (w.drewN q) hR.disk hfc hnl hcp.1 hcp.2 hbb (by omega) (by omega))
  have HC := Lib.hid (fun (q : Nat) (w2 : World) (hd2 : DiskC w2 b { s with sz := s.sz - (f.bytes.length - n) }) (hf2 : FileC w2 f.blk (.slice ao n c) (min (f.sy : Int) n)) (t2 : Turn [b, f.blk] (w.drewN q) w2) =>
    cut_rep hR hsz f (by rw [hnm]; exact hf) n hnl ao c hown hrow hsy ⟨t2.os, t2.tape, t2.output, t2.size, t2.block⟩ hd2 hf2 hbase)
  have c5 := hR.disk.c5
  have f0 := hfc.c0
  have k1 : ¬ ((n : Int) < 0) := by omega
  have k2 : decide ((n : Int) < 0) = false := by simp
  have k3 : decide (f.bytes.length < n) = false := by simp; omega
  have k4 : ¬ (f.bytes.length < n) := by omega
  unfold theDisk at hd
  have HN := Lib.hid (And.intro hnm hsub)
  clear hR hfc hown hrow hsy hbf hmf hnd hblk hbb hft hcp hf hmem hnm hsub hsz hs1 hbase
  go_enter Tryz.func110, Tryz.ntmps110
  go_wp2
  go_quiet (fail)
  go_wp2
  go_quiet (fail)
  go_wp2_with fail
  refine (HS.out _).mono ?_
  rintro e w2 ⟨rfl, hd2, hf2, t2⟩
  have HR2 := Lib.hid (HC.out _ w2 hd2 hf2 t2)
  have HT2 : Hid (Turn (foot b S) w w2) := Lib.hid (⟨t2.os, t2.tape, t2.output, t2.size, fun k hk hne => t2.block k hk (by simp; exact ⟨fun e => hne (by simp [foot, e]), fun e => hne (e ▸ HN.out.2)⟩)⟩)
  clear HS HC hd2 hf2 t2 c5 f0 hlk
  go_wp2_with fail
  go_ret
  have := HR2.out
  rw [HN.out.1] at this
  exact ⟨0, rfl, rfl, _, this, rfl, HT2.out⟩
theorem cut_bad (pd pn pk base b : Nat) (S : DM) (s : DS) (name : ByteArray) (n : Int) (f : FM) (w : World) (hR : Rep w base b S s)
    (hd : w.cell? ⟨pd, 0, none⟩ = some (theDisk b)) (hn : w.cell? ⟨pn, 0, none⟩ = some (.string name)) (hk : w.cell? ⟨pk, 0, none⟩ = some (.int .i64 n))
    (hf : S.files.find? (named name.data.toList) = some f) (hl : name.size ≤ maxLen) (h0 : 0 ≤ n) (hnl : (f.bytes.length : Int) < n) (_hbase : base ≤ w.heap.size) :
    Calls Tryz.prog 110 #[.pointer (some ⟨pd, 0, none⟩), .pointer (some ⟨pn, 0, none⟩), .pointer (some ⟨pk, 0, none⟩)] w (Left (Refused w base b S s S.ca 1)) := by
  obtain ⟨hmem, hnm⟩ := find_mem hf
  obtain ⟨ao, c, hfc, hown, hrow, hsy⟩ := (hR.files f hmem).own
  have hlk : ∀ n, (Instr.lookup 74 s.fs (.string name) false).run Tryz.prog (w.drewN n) = .ok (.pointer (some ⟨f.blk, 0, none⟩)) (w.drewN n) := by
    intro n
    have := (hR.new ((Turn.refl [] w).drewN n)).look name hl
    rw [this]; simp [ptrOf, hf]
  have c5 := hR.disk.c5
  have f0 := hfc.c0
  have k1 : ¬ (n < 0) := by omega
  have k2 : decide (n < 0) = false := by simp; omega
  have k3 : decide ((f.bytes.length : Int) < n) = true := by simp; omega
  unfold theDisk at hd
  have HR := Lib.hid hR
  clear hR hfc hown hrow hsy hf hmem hnm
  go_enter Tryz.func110, Tryz.ntmps110
  go_wp2
  go_quiet (fail)
  go_wp2
  go_quiet (fail)
  go_wp2
  go_ret
  rw [World.drewN_drewN]
  exact ⟨1, rfl, rfl, s, HR.out.new ((Turn.refl [] w).drewN _), rfl, (Turn.refl _ w).drewN _⟩
end Go.Proofs.YthcdkggkoanjpaaGreatDoor

/- A file that is removed: the map's entry is deleted. Numbers and types by name. -/
namespace Go.Proofs.YthcdkggkoanjpaaGreatDoor
open Go.RowKit Go.Maps Go.Sort Go.WideMaps
def without (k : List UInt8) (files : List FM) : List FM := files.filter fun g => !named k g
theorem ownsMap_tight {w : World} {k : TypeId} {R : Value → Option (DataW Unit × List MemPlace)} {b n : Nat} {D : DataW Unit} (h : w.ownsMap Tryz.prog k R b n D) : w.ownsMap Tryz.prog k R b (Maps.size D) D := by
  obtain ⟨es, clock, hb, F, hs, rfl⟩ := h
  refine ⟨es, clock, hb, F, ?_, rfl⟩
  have e1 : Maps.size (DataW.map ((es.toList.map (WideElems.rg Tryz.prog k R)).foldr DataW.insert [])) = es.size := by simp [Maps.size, length_sorted]
  omega
theorem without_length (k : List UInt8) (files : List FM) (hn : (files.map (·.name)).Nodup) : (without k files).length + (if files.any (named k) = true then 1 else 0) = files.length := by
  induction files with
  | nil => rfl
  | cons a l ih =>
    simp only [List.map_cons, List.nodup_cons] at hn
    have h1 := ih hn.2
    by_cases ha : named k a = true
    · have hno : l.any (named k) = false := by
        cases e : l.any (named k) with
        | false => rfl
        | true =>
          obtain ⟨g, hg, hgn⟩ := List.any_eq_true.1 e
          refine absurd (List.mem_map.2 ⟨g, hg, ?_⟩) hn.1
          simp [named] at ha hgn
          rw [ha, hgn]
      rw [hno] at h1
      simp only [without, List.filter_cons, ha, Bool.not_true, Bool.false_eq_true, if_false, List.any_cons, Bool.true_or, if_true, List.length_cons] at h1 ⊢
      omega
    · have ha' : named k a = false := by simpa using ha
      simp only [without, List.filter_cons, ha', Bool.not_false, if_true, List.any_cons, Bool.false_or, List.length_cons] at h1 ⊢
      omega
theorem find_without (k x : List UInt8) (files : List FM) : (without k files).find? (named x) = if x = k then none else files.find? (named x) := by
  induction files with
  | nil => simp [without]
  | cons a l ih =>
    by_cases ha : named k a = true
    · have e : without k (a :: l) = without k l := by simp [without, ha]
      rw [e, ih]
      by_cases hx : x = k
      · simp [hx]
      · have : named x a = false := by
          simp [named] at ha ⊢
          rw [ha]; exact fun e => hx e.symm
        simp [hx, this]
    · have ha' : named k a = false := by simpa using ha
      have e : without k (a :: l) = a :: without k l := by simp [without, ha']
      rw [e, List.find?_cons, List.find?_cons, ih]
      by_cases hx : x = k
      · simp [hx, ha']
      · simp [hx]
theorem any_without (k x : List UInt8) (files : List FM) : (without k files).any (named x) = if x = k then false else files.any (named x) := by
  have h1 : ∀ l : List FM, l.any (named x) = (l.find? (named x)).isSome := by
    intro l
    rw [Bool.eq_iff_iff, List.find?_isSome, List.any_eq_true]
  rw [h1, h1, find_without]
  split <;> rfl
theorem MapAt.del {w' : World} {m : Nat} {files : List FM} {D : DataW Unit} {n : Nat} (k : List UInt8) (hnd : (files.map (·.name)).Nodup) (h1 : Maps.size D = files.length) (h2 : ∀ x, D.atKey (.string x) .nil = Go.Proofs.YthcdkggkoanjpaaGreatDoor.lookD files x) (h3 : ∀ x, Maps.has D (.string x) = files.any (named x))
    (hT : Tidy D) (hown : w'.ownsMap Tryz.prog 9 Rp m n (D.del (.string k))) : MapAt w' m (without k files) := by
  have hl : Maps.size (D.del (.string k)) = (without k files).length := by
    have e1 := size_del (k := .string k) hT
    have e2 := without_length k files hnd
    rw [h3] at e1
    omega
  refine ⟨_, by rw [← hl]; exact ownsMap_tight hown, hl, fun x => ?_, fun x => ?_⟩
  · by_cases hx : x = k
    · subst hx
      rw [atKey_del_same]
      unfold Go.Proofs.YthcdkggkoanjpaaGreatDoor.lookD
      rw [find_without]
      simp
    · rw [atKey_del_other (by simpa using hx), h2]
      unfold Go.Proofs.YthcdkggkoanjpaaGreatDoor.lookD
      rw [find_without, if_neg hx]
  · rw [any_without]
    by_cases hx : x = k
    · subst hx
      rw [has_del_same]
      simp
    · rw [has_del_other (by simpa using hx), h3, if_neg hx]
theorem mem_without {k : List UInt8} {files : List FM} {g : FM} (h : g ∈ without k files) : g ∈ files ∧ g.name ≠ k := by
  have h1 := List.mem_filter.1 h
  refine ⟨h1.1, ?_⟩
  have := h1.2
  simp [named] at this
  exact this
theorem Rep.without {w w' : World} {base b : Nat} {S : DM} {s : DS} (h : Rep w base b S s) (k : List UInt8) (m : Nat) (hm : S.mp = some m) (t : Turn [m] w w') (hM : MapAt w' m (without k S.files)) :
    Rep w' base b { S with files := without k S.files } s := by
  have hfoot : ∀ x, x ∈ foot b { S with files := Go.Proofs.YthcdkggkoanjpaaGreatDoor.without k S.files } → x ∈ foot b S := by
    intro x hx
    simp only [foot, List.mem_cons, List.mem_append, List.mem_flatMap] at hx ⊢
    rcases hx with hx | hx | ⟨f, hf, hx⟩
    · exact .inl hx
    · exact .inr (.inl hx)
    · exact .inr (.inr ⟨f, (mem_without hf).1, hx⟩)
  have hmf : m ∈ foot b S := by simp [foot, hm]
  obtain ⟨ao, c, ao', c', g1, g2, g3, g4, g5, g6, g7, g8⟩ := h.lists
  exact {
    disk := h.disk.turn t (by simpa using h.apart1 m hm)
    cap := h.cap
    cr := h.cr
    ca := h.ca
    dn := h.dn
    dw := h.dw
    fs := h.fs
    lists := ⟨ao, c, ao', c', g1, g2, owns_turn g3 t (fun g hg => by
        have := g7 g (g5.symm.trans hg); simp; rintro rfl; exact this hmf), owns_turn g4 t (fun g hg => by
        have := g8 g (g6.symm.trans hg); simp; rintro rfl; exact this hmf), g5, g6, (fun g hg hx => g7 g hg (hfoot g hx)), (fun g hg hx => g8 g hg (hfoot g hx))⟩
    mapN := fun e => by rw [show ({ S with files := Go.Proofs.YthcdkggkoanjpaaGreatDoor.without k S.files } : DM).mp = S.mp from rfl, hm] at e; cases e
    mapS := fun m' hm' => by
      obtain rfl : m = m' := by
        have : S.mp = some m' := hm'
        rw [hm] at this; simpa using this
      exact hM
    files := fun f hf => (h.files f (mem_without hf).1).keep t (fun x hx => by
      simp only [List.mem_singleton]; rintro rfl; exact (h.apart2 f (mem_without hf).1).2.1 _ hm hx)
    apart1 := h.apart1
    apart2 := fun f hf => h.apart2 f (mem_without hf).1
    apart3 := h.apart3.sublist List.filter_sublist
    low := fun x hx => h.low x (hfoot x hx)
    names := h.names.sublist (List.filter_sublist.map _)
    sorted := h.sorted }
theorem without_mapF (k : List UInt8) (u : FM → FM) (hu : ∀ g, (u g).name = g.name) (files : List FM) : Go.Proofs.YthcdkggkoanjpaaGreatDoor.without k (mapF k u files) = Go.Proofs.YthcdkggkoanjpaaGreatDoor.without k files := by
  induction files with
  | nil => rfl
  | cons a l ih =>
    unfold Go.Proofs.YthcdkggkoanjpaaGreatDoor.without mapF at *
    rw [List.map_cons]
    by_cases ha : named k a = true
    · have h2 : named k (u a) = true := by simp [named, hu] at ha ⊢; exact ha
      simp only [ha, if_true, List.filter_cons, h2, Bool.not_true, Bool.false_eq_true, if_false]
      exact ih
    · have ha' : named k a = false := by simpa using ha
      simp only [ha', Bool.false_eq_true, if_false, List.filter_cons, Bool.not_false, if_true]
      rw [ih]
theorem total_without (k : List UInt8) (files : List FM) (f : FM) (hf : files.find? (named k) = some f) (hn : (files.map (·.name)).Nodup) : total (Go.Proofs.YthcdkggkoanjpaaGreatDoor.without k files) + f.bytes.length = total files := by
  induction files with
  | nil => cases hf
  | cons a l ih =>
    simp only [List.map_cons, List.nodup_cons] at hn
    rw [List.find?_cons] at hf
    by_cases ha : named k a = true
    · simp only [ha] at hf
      obtain rfl := Option.some.inj hf
      have e : Go.Proofs.YthcdkggkoanjpaaGreatDoor.without k (a :: l) = l := by
        have : Go.Proofs.YthcdkggkoanjpaaGreatDoor.without k l = l := by
          refine List.filter_eq_self.2 fun g hg => ?_
          cases e : named k g with
          | false => rfl
          | true =>
            refine absurd (List.mem_map.2 ⟨g, hg, ?_⟩) hn.1
            simp [named] at ha e
            rw [ha, e]
        simpa [Go.Proofs.YthcdkggkoanjpaaGreatDoor.without, ha] using this
      rw [e]
      simp [total]; omega
    · have ha' : named k a = false := by simpa using ha
      simp only [ha'] at hf
      have e : Go.Proofs.YthcdkggkoanjpaaGreatDoor.without k (a :: l) = a :: Go.Proofs.YthcdkggkoanjpaaGreatDoor.without k l := by simp [Go.Proofs.YthcdkggkoanjpaaGreatDoor.without, ha']
      rw [e]
      have := ih hf hn.2
      simp [total] at this ⊢; omega
end Go.Proofs.YthcdkggkoanjpaaGreatDoor

namespace Go.Proofs.YthcdkggkoanjpaaGreatDoor
open Go.RowKit Go.Maps Go.Sort Go.WideMaps
theorem drop_none (base b : Nat) (S : DM) (s : DS) (name : ByteArray) (w : World) (hR : Rep w base b S s) (hf : S.files.find? (named name.data.toList) = none) (hl : name.size ≤ maxLen) :
    Calls Tryz.prog 171 #[theDisk b, .string name] w fun e w' => e = .returned (.tuple #[]) ∧ Turn [] w w' := by
  have c5 := hR.disk.c5
  have hlk : ∀ n, (Instr.lookup 74 s.fs (.string name) false).run Tryz.prog (w.drewN n) = .ok (.pointer none) (w.drewN n) := by
    intro n
    have := (hR.new ((Turn.refl [] w).drewN n)).look name hl
    rw [this]; simp [ptrOf, hf]
  have hlk0 : (Instr.lookup 74 s.fs (.string name) false).run Tryz.prog w = .ok (.pointer none) w := hlk 0
  unfold theDisk
  clear hR hf hl
  go_enter Tryz.func171, Tryz.ntmps171
  go_wp2
  go_end0
  exact ⟨rfl, Turn.refl [] w⟩
set_option maxRecDepth 100000 in
theorem drop_some (base b : Nat) (S : DM) (s : DS) (name : ByteArray) (f : FM) (w : World) (hR : Rep w base b S s) (hf : S.files.find? (named name.data.toList) = some f) (hl : name.size ≤ maxLen) (hsz : s.sz = total S.files) (hs1 : total S.files < 1000000000) (hbase : base ≤ w.heap.size) :
    Calls Tryz.prog 171 #[theDisk b, .string name] w fun e w' => e = .returned (.tuple #[]) ∧ ∃ s', Rep w' base b { S with files := without name.data.toList S.files } s' ∧ s'.sz = total (without name.data.toList S.files) ∧ Turn (foot b S) w w' := by
  obtain ⟨hmem, hnm⟩ := find_mem hf
  obtain ⟨m, hm⟩ : ∃ m, S.mp = some m := by
    cases e : S.mp with
    | none => rw [hR.mapN e] at hmem; cases hmem
    | some m => exact ⟨m, rfl⟩
  obtain ⟨ao, c, hfc, hown, hrow, hsy⟩ := (hR.files f hmem).own
  obtain ⟨hbf, hmf, hnd⟩ := hR.apart2 f hmem
  have hblk : f.blk ∈ f.foot := by simp [FM.foot]
  have hsub : f.blk ∈ foot b S := by simp only [foot, List.mem_cons, List.mem_append, List.mem_flatMap]; exact .inr (.inr ⟨f, hmem, hblk⟩)
  have hmS : m ∈ foot b S := by simp [foot, hm]
  have hbb : b ≠ f.blk := fun e => hbf (e ▸ hblk)
  have hlk : ∀ n, (Instr.lookup 74 s.fs (.string name) false).run Tryz.prog (w.drewN n) = .ok (.pointer (some ⟨f.blk, 0, none⟩)) (w.drewN n) := by
    intro n
    have := (hR.new ((Turn.refl [] w).drewN n)).look name hl
    rw [this]; simp [ptrOf, hf]
  have hlk0 : (Instr.lookup 74 s.fs (.string name) false).run Tryz.prog w = .ok (.pointer (some ⟨f.blk, 0, none⟩)) w := hlk 0
  have hft := le_total hmem
  have hcp := owns_cap hown
  have HS := Lib.hid (shorten_any b f.blk s ao f.bytes.length c f.sy 0 w hR.disk hfc (Nat.zero_le _) hcp.1 hcp.2 hbb (by omega) (by omega))
  have HC := Lib.hid (fun (w2 : World) (hd2 : DiskC w2 b { s with sz := s.sz - (f.bytes.length - (0 : Nat)) }) (hf2 : FileC w2 f.blk (.slice ao 0 c) (min (f.sy : Int) (0 : Nat))) (t2 : Turn [b, f.blk] w w2) =>
    cut_rep hR hsz f (by rw [hnm]; exact hf) 0 (Nat.zero_le _) ao c hown hrow hsy t2 hd2 hf2 hbase)
  have c5 := hR.disk.c5
  have hkey := keyOf_string_mk Tryz.underlying9 hl
  have HM := Lib.hid (And.intro hm (And.intro hmS (And.intro hsub (And.intro hnm (And.intro hR.names hf)))))
  unfold theDisk
  clear hR hfc hown hrow hsy hbf hmf hnd hblk hbb hft hcp hf hmem hnm hsub hsz hs1 hbase hm hmS hl
  go_enter Tryz.func171, Tryz.ntmps171
  go_wp2_with fail
  refine HS.out.mono ?_
  rintro e w2 ⟨rfl, hd2, hf2, t2⟩
  have hR2 := HC.out w2 hd2 hf2 ⟨t2.os, t2.tape, t2.output, t2.size, t2.block⟩
  obtain ⟨D, hown2, h1, h2, h3⟩ := hR2.mapS m HM.out.1
  have d5 := hR2.disk.c5
  rw [hR2.fs] at d5
  rw [show ({ S with files := mapF f.name (cutTo 0) S.files } : DM).mp = some m from HM.out.1] at d5
  have HR2 := Lib.hid (And.intro hR2 (And.intro h1 (And.intro h2 h3)))
  have HT2 : Hid (Turn (foot b S) w w2) := Lib.hid ⟨t2.os, t2.tape, t2.output, t2.size, fun k hk hne => t2.block k hk (by simp; exact ⟨fun e => hne (by simp [foot, e]), fun e => hne (e ▸ HM.out.2.2.1)⟩)⟩
  clear HS HC hd2 hf2 t2 c5 hlk hlk0 hR2 h1 h2 h3
  go_wp2_with (at_delete; refine wpList_delete_own _ rfl _ _ 74 9 rfl 99 law Tryz.underlying74 Rp m _ D rfl hown2 _ _ rfl hkey ?_; intro w3 hown3 hturn3)
  obtain ⟨hR2, h1, h2, h3⟩ := HR2.out
  obtain ⟨hm, hmS, hsub, hnm, hnames, hf⟩ := HM.out
  have t3 : Turn [m] w2 w3 := Turn.of_grown hturn3.grown (by intro k e; cases e; simp)
  have hM3 : MapAt w3 m (without name.data.toList (mapF f.name (cutTo 0) S.files)) := MapAt.del _ (by rw [mapF_names f.name (cutTo 0) (fun _ => rfl)]; exact hnames) h1 h2 h3 (hown2.tidy law) hown3
  have hR3 := hR2.without name.data.toList m hm t3 hM3
  have e1 : without name.data.toList (mapF f.name (cutTo 0) S.files) = without name.data.toList S.files := by
    rw [hnm]; exact without_mapF name.data.toList (cutTo 0) (fun _ => rfl) S.files
  have e2 := total_mapF f.name (cutTo 0) S.files f (by rw [hnm]; exact hf) hnames
  have e3 := total_without name.data.toList S.files f hf hnames
  have e4 : total (mapF f.name (cutTo 0) S.files) = total (without name.data.toList S.files) := by
    simp [cutTo] at e2; omega
  simp only [e1] at hR3
  rw [e4] at hR3
  have HE := Lib.hid (And.intro hR3 (HT2.out.trans (t3.mono (by intro x hx; simp at hx; subst hx; exact hmS))))
  clear HR2 HM hown2 hown3 hturn3 h1 h2 h3 hR2 hM3 e1 e2 e3 e4 HT2 hR3 t3 hkey hmS hsub hnm hnames hf d5
  go_end0
  exact ⟨rfl, _, HE.out.1, rfl, HE.out.2⟩
end Go.Proofs.YthcdkggkoanjpaaGreatDoor
