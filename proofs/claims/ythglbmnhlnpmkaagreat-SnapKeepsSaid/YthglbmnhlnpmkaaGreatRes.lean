/- The names of a disk's files in order; what a restart leaves. Numbers and types by name. -/
import Derived.Test.YthglbmnhlnpmkaaGreatAp2
/- Sync, that is carried out. Numbers and types by name. -/
namespace Go.Proofs.YthglbmnhlnpmkaaGreat
open Go.RowKit Go.Maps Go.Sort Go.WideMaps

def synced (g : FM) : FM := { g with sy := g.bytes.length }

def AllSynced (w : World) (base b : Nat) (S : DM) (s : DS) (ca : Int) (name : List UInt8) (k : Int) (w' : World) : Prop :=
  k = 0 ∧ ∃ s', Rep w' base b { S with ca := ca, files := mapF name synced S.files } s' ∧ s'.sz = s.sz ∧ Turn (foot b S) w w'

theorem sync_walk (pd pn b fb : Nat) (name : ByteArray) (fs : Value) (ao : Option Addr) (n c : Nat) (sy : Int) (w : World)
    (hd : w.cell? ⟨pd, 0, none⟩ = some (.pointer (some ⟨b, 0, none⟩))) (hn : w.cell? ⟨pn, 0, none⟩ = some (.string name)) (c5 : w.cell? ⟨b, 5, none⟩ = some fs)
    (f0 : w.cell? ⟨fb, 0, none⟩ = some (.slice ao n c)) (f1 : w.cell? ⟨fb, 1, none⟩ = some (.int .i64 sy)) (g1 : w.frozen? ⟨fb, 1, none⟩ = false)
    (hlk : ∀ n, (Instr.lookup 57 fs (.string name) false).run Tryz.prog (w.drewN n) = .ok (.pointer (some ⟨fb, 0, none⟩)) (w.drewN n)) :
    Calls Tryz.prog 93 #[.pointer (some ⟨pd, 0, none⟩), .pointer (some ⟨pn, 0, none⟩)] w fun e w' => e = .returned (.int .i64 0) ∧ ∃ n1, w' = (w.setCell ⟨fb, 1, none⟩ (.int .i64 n)).drewN n1 := by
  go_enter Tryz.func93, Tryz.ntmps93
  go_wp2
  go_quiet (fail)
  go_wp2
  go_ret
  exact ⟨rfl, _, rfl⟩

theorem sync_clo (pd pn base b : Nat) (S : DM) (s : DS) (name : ByteArray) (f : FM) (w : World) (hR : Rep w base b S s)
    (hd : w.cell? ⟨pd, 0, none⟩ = some (theDisk b)) (hn : w.cell? ⟨pn, 0, none⟩ = some (.string name))
    (hf : S.files.find? (named name.data.toList) = some f) (hl : name.size ≤ maxLen) (hbase : base ≤ w.heap.size) :
    Calls Tryz.prog 93 #[.pointer (some ⟨pd, 0, none⟩), .pointer (some ⟨pn, 0, none⟩)] w (Left (AllSynced w base b S s S.ca name.data.toList)) := by
  obtain ⟨hmem, hnm⟩ := find_mem hf
  obtain ⟨ao, c, hfc, hown, hrow, hsy⟩ := (hR.files f hmem).own
  obtain ⟨hbf, hmf, hnd⟩ := hR.apart2 f hmem
  have hsub : ∀ x ∈ f.foot, x ∈ foot b S := fun x hx => by simp only [foot, List.mem_cons, List.mem_append, List.mem_flatMap]; exact .inr (.inr ⟨f, hmem, hx⟩)
  have hblk : f.blk ∈ f.foot := by simp [FM.foot]
  have hbb : b ≠ f.blk := fun e => hbf (e ▸ hblk)
  have hlk : ∀ n, (Instr.lookup 57 s.fs (.string name) false).run Tryz.prog (w.drewN n) = .ok (.pointer (some ⟨f.blk, 0, none⟩)) (w.drewN n) := by
    intro n
    have := (hR.new ((Turn.refl [] w).drewN n)).look name hl
    rw [this]; simp [ptrOf, hf]
  refine (sync_walk pd pn b f.blk name s.fs ao f.bytes.length c f.sy w hd hn hR.disk.c5 hfc.c0 hfc.c1 (hfc.free 1) hlk).mono ?_
  rintro e w' ⟨rfl, n1, rfl⟩
  have t : Turn [f.blk] w (w.setCell ⟨f.blk, 1, none⟩ (.int .i64 f.bytes.length)) := (Turn.refl _ w).set (.inl (by simp)) 1 _
  have hrb : ∀ g, f.row = some g → g ≠ f.blk := by
    rintro g hg rfl
    simp [FM.foot, hg] at hnd
  refine ⟨0, rfl, rfl, s, ?_, rfl, (t.mono (by intro x hx; simp at hx; subst hx; exact hsub _ hblk)).drewN n1⟩
  have := hR.file t f (by rw [hnm]; exact hf) synced (fun _ => rfl) (fun _ => rfl) (by intro x hx; simp at hx; subst hx; exact .inr hblk)
    ⟨ao, c, hfc.set1 _, owns_turn hown t (fun g hg => by simpa using hrb g (hrow.symm.trans hg)), hrow, Nat.le_refl _⟩ (.inl rfl) s.sz (hR.disk.turn t (by simpa using hbb)) hbase
  rw [hnm] at this
  exact this.new ((Turn.refl [] _).drewN n1)

theorem sync_ok (base b : Nat) (S : DM) (s : DS) (name : ByteArray) (f : FM) (w : World) (hR : Rep w base b S s) (hr : Runs S) (hf : S.files.find? (named name.data.toList) = some f) (hl : name.size ≤ maxLen) (hbase : base ≤ w.heap.size) :
    Calls Tryz.prog 67 #[theDisk b, .string name] w (Left (AllSynced w base b S s (S.ca + 1) name.data.toList)) := by
  have hw : ∀ W, W = (w.alloc (.cells #[theDisk b] 25)).alloc (.cells #[.string name] 9) →
      Calls Tryz.prog 51 #[theDisk b, .func (.func 93) #[] #[.pointer (some ⟨w.heap.size, 0, none⟩), .pointer (some ⟨w.heap.size + 1, 0, none⟩)]] W (Left (AllSynced w base b S s (S.ca + 1) name.data.toList)) := by
    rintro W rfl
    have ta : Turn [] w (w.alloc (.cells #[theDisk b] 25)) := (Turn.refl [] w).alloc _
    have tb : Turn [] (w.alloc (.cells #[theDisk b] 25)) ((w.alloc (.cells #[theDisk b] 25)).alloc (.cells #[.string name] 9)) := (Turn.refl [] _).alloc _
    have t0 := ta.trans tb
    have hbl := hR.disk.lt
    refine write_run base b _ _ S s _ _ (hR.new t0) hr.dw hr.cr hr.fail hr.ca0 hr.ca1 hr.fl (enters_of Tryz.func93 (by kernel_rfl) rfl) ?_
    intro w1 hR1 t1
    have hpd : w1.cell? ⟨w.heap.size, 0, none⟩ = some (theDisk b) := box_at ((tb.mono (by simp)).trans t1) (by simp; omega)
    have hpn : w1.cell? ⟨w.heap.size + 1, 0, none⟩ = some (.string name) := by
      have := box_at t1 (by simp; omega)
      simpa using this
    have hs1' : w.heap.size ≤ w1.heap.size := Nat.le_trans t0.size t1.size
    refine (sync_clo w.heap.size (w.heap.size + 1) base b _ _ name f w1 hR1 hpd hpn hf hl (Nat.le_trans hbase hs1')).mono ?_
    rintro e w' ⟨k, rfl, hk, s', h1, h2, h3⟩
    exact ⟨k, rfl, hk, s', h1, h2, (t0.mono (by simp)).trans ((t1.mono (by intro x hx; simp at hx; subst hx; simp [foot])).trans h3)⟩
  have hmf := hmf
  unfold theDisk at hw
  unfold theDisk
  clear hR hr hf hl hbase
  go_enter Tryz.func67, Tryz.ntmps67
  go_wp2_with fail
  refine (hw _ rfl).mono ?_
  rintro e w' ⟨k, rfl, hk⟩
  have HK := Lib.hid hk
  clear hk hw
  go_wp2
  go_ret
  exact ⟨k, rfl, HK.out⟩

end Go.Proofs.YthglbmnhlnpmkaaGreat

/- Read, of a file that is there. Numbers and types by name. -/
namespace Go.Proofs.YthglbmnhlnpmkaaGreat
open Go.RowKit Go.Maps Go.Sort Go.WideMaps

theorem FileAt.reads {w : World} {base : Nat} {f : FM} (h : FileAt w base f) : ∃ v, FileC w f.blk v f.sy ∧ Reads w v (bv f.bytes) := by
  obtain ⟨ao, c, h1, h2, _⟩ := h
  exact ⟨_, h1, Reads.own (by simpa [bv_length] using h2)⟩

theorem read_ok (base b : Nat) (S : DM) (s : DS) (name : ByteArray) (f : FM) (w : World) (hR : Rep w base b S s) (hdw : S.dw = false) (hf : S.files.find? (named name.data.toList) = some f) (hl : name.size ≤ maxLen) (hbytes : f.bytes.length < 1000000000) :
    Calls Tryz.prog 40 #[theDisk b, .string name] w fun e w' => ∃ ao c, e = .returned (.tuple #[.slice ao f.bytes.length c, .int .i64 0]) ∧ w'.ownsRow w.heap.size 5 1 (.slice ao f.bytes.length c) f.bytes.length (bv f.bytes) ∧ w.grownBy w' none := by
  obtain ⟨hmem, hnm⟩ := find_mem hf
  obtain ⟨v, hfc, hr⟩ := (hR.files f hmem).reads
  have c8 := hR.disk.c8
  rw [hR.dw, hdw] at c8
  have c5 := hR.disk.c5
  have f0 := hfc.c0
  have hlk : (Instr.lookup 57 s.fs (.string name) false).run Tryz.prog w = .ok (.pointer (some ⟨f.blk, 0, none⟩)) w := by
    rw [hR.look name hl]; simp [ptrOf, hf]
  have hcp := copied_byte v f.bytes w hr (by omega)
  have hsh : ∃ aov nv cv, v = .slice aov nv cv := by obtain ⟨aov, cv, rfl, _⟩ := hr; exact ⟨_, _, _, rfl⟩
  obtain ⟨aov, nv, cv, rfl⟩ := hsh
  clear hR hdw hf hl hbytes hmem hnm hfc hr
  unfold theDisk
  go_enter Tryz.func40, Tryz.ntmps40
  go_wp2_with fail
  refine hcp.mono ?_
  rintro e w' ⟨ao, c, rfl, h1, h2⟩
  go_wp2
  go_ret2
  exact ⟨ao, c, rfl, h1, h2⟩

end Go.Proofs.YthglbmnhlnpmkaaGreat

namespace Go.Proofs.YthglbmnhlnpmkaaGreat
open Go.RowKit Go.Maps Go.Sort Go.WideMaps

def sortedNames (files : List FM) : List (List UInt8) := (files.map (·.name)).mergeSort leB

theorem sortedNames_perm (files : List FM) : (sortedNames files).Perm (files.map (·.name)) := List.mergeSort_perm _ _

theorem names_rep (base b : Nat) (S : DM) (s : DS) (w : World) (hR : Rep w base b S s) (hlen : S.files.length < 1000000) :
    Calls Tryz.prog 26 #[theDisk b] w fun e w' => ∃ ao c, e = .returned (.slice ao (sortedNames S.files).length c) ∧
      w'.ownsRow w.heap.size 9 1 (.slice ao (sortedNames S.files).length c) (sortedNames S.files).length ((sortedNames S.files).map encStr) ∧ w.grownBy w' none := by
  cases hm : S.mp with
  | none =>
    refine (names_none b s w hR.disk (by rw [hR.fs, hm])).mono ?_
    rintro e w' ⟨rfl, hg⟩
    have : sortedNames S.files = [] := by simp [sortedNames, hR.mapN hm]
    rw [this]
    exact ⟨none, 0, rfl, World.ownsRow_nil _ _ _ _, hg⟩
  | some m =>
    obtain ⟨D, hown, h1, h2, h3⟩ := hR.mapS m hm
    refine (names_some b m _ s D Rp w hR.disk (by rw [hR.fs, hm]) hown (by rw [h1]; unfold maxLen; omega) (by rw [h1]; omega)).mono ?_
    rintro e w' ⟨v, ss, rfl, hp, hrow, _, hg⟩
    have hp2 := (hR.mapS m hm).perm hR.names hown h3
    have e1 : ss.mergeSort (fun x y => decide (x ≤ y)) = sortedNames S.files := mergeSort_of_perm (hp.trans hp2.symm)
    have e2 : ss.length = (sortedNames S.files).length := by rw [← e1]; simp
    rw [e1, e2] at hrow
    obtain ⟨ao, c, rfl⟩ := owns_shape hrow
    exact ⟨ao, c, rfl, hrow, hg⟩

/-- What stays of a file of which q bytes more than those that are synced stay. -/
def survive (q : Int) (g : FM) : FM :=
  { g with bytes := g.bytes.take (g.sy + min q.toNat (g.bytes.length - g.sy)), sy := g.sy + min q.toNat (g.bytes.length - g.sy) }

/-- Behind k files in the order ss. -/
def resF (keep : List Int) (ss : List (List UInt8)) (files : List FM) : Nat → List FM
  | 0 => files
  | k + 1 => mapF (ss.getD k []) (survive (keep.getD k 0)) (resF keep ss files k)

theorem resF_names (keep : List Int) (ss : List (List UInt8)) (files : List FM) (k : Nat) : (resF keep ss files k).map (·.name) = files.map (·.name) := by
  induction k with
  | zero => rfl
  | succ k ih => rw [resF, mapF_names _ (survive _) (fun _ => rfl), ih]

theorem mapF_foot (k : List UInt8) (u : FM → FM) (hu : ∀ g, (u g).foot = g.foot) (files : List FM) : (mapF k u files).flatMap FM.foot = files.flatMap FM.foot := by
  unfold mapF
  induction files with
  | nil => rfl
  | cons a l ih =>
    simp only [List.map_cons, List.flatMap_cons, ih]
    congr 1
    split
    · exact hu a
    · rfl

theorem resF_foot (keep : List Int) (ss : List (List UInt8)) (files : List FM) (k : Nat) : (resF keep ss files k).flatMap FM.foot = files.flatMap FM.foot := by
  induction k with
  | zero => rfl
  | succ k ih => rw [resF, mapF_foot _ (survive _) (fun _ => rfl), ih]

theorem total_survive (k : List UInt8) (q : Int) (files : List FM) : total (mapF k (survive q) files) ≤ total files := by
  unfold total mapF
  induction files with
  | nil => simp
  | cons a l ih =>
    simp only [List.map_cons, List.sum_cons]
    have : (if named k a = true then survive q a else a).bytes.length ≤ a.bytes.length := by
      split
      · simp only [survive, List.length_take]; exact Nat.min_le_right _ _
      · exact Nat.le_refl _
    omega

theorem total_resF (keep : List Int) (ss : List (List UInt8)) (files : List FM) (k : Nat) : total (resF keep ss files k) ≤ total files := by
  induction k with
  | zero => exact Nat.le_refl _
  | succ k ih => exact Nat.le_trans (total_survive _ _ _) ih

theorem owns_take {w : World} {base e : Nat} {ao : Option Addr} {len c : Nat} {xs : List Value} (h : w.ownsRow base e 1 (.slice ao len c) len xs) (n : Nat) (hn : n ≤ len) : w.ownsRow base e 1 (.slice ao n c) n (xs.take n) := by
  have hl := h.1
  refine ⟨by simp; omega, ?_⟩
  rcases h.2 with ⟨hv, h0⟩ | ⟨g, cap, cur, hv, hb, hg, h1, h2, h3, h4⟩
  · simp only [Value.slice.injEq] at hv
    obtain ⟨rfl, _, rfl⟩ := hv
    obtain rfl : n = 0 := by omega
    exact .inl ⟨rfl, rfl⟩
  · simp only [Value.slice.injEq] at hv
    obtain ⟨rfl, _, rfl⟩ := hv
    refine .inr ⟨g, c, cur, rfl, hb, hg, by omega, h2, h3, ?_⟩
    rw [← h4, List.take_take]
    congr 1
    omega

theorem find_of_name {files files' : List FM} (hn : files'.map (·.name) = files.map (·.name)) {x : List UInt8} (hx : ∃ f ∈ files, f.name = x) : ∃ f, files'.find? (named x) = some f := by
  obtain ⟨f, hf, rfl⟩ := hx
  have h1 : f.name ∈ files'.map (·.name) := by rw [hn]; exact List.mem_map.2 ⟨f, hf, rfl⟩
  obtain ⟨g, hg, hgn⟩ := List.mem_map.1 h1
  cases h : files'.find? (named f.name) with
  | some g' => exact ⟨g', rfl⟩
  | none =>
    rw [List.find?_eq_none] at h
    exact absurd (by simp [named, hgn]) (h g hg)

theorem own_strs {w : World} {base : Nat} {ao : Option Addr} {c : Nat} {ss : List (List UInt8)} (h : w.ownsRow base 9 1 (.slice ao ss.length c) ss.length (ss.map encStr)) {k : Nat} (hk : k < ss.length) :
    ∃ g, ao = some ⟨g, 0, none⟩ ∧ w.cell? ⟨g, k, none⟩ = some (encStr (ss.getD k [])) := by
  rcases h.2 with ⟨h, h0⟩ | ⟨g, cap, cur, h, hb, hg, h1, h2, h3, h4⟩
  · omega
  · simp only [Value.slice.injEq] at h
    obtain ⟨rfl, _, rfl⟩ := h
    refine ⟨g, rfl, ?_⟩
    have e1 : (cur.toList.take ss.length)[k]? = (ss.map encStr)[k]? := by rw [← h4]; simp
    rw [List.getElem?_take_of_lt hk] at e1
    simp only [World.cell?, hg]
    simp only [Option.isSome_none, Bool.false_eq_true, if_false]
    rw [← Array.getElem?_toList, e1]
    simp [hk]

theorem le_total {files : List FM} {f : FM} (hf : f ∈ files) : f.bytes.length ≤ total files := by
  unfold total
  induction files with
  | nil => cases hf
  | cons a l ih =>
    simp only [List.map_cons, List.sum_cons]
    rcases List.mem_cons.1 hf with rfl | h
    · omega
    · have := ih h; omega

theorem more_is (sy len : Nat) (q : Int) (h1 : sy ≤ len) (h2 : len < 1000000000) : wrap64 ((sy : Int) + min (max q 0) (wrap64 ((len : Int) - sy))) = ((sy + min q.toNat (len - sy) : Nat) : Int) := by
  have e1 : wrap64 ((len : Int) - sy) = (len : Int) - sy := IntWalk.wrap64_in _ (by omega)
  rw [e1, IntWalk.wrap64_in _ (by omega)]
  omega

theorem owns_cap {w : World} {base e : Nat} {ao : Option Addr} {len c : Nat} {xs : List Value} (h : w.ownsRow base e 1 (.slice ao len c) len xs) : len ≤ c ∧ c ≤ 9223372036854775807 := by
  rcases h.2 with ⟨hv, h0⟩ | ⟨g, cap, cur, hv, hb, hg, h1, h2, h3, h4⟩
  · simp only [Value.slice.injEq] at hv
    omega
  · simp only [Value.slice.injEq] at hv
    obtain ⟨rfl, _, rfl⟩ := hv
    unfold maxLen at h2
    omega

theorem shorten_int (b f : Nat) (s : DS) (ao : Option Addr) (len cap : Nat) (sy : Int) (x : Int) (n : Nat) (hx : x = n) (w : World) (hd : DiskC w b s) (hf : FileC w f (.slice ao len cap) sy) (hn : n ≤ len) (hc : len ≤ cap) (hm : cap ≤ 9223372036854775807) (hne : b ≠ f)
    (hs0 : (len : Int) - n ≤ s.sz) (hs1 : s.sz ≤ 9223372036854775807) :
    Calls Tryz.prog 27 #[.pointer (some ⟨b, 0, none⟩), .pointer (some ⟨f, 0, none⟩), .int .i64 x] w fun e w' => e = .returned (.tuple #[]) ∧
      DiskC w' b { s with sz := s.sz - (len - n) } ∧ FileC w' f (.slice ao n cap) (min sy n) ∧ Turn [b, f] w w' := by
  subst hx
  exact shorten_any b f s ao len cap sy n w hd hf hn hc hm hne hs0 hs1

end Go.Proofs.YthglbmnhlnpmkaaGreat
