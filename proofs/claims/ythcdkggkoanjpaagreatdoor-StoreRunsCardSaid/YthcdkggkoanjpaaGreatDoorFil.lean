/- One file of a disk turns. Numbers and types by name. -/
import Derived.Test.YthcdkggkoanjpaaGreatDoorAp2
import Derived.WalkSpells
import Derived.Test.YthcdkggkoanjpaaGreatDoorChecked
import Derived.WalkKit
import Derived.WalkLawsBesides
import Derived.Lib.Hide
import Derived.BigQuiet
import Derived.Deep.QuietTactic
import Derived.ArgAppend
import Derived.OwnWalk
import Derived.Deep.RegionLaw
import Derived.Deep.AppendLies
import Derived.Lib.AppendStr
import Derived.Laws.IdiomStrings
import Derived.Lib.SlBytesConst
import Derived.BigRegion
import Derived.RegionTactic
import Derived.ChangeAlike
import Derived.Maps.OwnSet
import Derived.Sort.KeysCollected
namespace Go.Proofs.YthcdkggkoanjpaaGreatDoor
open Go.RowKit Go.Maps Go.Sort Go.WideMaps
def theDisk (b : Nat) : Value := .pointer (some ⟨b, 0, none⟩)
theorem create_empty (pn pd b : Nat) (w : World) (hn : w.cell? ⟨pn, 0, none⟩ = some (.string ⟨#[]⟩)) (_hd : w.cell? ⟨pd, 0, none⟩ = some (theDisk b)) :
    Calls Tryz.prog 107 #[.pointer (some ⟨pn, 0, none⟩), .pointer (some ⟨pd, 0, none⟩)] w fun e w' => e = .returned (.int .i64 1) ∧ w = w' := by
  go_enter Tryz.func107, Tryz.ntmps107
  go_wp2
  go_ret
  exact ⟨rfl, rfl⟩
theorem create_twice (pn pd base b : Nat) (S : DM) (s : DS) (name : ByteArray) (f : FM) (w : World) (hn : w.cell? ⟨pn, 0, none⟩ = some (.string name)) (hd : w.cell? ⟨pd, 0, none⟩ = some (theDisk b)) (hR : Rep w base b S s)
    (hne : name.toList.isEmpty = false) (hf : S.files.find? (named name.data.toList) = some f) (hl : name.size ≤ maxLen) :
    Calls Tryz.prog 107 #[.pointer (some ⟨pn, 0, none⟩), .pointer (some ⟨pd, 0, none⟩)] w fun e w' => e = .returned (.int .i64 4) ∧ ∃ n, w' = w.drewN n := by
  have c5 := hR.disk.c5
  have hlk : ∀ n, (Instr.lookup 74 s.fs (.string name) false).run Tryz.prog (w.drewN n) = .ok (.pointer (some ⟨f.blk, 0, none⟩)) (w.drewN n) := by
    intro n
    have := (hR.new ((Turn.refl [] w).drewN n)).look name hl
    rw [this]; simp [ptrOf, hf]
  unfold theDisk at hd
  clear hf hR hl
  go_enter Tryz.func107, Tryz.ntmps107
  go_wp2
  go_quiet (fail)
  go_wp2
  go_ret
  exact ⟨rfl, nq, rfl⟩
theorem put_some_walk (b m n blk : Nat) (D : DataW Unit) (name : ByteArray) (kl : Lit) (w : World) (c5 : w.cell? ⟨b, 5, none⟩ = some (.map (some m))) (hown : w.ownsMap Tryz.prog 9 Rp m n D) (hn : Hid (n < maxLen)) (hkey : keyOf Tryz.prog 9 (.string name) = some kl) :
    Calls Tryz.prog 108 #[.pointer (some ⟨b, 0, none⟩), .string name, .pointer (some ⟨blk, 0, none⟩)] w fun e w' => e = .returned (.tuple #[]) ∧ w'.ownsMap Tryz.prog 9 Rp m (n + 1) (D.put kl (.lit (.int .i64 blk))) ∧ w.grownBy w' (some m) := by
  have qn := fun (w : World) (r : Option Nat) => run_eql_map_nil (P := Tryz.prog) w 74 _ _ r Tryz.underlying74
  go_enter Tryz.func108, Tryz.ntmps108
  go_wp2_with (at_mapUpdate; refine wpList_mapUpdate_own _ rfl _ _ _ 74 rfl 9 99 law Tryz.underlying74 Rp m n D rfl hown hn.out _ _ kl rfl rfl hkey _ [] rfl ?_; intro w1 hown1 hgrow1)
  go_end0
  exact ⟨rfl, hown1, hgrow1⟩
theorem put_none_walk (b blk : Nat) (name : ByteArray) (kl : Lit) (w : World) (c5 : w.cell? ⟨b, 5, none⟩ = some (.map none)) (e5 : w.frozen? ⟨b, 5, none⟩ = false) (hb : b < w.heap.size) (hkey : keyOf Tryz.prog 9 (.string name) = some kl) :
    Calls Tryz.prog 108 #[.pointer (some ⟨b, 0, none⟩), .string name, .pointer (some ⟨blk, 0, none⟩)] w fun e w' => e = .returned (.tuple #[]) ∧ w'.ownsMap Tryz.prog 9 Rp w.heap.size 1 ((DataW.map []).put kl (.lit (.int .i64 blk))) ∧
      ((w.alloc (.map #[] 0)).setCell ⟨b, 5, none⟩ (.map (some w.heap.size))).grownBy w' (some w.heap.size) := by
  have qn := fun (w : World) (r : Option Nat) => run_eql_map_nil (P := Tryz.prog) w 74 _ _ r Tryz.underlying74
  have hmade := World.ownsMap_made (H := Unit) (w := w) (P := Tryz.prog) (k := 9) (R := Rp)
  have hown : ((w.alloc (.map #[] 0)).setCell ⟨b, 5, none⟩ (.map (some w.heap.size))).ownsMap Tryz.prog 9 Rp w.heap.size 0 (.map []) := hmade.setCell (by show w.heap.size ≠ b; omega) _
  have HN : Hid (0 < maxLen) := Lib.hid (by unfold maxLen; omega)
  have d5 : (w.alloc (.map #[] 0)).cell? ⟨b, 5, none⟩ = some (.map none) := (World.cell?_of_block (Below.heap_alloc w _ b hb)).trans c5
  have f5 : (w.alloc (.map #[] 0)).frozen? ⟨b, 5, none⟩ = false := (World.frozen?_of_block (Below.heap_alloc w _ b hb)).trans e5
  have hmm : (Instr.makeMap 74 none).run Tryz.prog w = .ok (.map (some w.heap.size)) (w.alloc (.map #[] 0)) := rfl
  generalize w.alloc (.map #[] 0) = w1 at *
  generalize w.heap.size = N at *
  clear hmade e5 hb
  go_enter Tryz.func108, Tryz.ntmps108
  go_wp2_with (at_mapUpdate; refine wpList_mapUpdate_own _ rfl _ _ _ 74 rfl 9 99 law Tryz.underlying74 Rp N 0 (.map []) rfl hown HN.out _ _ kl rfl rfl hkey _ [] rfl ?_; intro w2 hown1 hgrow1)
  go_end0
  exact ⟨rfl, hown1, hgrow1⟩
theorem put_new_at (base b : Nat) (S : DM) (s : DS) (name : ByteArray) (f : FM) (w : World) (hR : Rep w base b S s) (hnm : name.data.toList = f.name) (hl : name.size ≤ maxLen) (hlen : S.files.length < maxLen)
    (hf : S.files.any (named f.name) = false) (hF : FileAt w base f) (hnd : f.foot.Nodup) (hdis : ∀ k ∈ f.foot, k ∉ foot b S) (hlow : ∀ k ∈ f.foot, base ≤ k) (hfr : ∀ g, S.fr = some g → g ∉ f.foot) (hkr : ∀ g, S.kr = some g → g ∉ f.foot) (hbase : base ≤ w.heap.size) :
    Calls Tryz.prog 108 #[theDisk b, .string name, .pointer (some ⟨f.blk, 0, none⟩)] w fun e w' => e = .returned (.tuple #[]) ∧ ∃ m s', (S.mp = some m ∨ w.heap.size ≤ m) ∧ Rep w' base b { S with files := S.files ++ [f], mp := some m } s' ∧ s'.sz = s.sz ∧ Turn (b :: S.mp.toList) w w' := by
  have hkey := keyOf_string_mk Tryz.underlying9 hl
  rw [hnm] at hkey
  have c5 := hR.disk.c5
  rw [hR.fs] at c5
  cases hm : S.mp with
  | none =>
    have hfs := hR.mapN hm
    rw [hm] at c5
    refine (put_none_walk b f.blk name _ w c5 (hR.disk.free 5) hR.disk.lt hkey).mono ?_
    rintro e w' ⟨rfl, hown, hg⟩
    have hbl := hR.disk.lt
    have t1 : Turn [b] w ((w.alloc (.map #[] 0)).setCell ⟨b, 5, none⟩ (.map (some w.heap.size))) := ((Turn.refl _ w).alloc _).set (.inl (by simp)) _ _
    have t2 : Turn [b] w w' := t1.trans' (G := [w.heap.size]) (Turn.of_grown hg (by intro k e; cases e; simp)) (by simp)
    have t3 : Turn [w.heap.size] _ w' := Turn.of_grown (F := [w.heap.size]) hg (by intro k e; cases e; simp)
    have hd2 : DiskC w' b { s with fs := .map (some w.heap.size) } := (((show DiskC (w.alloc (.map #[] 0)) b s from hR.disk.turn ((Turn.refl [] w).alloc _) (by simp)).set5 (.map (some w.heap.size))).turn t3 (by simp; omega))
    obtain ⟨ao, c, ao', c', h1, h2, h3, h4, h5, h6, h7, h8⟩ := hR.lists
    have hfoot : foot b { S with files := S.files ++ [f], mp := some w.heap.size } = b :: w.heap.size :: f.foot := by simp [foot, hfs]
    have hb0 : b ∈ foot b S := by simp [foot]
    have hfb : b ∉ f.foot := fun h => hdis b h hb0
    have hlow1 : ∀ k ∈ f.foot, k < w.heap.size := hF.lt
    refine ⟨rfl, w.heap.size, { s with fs := .map (some w.heap.size) }, .inr (Nat.le_refl _), ?_, rfl, by simpa using t2⟩
    exact {
      disk := hd2
      cap := hR.cap
      cr := hR.cr
      ca := hR.ca
      dn := hR.dn
      dw := hR.dw
      fs := rfl
      lists := ⟨ao, c, ao', c', h1, h2, owns_turn h3 t2 (fun g hg => by
          have := h7 g (h5.symm.trans hg); simp [foot] at this; simp [this]), owns_turn h4 t2 (fun g hg => by
          have := h8 g (h6.symm.trans hg); simp [foot] at this; simp [this]), h5, h6, (fun g hg => by
          rw [hfoot]; have h9 := h7 g hg; have h10 := hfr g hg; have := (h3.lt g (h5.trans hg)).2; simp [foot] at h9; simp [h9, h10]; omega), (fun g hg => by
          rw [hfoot]; have h9 := h8 g hg; have h10 := hkr g hg; have := (h4.lt g (h6.trans hg)).2; simp [foot] at h9; simp [h9, h10]; omega)⟩
      mapN := fun h => by cases h
      mapS := fun m hm' => by
        obtain rfl : w.heap.size = m := by simpa using hm'
        rw [hfs]
        exact MapAt.put (files := []) (D := .map []) rfl (fun k => rfl) (fun k => rfl) isMap_empty tidy_empty rfl hown
      files := fun g hg => by
        obtain rfl : g = f := by simpa [hfs] using hg
        exact hF.keep t2 (fun k hk => by simp; rintro rfl; exact hfb hk)
      apart1 := fun m hm' => by
        obtain rfl : w.heap.size = m := by simpa using hm'
        omega
      apart2 := fun g hg => by
        obtain rfl : g = f := by simpa [hfs] using hg
        refine ⟨hfb, fun m hm' => ?_, hnd⟩
        obtain rfl : w.heap.size = m := by simpa using hm'
        exact fun h => Nat.lt_irrefl _ (hlow1 _ h)
      apart3 := by simp [hfs]
      low := by
        rw [hfoot]
        intro k hk
        simp only [List.mem_cons] at hk
        rcases hk with rfl | rfl | hk
        · exact hR.low _ hb0
        · exact hbase
        · exact hlow k hk
      names := by simp [hfs]
      sorted := hR.sorted }
  | some m =>
    rw [hm] at c5
    obtain ⟨D, hown, h1, h2, h3⟩ := hR.mapS m hm
    refine (put_some_walk b m _ f.blk D name _ w c5 hown (Lib.hid hlen) hkey).mono ?_
    rintro e w' ⟨rfl, hown', hg⟩
    have t2 : Turn [m] w w' := Turn.of_grown hg (by intro k e; cases e; simp)
    have hfoot : ∀ k, k ∈ foot b { S with files := S.files ++ [f] } ↔ k ∈ foot b S ∨ k ∈ f.foot := by
      intro k; simp [foot, or_assoc]
    have hmf : m ∈ foot b S := by simp [foot, hm]
    have hbm : b ≠ m := hR.apart1 m hm
    obtain ⟨ao, c, ao', c', g1, g2, g3, g4, g5, g6, g7, g8⟩ := hR.lists
    refine ⟨rfl, m, s, .inl rfl, ?_, rfl, by refine t2.mono ?_; simp⟩
    have eS : ({ S with files := S.files ++ [f], mp := some m } : DM) = { S with files := S.files ++ [f] } := by rw [← hm]
    rw [eS]
    exact {
      disk := hR.disk.turn t2 (by simpa using hbm)
      cap := hR.cap
      cr := hR.cr
      ca := hR.ca
      dn := hR.dn
      dw := hR.dw
      fs := hR.fs
      lists := ⟨ao, c, ao', c', g1, g2, owns_turn g3 t2 (fun g hg => by
          have := g7 g (g5.symm.trans hg); simp; rintro rfl; exact this hmf), owns_turn g4 t2 (fun g hg => by
          have := g8 g (g6.symm.trans hg); simp; rintro rfl; exact this hmf), g5, g6, (fun g hg => by
          rw [hfoot]; rintro (h | h); exact g7 g hg h; exact hfr g hg h), (fun g hg => by
          rw [hfoot]; rintro (h | h); exact g8 g hg h; exact hkr g hg h)⟩
      mapN := fun h => by rw [show ({ S with files := S.files ++ [f] } : DM).mp = S.mp from rfl, hm] at h; cases h
      mapS := fun m' hm' => by
        obtain rfl : m = m' := by
          have : S.mp = some m' := hm'
          rw [hm] at this; simpa using this
        exact MapAt.put h1 h2 h3 hown.isMap (hown.tidy law) hf hown'
      files := fun g hg => by
        have hg' : g ∈ S.files ∨ g = f := by simpa using hg
        rcases hg' with hg' | rfl
        · refine (hR.files g hg').keep t2 (fun k hk => ?_)
          simp only [List.mem_singleton]
          rintro rfl
          exact (hR.apart2 g hg').2.1 _ hm hk
        · exact hF.keep t2 (fun k hk => by simp only [List.mem_singleton]; rintro rfl; exact hdis _ hk hmf)
      apart1 := hR.apart1
      apart2 := fun g hg => by
        have hg' : g ∈ S.files ∨ g = f := by simpa using hg
        rcases hg' with hg' | rfl
        · exact hR.apart2 g hg'
        · exact ⟨fun h => hdis _ h (by simp [foot]), fun m' hm' h => hdis _ h (by simp [foot, show S.mp = some m' from hm']), hnd⟩
      apart3 := by
        refine List.pairwise_append.2 ⟨hR.apart3, by simp, fun x hx y hy k hk hk' => ?_⟩
        obtain rfl : y = f := by simpa using hy
        exact hdis k hk' (by simp only [foot, List.mem_cons, List.mem_append, List.mem_flatMap]; exact .inr (.inr ⟨x, hx, hk⟩))
      low := by
        intro k hk
        rcases (hfoot k).1 hk with h | h
        · exact hR.low k h
        · exact hlow k h
      names := by
        have h0 := hR.names
        simp only [List.map_append, List.map_cons, List.map_nil]
        refine List.nodup_append.2 ⟨h0, by simp, fun x hx y hy e => ?_⟩
        simp only [List.mem_singleton] at hy
        subst hy
        subst e
        obtain ⟨g, hg, hgn⟩ := List.mem_map.1 hx
        have : S.files.any (named f.name) = true := List.any_eq_true.2 ⟨g, hg, by simp [named, hgn]⟩
        rw [hf] at this
        cases this
      sorted := hR.sorted }
theorem create_new_at (pn pd base b : Nat) (S : DM) (s : DS) (name : ByteArray) (w : World) (hn : w.cell? ⟨pn, 0, none⟩ = some (.string name)) (hd : w.cell? ⟨pd, 0, none⟩ = some (theDisk b)) (hR : Rep w base b S s)
    (hne : name.toList.isEmpty = false) (hf : S.files.any (named name.data.toList) = false) (hl : name.size ≤ maxLen) (hlen : S.files.length < maxLen) (hbase : base ≤ w.heap.size) :
    Calls Tryz.prog 107 #[.pointer (some ⟨pn, 0, none⟩), .pointer (some ⟨pd, 0, none⟩)] w fun e w' => e = .returned (.int .i64 0) ∧ ∃ f m s', (S.mp = some m ∨ w.heap.size ≤ m) ∧ f.name = name.data.toList ∧ f.bytes = [] ∧ f.sy = 0 ∧ w.heap.size ≤ f.blk ∧ f.row = none ∧
      Rep w' base b { S with files := S.files ++ [f], mp := some m } s' ∧ s'.sz = s.sz ∧ Turn (b :: S.mp.toList) w w' := by
  have c5 := hR.disk.c5
  have hnone : S.files.find? (named name.data.toList) = none := by
    rw [List.find?_eq_none]
    intro x hx he
    have : S.files.any (named name.data.toList) = true := List.any_eq_true.2 ⟨x, hx, he⟩
    rw [hf] at this; cases this
  have hlk : ∀ n, (Instr.lookup 74 s.fs (.string name) false).run Tryz.prog (w.drewN n) = .ok (.pointer none) (w.drewN n) := by
    intro n
    have := (hR.new ((Turn.refl [] w).drewN n)).look name hl
    rw [this]; simp [ptrOf, hnone]
  have hput : ∀ W : World, Turn [] w W → ∀ k, FileC W k (.slice none 0 0) 0 → w.heap.size ≤ k → Calls Tryz.prog 108 #[.pointer (some ⟨b, 0, none⟩), .string name, .pointer (some ⟨k, 0, none⟩)] W fun e w' => e = .returned (.tuple #[]) ∧ ∃ f m s', (S.mp = some m ∨ w.heap.size ≤ m) ∧ f.name = name.data.toList ∧ f.bytes = [] ∧ f.sy = 0 ∧ w.heap.size ≤ f.blk ∧ f.row = none ∧
      Rep w' base b { S with files := S.files ++ [f], mp := some m } s' ∧ s'.sz = s.sz ∧ Turn (b :: S.mp.toList) w w' := by
    intro W t k hk hkw
    have hRW := hR.new t
    have hlt := hR.lt
    obtain ⟨ao, c, ao', c', h1, h2, h3, h4, h5, h6, h7, h8⟩ := hR.lists
    refine (put_new_at base b S s name ⟨name.data.toList, k, none, [], 0⟩ W hRW rfl hl hlen hf ⟨none, 0, hk, World.ownsRow_nil _ _ _ _, rfl, Nat.le_refl _⟩ (by simp [FM.foot]) ?_ ?_ ?_ ?_ (Nat.le_trans hbase t.size)).mono ?_
    · intro j hj hm
      obtain rfl : j = k := by simpa [FM.foot] using hj
      have := hlt j hm
      omega
    · intro j hj
      obtain rfl : j = k := by simpa [FM.foot] using hj
      omega
    · intro g hg hj
      obtain rfl : g = k := by simpa [FM.foot] using hj
      have := (h3.lt g (h5.trans hg)).2
      omega
    · intro g hg hj
      obtain rfl : g = k := by simpa [FM.foot] using hj
      have := (h4.lt g (h6.trans hg)).2
      omega
    · rintro e w' ⟨rfl, m, s', r0, r1, r2, r3⟩
      exact ⟨rfl, _, m, s', r0.imp id (fun h => Nat.le_trans t.size h), rfl, rfl, rfl, hkw, rfl, r1, r2, (t.mono (by simp)).trans r3⟩
  unfold theDisk at hd
  clear hf hR hl hnone hlen hbase
  go_enter Tryz.func107, Tryz.ntmps107
  go_wp2
  go_quiet (fail)
  go_wp2_with fail
  refine (hput _ (((Turn.refl [] w).drewN nq).alloc _) w.heap.size ?_ (Nat.le_refl _)).mono ?_
  · have := heap_alloc_new (w.drewN nq) (.cells #[.slice none 0 0, .int .i64 0] 101)
    exact this
  rintro e w' ⟨rfl, hq⟩
  have HQ := Lib.hid hq
  clear hq hput
  go_wp2
  go_ret
  exact ⟨rfl, HQ.out⟩
end Go.Proofs.YthcdkggkoanjpaaGreatDoor
namespace Go.Proofs.YthcdkggkoanjpaaGreatDoor
open Go.RowKit Go.Maps Go.Sort Go.WideMaps
theorem hmf : ∀ (fn : Fn) (first cap : Array Value) (w : World), (Instr.makeFunc fn first cap).run Tryz.prog w = .ok (.func fn first cap) w := fun _ _ _ _ => rfl
end Go.Proofs.YthcdkggkoanjpaaGreatDoor
namespace Go.Proofs.YthcdkggkoanjpaaGreatDoor
open Go.RowKit Go.Maps Go.Sort Go.WideMaps
def mapF (k : List UInt8) (u : FM → FM) (files : List FM) : List FM := files.map fun g => if named k g = true then u g else g
theorem find_mem {k : List UInt8} {files : List FM} {f : FM} (h : files.find? (named k) = some f) : f ∈ files ∧ f.name = k :=
  ⟨List.mem_of_find?_eq_some h, by have := List.find?_some h; simpa [named] using this⟩
theorem only_named {files : List FM} (hn : (files.map (·.name)).Nodup) {f g : FM} (hf : f ∈ files) (hg : g ∈ files) (h : f.name = g.name) : f = g := by
  induction files with
  | nil => cases hf
  | cons a l ih =>
    simp only [List.map_cons, List.nodup_cons, List.mem_map, not_exists, not_and] at hn
    rcases List.mem_cons.1 hf with rfl | hf'
    · rcases List.mem_cons.1 hg with rfl | hg'
      · rfl
      · exact absurd h.symm (hn.1 g hg')
    · rcases List.mem_cons.1 hg with rfl | hg'
      · exact absurd h (hn.1 f hf')
      · exact ih hn.2 hf' hg'
theorem mapF_names (k : List UInt8) (u : FM → FM) (hu : ∀ g, (u g).name = g.name) (files : List FM) : (mapF k u files).map (·.name) = files.map (·.name) := by
  unfold mapF
  rw [List.map_map]
  apply List.map_congr_left
  intro g _
  simp only [Function.comp]
  split
  · exact hu g
  · rfl
theorem look_mapF (k : List UInt8) (u : FM → FM) (hu : ∀ g, (u g).name = g.name) (hb : ∀ g, (u g).blk = g.blk) (files : List FM) (x : List UInt8) : Go.Proofs.YthcdkggkoanjpaaGreatDoor.lookD (mapF k u files) x = Go.Proofs.YthcdkggkoanjpaaGreatDoor.lookD files x := by
  induction files with
  | nil => rfl
  | cons a l ih =>
    unfold Go.Proofs.YthcdkggkoanjpaaGreatDoor.lookD mapF at *
    rw [List.map_cons, List.find?_cons, List.find?_cons]
    have e : named x (if named k a = true then u a else a) = named x a := by
      split
      · simp [named, hu]
      · rfl
    rw [e]
    cases named x a with
    | true => simp only; split <;> simp [hb]
    | false => exact ih
theorem any_mapF (k : List UInt8) (u : FM → FM) (hu : ∀ g, (u g).name = g.name) (files : List FM) (x : List UInt8) : (mapF k u files).any (named x) = files.any (named x) := by
  unfold mapF
  rw [List.any_map]
  congr 1
  funext g
  simp only [Function.comp]
  split
  · simp [named, hu]
  · rfl
theorem MapAt.mapF {w : World} {m : Nat} {files : List FM} (h : MapAt w m files) (k : List UInt8) (u : FM → FM) (hu : ∀ g, (u g).name = g.name) (hb : ∀ g, (u g).blk = g.blk) : MapAt w m (mapF k u files) := by
  obtain ⟨D, h1, h2, h3, h4⟩ := h
  have hl : (Go.Proofs.YthcdkggkoanjpaaGreatDoor.mapF k u files).length = files.length := by simp [Go.Proofs.YthcdkggkoanjpaaGreatDoor.mapF]
  exact ⟨D, by rw [hl]; exact h1, by rw [hl]; exact h2, fun x => by rw [look_mapF k u hu hb]; exact h3 x, fun x => by rw [any_mapF k u hu]; exact h4 x⟩
theorem Rep.file {w w' : World} {base b : Nat} {S : DM} {s : DS} (h : Rep w base b S s) {G : List Nat} (t : Turn G w w') (f : FM) (hf : S.files.find? (named f.name) = some f) (u : FM → FM) (hu : ∀ g, (u g).name = g.name) (hub : ∀ g, (u g).blk = g.blk)
    (hG : ∀ x ∈ G, x = b ∨ x ∈ f.foot) (hF : FileAt w' base (u f)) (hrow : (u f).row = f.row ∨ ∃ g, (u f).row = some g ∧ w.heap.size ≤ g) (sz : Int) (hd : DiskC w' b { s with sz := sz }) (hbase : base ≤ w.heap.size) :
    Rep w' base b { S with files := mapF f.name u S.files } { s with sz := sz } := by
  obtain ⟨hmem, _⟩ := find_mem hf
  have hlt := h.lt
  obtain ⟨hbf, hmf, hndf⟩ := h.apart2 f hmem
  have hsub : ∀ x ∈ f.foot, x ∈ foot b S := fun x hx => by simp only [foot, List.mem_cons, List.mem_append, List.mem_flatMap]; exact .inr (.inr ⟨f, hmem, hx⟩)
  have hbS : b ∈ foot b S := by simp [foot]
  have hGS : ∀ x ∈ G, x ∈ foot b S := fun x hx => (hG x hx).elim (fun e => e ▸ hbS) (hsub x)
  -- what another file's blocks are
  have hoth : ∀ g ∈ S.files, named f.name g = false → ∀ k ∈ g.foot, k ∉ f.foot ∧ k ≠ b := by
    intro g hg hn k hk
    refine ⟨fun hkf => ?_, fun e => (h.apart2 g hg).1 (e ▸ hk)⟩
    have hne : g ≠ f := by rintro rfl; simp [named] at hn
    have hp := h.apart3
    have : ∀ (l : List FM), l.Pairwise (fun f g => ∀ k ∈ f.foot, k ∉ g.foot) → f ∈ l → g ∈ l → False := by
      intro l
      induction l with
      | nil => intro _ h; cases h
      | cons a l ih =>
        intro hp h1 h2
        rw [List.pairwise_cons] at hp
        rcases List.mem_cons.1 h1 with rfl | h1'
        · rcases List.mem_cons.1 h2 with rfl | h2'
          · exact hne rfl
          · exact hp.1 g h2' k hkf hk
        · rcases List.mem_cons.1 h2 with rfl | h2'
          · exact hp.1 f h1' k hk hkf
          · exact ih hp.2 h1' h2'
    exact this _ hp hmem hg
  -- the new file's blocks: old ones, or new
  have hnew : ∀ k ∈ (u f).foot, k ∈ f.foot ∨ w.heap.size ≤ k := by
    intro k hk
    simp only [FM.foot, List.mem_cons, Option.mem_toList] at hk ⊢
    rcases hk with rfl | hk
    · exact .inl (.inl (hub f))
    · rcases hrow with e | ⟨g, e, hg⟩
      · exact .inl (.inr (e ▸ hk))
      · rw [e] at hk; simp at hk; subst hk; exact .inr hg
  have hun : ∀ g ∈ S.files, named f.name g = true → g = f := fun g hg hn => only_named h.names hg hmem (by simpa [named] using hn)
  have hfoot : ∀ k ∈ foot b { S with files := mapF f.name u S.files }, k ∈ foot b S ∨ w.heap.size ≤ k := by
    intro k hk
    simp only [foot, mapF, List.mem_cons, List.mem_append, List.mem_flatMap, List.mem_map] at hk
    rcases hk with rfl | hk | ⟨g', ⟨g, hg, rfl⟩, hk⟩
    · exact .inl hbS
    · exact .inl (by simp only [foot, List.mem_cons, List.mem_append]; exact .inr (.inl hk))
    · split at hk
      · next hn =>
        rw [hun g hg hn] at hk
        exact (hnew k hk).imp (hsub k) id
      · exact .inl (by simp only [foot, List.mem_cons, List.mem_append, List.mem_flatMap]; exact .inr (.inr ⟨g, hg, hk⟩))
  obtain ⟨ao, c, ao', c', h1, h2, h3, h4, h5, h6, h7, h8⟩ := h.lists
  exact {
    disk := hd
    cap := h.cap
    cr := h.cr
    ca := h.ca
    dn := h.dn
    dw := h.dw
    fs := h.fs
    lists := ⟨ao, c, ao', c', h1, h2, owns_turn h3 t (fun g hg hm => h7 g (h5.symm.trans hg) (hGS g hm)), owns_turn h4 t (fun g hg hm => h8 g (h6.symm.trans hg) (hGS g hm)), h5, h6,
      (fun g hg hm => (hfoot g hm).elim (h7 g hg) (fun e => by have := (h3.lt g (h5.trans hg)).2; omega)), (fun g hg hm => (hfoot g hm).elim (h8 g hg) (fun e => by have := (h4.lt g (h6.trans hg)).2; omega))⟩
    mapN := fun hm => by have := h.mapN hm; simp [this, mapF]
    mapS := fun m hm => ((h.mapS m hm).keep t (fun hx => (hG m hx).elim (fun e => h.apart1 m hm e.symm) (hmf m hm))).mapF _ u hu hub
    files := fun g' hg' => by
      simp only [mapF, List.mem_map] at hg'
      obtain ⟨g, hg, rfl⟩ := hg'
      split
      · next hn => rw [hun g hg hn]; exact hF
      · next hn =>
        refine (h.files g hg).keep t (fun k hk hx => ?_)
        have := hoth g hg (by simpa using hn) k hk
        exact (hG k hx).elim this.2 this.1
    apart1 := h.apart1
    apart2 := fun g' hg' => by
      simp only [mapF, List.mem_map] at hg'
      obtain ⟨g, hg, rfl⟩ := hg'
      split
      · next hn =>
        rw [hun g hg hn]
        refine ⟨fun hx => (hnew b hx).elim hbf (fun e => by have := hlt b hbS; omega), fun m hm hx => (hnew m hx).elim (hmf m hm) (fun e => by have := (h.mapS m hm).lt; omega), ?_⟩
        simp only [FM.foot, List.nodup_cons, Option.mem_toList] at hndf ⊢
        rw [hub f]
        rcases hrow with e | ⟨g2, e, hg2⟩
        · rw [e]; exact hndf
        · rw [e]
          refine ⟨fun e2 => ?_, by simp⟩
          have := hlt f.blk (hsub _ (by simp [FM.foot]))
          simp at e2
          omega
      · exact h.apart2 g hg
    apart3 := by
      unfold mapF
      rw [List.pairwise_map]
      refine h.apart3.imp_of_mem ?_
      intro x y hx hy hxy k hk hk'
      have hlx : ∀ z ∈ S.files, ∀ j ∈ z.foot, j < w.heap.size := fun z hz j hj => (h.files z hz).lt j hj
      split at hk
      · next hn =>
        have ex := hun x hx hn
        rw [ex] at hk hxy
        split at hk'
        · next hn' =>
          have ey := hun y hy hn'
          rw [ey] at hxy
          have hb0 : f.blk ∈ f.foot := by simp [FM.foot]
          exact hxy _ hb0 hb0
        · rcases hnew k hk with h0 | h0
          · exact hxy k h0 hk'
          · have := hlx y hy k hk'; omega
      · split at hk'
        · next hn' =>
          have ey := hun y hy hn'
          rw [ey] at hk' hxy
          rcases hnew k hk' with h0 | h0
          · exact hxy k hk h0
          · have := hlx x hx k hk; omega
        · exact hxy k hk hk'
    low := fun k hk => (hfoot k hk).elim (h.low k) (fun e => Nat.le_trans hbase e)
    names := by rw [show ({ S with files := mapF f.name u S.files } : DM).files = mapF f.name u S.files from rfl, mapF_names f.name u hu]; exact h.names
    sorted := h.sorted }
theorem total_mapF (k : List UInt8) (u : FM → FM) (files : List FM) (f : FM) (hf : files.find? (named k) = some f) (hn : (files.map (·.name)).Nodup) : total (mapF k u files) + f.bytes.length = total files + (u f).bytes.length := by
  induction files with
  | nil => cases hf
  | cons a l ih =>
    simp only [List.map_cons, List.nodup_cons, List.mem_map, not_exists, not_and] at hn
    rw [List.find?_cons] at hf
    by_cases ha : named k a = true
    · rw [ha] at hf
      simp only [Option.some.injEq] at hf
      subst hf
      have hl : l.map (fun g => if named k g = true then u g else g) = l := by
        have : l.map (fun g => if named k g = true then u g else g) = l.map id := by
          apply List.map_congr_left
          intro g hg
          have : named k g = false := by
            have h1 := hn.1 g hg
            simp only [named, beq_iff_eq, beq_eq_false_iff_ne] at ha ⊢
            exact fun e => h1 (e.trans ha.symm)
          simp [this]
        simpa using this
      simp only [total, mapF, List.map_cons, ha, if_true, List.sum_cons, hl]
      omega
    · simp only [Bool.not_eq_true] at ha
      rw [ha] at hf
      have := ih hf hn.2
      simp only [total, mapF, List.map_cons, ha, List.sum_cons] at this ⊢
      simp only [Bool.false_eq_true, if_false]
      omega
end Go.Proofs.YthcdkggkoanjpaaGreatDoor
