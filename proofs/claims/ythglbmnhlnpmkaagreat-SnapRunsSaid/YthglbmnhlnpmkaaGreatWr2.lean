/- 'write': a writing call through the plan. Numbers and types by name. -/
import Derived.Test.YthglbmnhlnpmkaaGreatDm
import Derived.WalkSpells
/- 'put', 'Create''s closure. Numbers and types by name. -/
namespace Go.Proofs.YthglbmnhlnpmkaaGreat
open Go.RowKit Go.Maps Go.Sort Go.WideMaps

def theDisk (b : Nat) : Value := .pointer (some ⟨b, 0, none⟩)

theorem create_empty (pn pd b : Nat) (w : World) (hn : w.cell? ⟨pn, 0, none⟩ = some (.string ⟨#[]⟩)) (_hd : w.cell? ⟨pd, 0, none⟩ = some (theDisk b)) :
    Calls Tryz.prog 52 #[.pointer (some ⟨pn, 0, none⟩), .pointer (some ⟨pd, 0, none⟩)] w fun e w' => e = .returned (.int .i64 1) ∧ w = w' := by
  go_enter Tryz.func52, Tryz.ntmps52
  go_wp2
  go_ret
  exact ⟨rfl, rfl⟩

theorem create_twice (pn pd base b : Nat) (S : DM) (s : DS) (name : ByteArray) (f : FM) (w : World) (hn : w.cell? ⟨pn, 0, none⟩ = some (.string name)) (hd : w.cell? ⟨pd, 0, none⟩ = some (theDisk b)) (hR : Rep w base b S s)
    (hne : name.toList.isEmpty = false) (hf : S.files.find? (named name.data.toList) = some f) (hl : name.size ≤ maxLen) :
    Calls Tryz.prog 52 #[.pointer (some ⟨pn, 0, none⟩), .pointer (some ⟨pd, 0, none⟩)] w fun e w' => e = .returned (.int .i64 4) ∧ ∃ n, w' = w.drewN n := by
  have c5 := hR.disk.c5
  have hlk : ∀ n, (Instr.lookup 57 s.fs (.string name) false).run Tryz.prog (w.drewN n) = .ok (.pointer (some ⟨f.blk, 0, none⟩)) (w.drewN n) := by
    intro n
    have := (hR.new ((Turn.refl [] w).drewN n)).look name hl
    rw [this]; simp [ptrOf, hf]
  unfold theDisk at hd
  clear hf hR hl
  go_enter Tryz.func52, Tryz.ntmps52
  go_wp2
  go_quiet (fail)
  go_wp2
  go_ret
  exact ⟨rfl, nq, rfl⟩

theorem heap_map {w w' : World} {m k : Nat} (h : w.grownBy w' (some m)) (hk : k < w.heap.size) (hne : k ≠ m) : w'.heap[k]? = w.heap[k]? := h.block k hk (by simpa using hne)

theorem put_some_walk (b m n blk : Nat) (D : DataW Unit) (name : ByteArray) (kl : Lit) (w : World) (c5 : w.cell? ⟨b, 5, none⟩ = some (.map (some m))) (hown : w.ownsMap Tryz.prog 9 Rp m n D) (hn : Hid (n < maxLen)) (hkey : keyOf Tryz.prog 9 (.string name) = some kl) :
    Calls Tryz.prog 53 #[.pointer (some ⟨b, 0, none⟩), .string name, .pointer (some ⟨blk, 0, none⟩)] w fun e w' => e = .returned (.tuple #[]) ∧ w'.ownsMap Tryz.prog 9 Rp m (n + 1) (D.put kl (.lit (.int .i64 blk))) ∧ w.grownBy w' (some m) := by
  have qn := fun (w : World) (r : Option Nat) => run_eql_map_nil (P := Tryz.prog) w 57 _ _ r Tryz.underlying57
  go_enter Tryz.func53, Tryz.ntmps53
  go_wp2_with (at_mapUpdate; refine wpList_mapUpdate_own _ rfl _ _ _ 57 rfl 9 65 law Tryz.underlying57 Rp m n D rfl hown hn.out _ _ kl rfl rfl hkey _ [] rfl ?_; intro w1 hown1 hgrow1)
  go_end0
  exact ⟨rfl, hown1, hgrow1⟩

theorem put_none_walk (b blk : Nat) (name : ByteArray) (kl : Lit) (w : World) (c5 : w.cell? ⟨b, 5, none⟩ = some (.map none)) (e5 : w.frozen? ⟨b, 5, none⟩ = false) (hb : b < w.heap.size) (hkey : keyOf Tryz.prog 9 (.string name) = some kl) :
    Calls Tryz.prog 53 #[.pointer (some ⟨b, 0, none⟩), .string name, .pointer (some ⟨blk, 0, none⟩)] w fun e w' => e = .returned (.tuple #[]) ∧ w'.ownsMap Tryz.prog 9 Rp w.heap.size 1 ((DataW.map []).put kl (.lit (.int .i64 blk))) ∧
      ((w.alloc (.map #[] 0)).setCell ⟨b, 5, none⟩ (.map (some w.heap.size))).grownBy w' (some w.heap.size) := by
  have qn := fun (w : World) (r : Option Nat) => run_eql_map_nil (P := Tryz.prog) w 57 _ _ r Tryz.underlying57
  have hmade := World.ownsMap_made (H := Unit) (w := w) (P := Tryz.prog) (k := 9) (R := Rp)
  have hown : ((w.alloc (.map #[] 0)).setCell ⟨b, 5, none⟩ (.map (some w.heap.size))).ownsMap Tryz.prog 9 Rp w.heap.size 0 (.map []) := hmade.setCell (by show w.heap.size ≠ b; omega) _
  have HN : Hid (0 < maxLen) := Lib.hid (by unfold maxLen; omega)
  have d5 : (w.alloc (.map #[] 0)).cell? ⟨b, 5, none⟩ = some (.map none) := (World.cell?_of_block (Below.heap_alloc w _ b hb)).trans c5
  have f5 : (w.alloc (.map #[] 0)).frozen? ⟨b, 5, none⟩ = false := (World.frozen?_of_block (Below.heap_alloc w _ b hb)).trans e5
  have hmm : (Instr.makeMap 57 none).run Tryz.prog w = .ok (.map (some w.heap.size)) (w.alloc (.map #[] 0)) := rfl
  generalize w.alloc (.map #[] 0) = w1 at *
  generalize w.heap.size = N at *
  clear hmade e5 hb
  go_enter Tryz.func53, Tryz.ntmps53
  go_wp2_with (at_mapUpdate; refine wpList_mapUpdate_own _ rfl _ _ _ 57 rfl 9 65 law Tryz.underlying57 Rp N 0 (.map []) rfl hown HN.out _ _ kl rfl rfl hkey _ [] rfl ?_; intro w2 hown1 hgrow1)
  go_end0
  exact ⟨rfl, hown1, hgrow1⟩

/-- A file is laid into the map under a new name. -/
theorem put_new_at (base b : Nat) (S : DM) (s : DS) (name : ByteArray) (f : FM) (w : World) (hR : Rep w base b S s) (hnm : name.data.toList = f.name) (hl : name.size ≤ maxLen) (hlen : S.files.length < maxLen)
    (hf : S.files.any (named f.name) = false) (hF : FileAt w base f) (hnd : f.foot.Nodup) (hdis : ∀ k ∈ f.foot, k ∉ foot b S) (hlow : ∀ k ∈ f.foot, base ≤ k) (hfr : ∀ g, S.fr = some g → g ∉ f.foot) (hkr : ∀ g, S.kr = some g → g ∉ f.foot) (hbase : base ≤ w.heap.size) :
    Calls Tryz.prog 53 #[theDisk b, .string name, .pointer (some ⟨f.blk, 0, none⟩)] w fun e w' => e = .returned (.tuple #[]) ∧ ∃ m s', (S.mp = some m ∨ w.heap.size ≤ m) ∧ Rep w' base b { S with files := S.files ++ [f], mp := some m } s' ∧ s'.sz = s.sz ∧ Turn (b :: S.mp.toList) w w' := by
  have hkey := keyOf_string_mk Tryz.underlying9 hl
  rw [hnm] at hkey
  have c5 := hR.disk.c5
  rw [hR.fs] at c5
  cases hm : S.mp with
  | none =>
    have hfs := hR.mapN hm
    rw [hm] at c5
    refine (put_none_walk b f.blk name _ w c5 (hR.disk.free 5) hR.disk.lt hkey).mono ?_
    rintro e w' ⟨rfl, hown, hg⟩
    have hbl := hR.disk.lt
    have t1 : Turn [b] w ((w.alloc (.map #[] 0)).setCell ⟨b, 5, none⟩ (.map (some w.heap.size))) := ((Turn.refl _ w).alloc _).set (.inl (by simp)) _ _
    have t2 : Turn [b] w w' := t1.trans' (G := [w.heap.size]) (Turn.of_grown hg (by intro k e; cases e; simp)) (by simp)
    have t3 : Turn [w.heap.size] _ w' := Turn.of_grown (F := [w.heap.size]) hg (by intro k e; cases e; simp)
    have hd2 : DiskC w' b { s with fs := .map (some w.heap.size) } := (((show DiskC (w.alloc (.map #[] 0)) b s from hR.disk.turn ((Turn.refl [] w).alloc _) (by simp)).set5 (.map (some w.heap.size))).turn t3 (by simp; omega))
    obtain ⟨ao, c, ao', c', h1, h2, h3, h4, h5, h6, h7, h8⟩ := hR.lists
    have hfoot : foot b { S with files := S.files ++ [f], mp := some w.heap.size } = b :: w.heap.size :: f.foot := by simp [foot, hfs]
    have hb0 : b ∈ foot b S := by simp [foot]
    have hfb : b ∉ f.foot := fun h => hdis b h hb0
    have hlow1 : ∀ k ∈ f.foot, k < w.heap.size := hF.lt
    refine ⟨rfl, w.heap.size, { s with fs := .map (some w.heap.size) }, .inr (Nat.le_refl _), ?_, rfl, by simpa using t2⟩
    exact {
      disk := hd2
      cap := hR.cap
      cr := hR.cr
      ca := hR.ca
      dn := hR.dn
      dw := hR.dw
      fs := rfl
      lists := ⟨ao, c, ao', c', h1, h2, owns_turn h3 t2 (fun g hg => by
          have := h7 g (h5.symm.trans hg); simp [foot] at this; simp [this]), owns_turn h4 t2 (fun g hg => by
          have := h8 g (h6.symm.trans hg); simp [foot] at this; simp [this]), h5, h6, (fun g hg => by
          rw [hfoot]; have h9 := h7 g hg; have h10 := hfr g hg; have := (h3.lt g (h5.trans hg)).2; simp [foot] at h9; simp [h9, h10]; omega), (fun g hg => by
          rw [hfoot]; have h9 := h8 g hg; have h10 := hkr g hg; have := (h4.lt g (h6.trans hg)).2; simp [foot] at h9; simp [h9, h10]; omega)⟩
      mapN := fun h => by cases h
      mapS := fun m hm' => by
        obtain rfl : w.heap.size = m := by simpa using hm'
        rw [hfs]
        exact MapAt.put (files := []) (D := .map []) rfl (fun k => rfl) (fun k => rfl) isMap_empty tidy_empty rfl hown
      files := fun g hg => by
        obtain rfl : g = f := by simpa [hfs] using hg
        exact hF.keep t2 (fun k hk => by simp; rintro rfl; exact hfb hk)
      apart1 := fun m hm' => by
        obtain rfl : w.heap.size = m := by simpa using hm'
        omega
      apart2 := fun g hg => by
        obtain rfl : g = f := by simpa [hfs] using hg
        refine ⟨hfb, fun m hm' => ?_, hnd⟩
        obtain rfl : w.heap.size = m := by simpa using hm'
        exact fun h => Nat.lt_irrefl _ (hlow1 _ h)
      apart3 := by simp [hfs]
      low := by
        rw [hfoot]
        intro k hk
        simp only [List.mem_cons] at hk
        rcases hk with rfl | rfl | hk
        · exact hR.low _ hb0
        · exact hbase
        · exact hlow k hk
      names := by simp [hfs]
      sorted := hR.sorted }
  | some m =>
    rw [hm] at c5
    obtain ⟨D, hown, h1, h2, h3⟩ := hR.mapS m hm
    refine (put_some_walk b m _ f.blk D name _ w c5 hown (Lib.hid hlen) hkey).mono ?_
    rintro e w' ⟨rfl, hown', hg⟩
    have t2 : Turn [m] w w' := Turn.of_grown hg (by intro k e; cases e; simp)
    have hfoot : ∀ k, k ∈ foot b { S with files := S.files ++ [f] } ↔ k ∈ foot b S ∨ k ∈ f.foot := by
      intro k; simp [foot, or_assoc]
    have hmf : m ∈ foot b S := by simp [foot, hm]
    have hbm : b ≠ m := hR.apart1 m hm
    obtain ⟨ao, c, ao', c', g1, g2, g3, g4, g5, g6, g7, g8⟩ := hR.lists
    refine ⟨rfl, m, s, .inl rfl, ?_, rfl, by refine t2.mono ?_; simp⟩
    have eS : ({ S with files := S.files ++ [f], mp := some m } : DM) = { S with files := S.files ++ [f] } := by rw [← hm]
    rw [eS]
    exact {
      disk := hR.disk.turn t2 (by simpa using hbm)
      cap := hR.cap
      cr := hR.cr
      ca := hR.ca
      dn := hR.dn
      dw := hR.dw
      fs := hR.fs
      lists := ⟨ao, c, ao', c', g1, g2, owns_turn g3 t2 (fun g hg => by
          have := g7 g (g5.symm.trans hg); simp; rintro rfl; exact this hmf), owns_turn g4 t2 (fun g hg => by
          have := g8 g (g6.symm.trans hg); simp; rintro rfl; exact this hmf), g5, g6, (fun g hg => by
          rw [hfoot]; rintro (h | h); exact g7 g hg h; exact hfr g hg h), (fun g hg => by
          rw [hfoot]; rintro (h | h); exact g8 g hg h; exact hkr g hg h)⟩
      mapN := fun h => by rw [show ({ S with files := S.files ++ [f] } : DM).mp = S.mp from rfl, hm] at h; cases h
      mapS := fun m' hm' => by
        obtain rfl : m = m' := by
          have : S.mp = some m' := hm'
          rw [hm] at this; simpa using this
        exact MapAt.put h1 h2 h3 hown.isMap (hown.tidy law) hf hown'
      files := fun g hg => by
        have hg' : g ∈ S.files ∨ g = f := by simpa using hg
        rcases hg' with hg' | rfl
        · refine (hR.files g hg').keep t2 (fun k hk => ?_)
          simp only [List.mem_singleton]
          rintro rfl
          exact (hR.apart2 g hg').2.1 _ hm hk
        · exact hF.keep t2 (fun k hk => by simp only [List.mem_singleton]; rintro rfl; exact hdis _ hk hmf)
      apart1 := hR.apart1
      apart2 := fun g hg => by
        have hg' : g ∈ S.files ∨ g = f := by simpa using hg
        rcases hg' with hg' | rfl
        · exact hR.apart2 g hg'
        · exact ⟨fun h => hdis _ h (by simp [foot]), fun m' hm' h => hdis _ h (by simp [foot, show S.mp = some m' from hm']), hnd⟩
      apart3 := by
        refine List.pairwise_append.2 ⟨hR.apart3, by simp, fun x hx y hy k hk hk' => ?_⟩
        obtain rfl : y = f := by simpa using hy
        exact hdis k hk' (by simp only [foot, List.mem_cons, List.mem_append, List.mem_flatMap]; exact .inr (.inr ⟨x, hx, hk⟩))
      low := by
        intro k hk
        rcases (hfoot k).1 hk with h | h
        · exact hR.low k h
        · exact hlow k h
      names := by
        have h0 := hR.names
        simp only [List.map_append, List.map_cons, List.map_nil]
        refine List.nodup_append.2 ⟨h0, by simp, fun x hx y hy e => ?_⟩
        simp only [List.mem_singleton] at hy
        subst hy
        subst e
        obtain ⟨g, hg, hgn⟩ := List.mem_map.1 hx
        have : S.files.any (named f.name) = true := List.any_eq_true.2 ⟨g, hg, by simp [named, hgn]⟩
        rw [hf] at this
        cases this
      sorted := hR.sorted }

theorem put_new (base b : Nat) (S : DM) (s : DS) (name : ByteArray) (f : FM) (w : World) (hR : Rep w base b S s) (hnm : name.data.toList = f.name) (hl : name.size ≤ maxLen) (hlen : S.files.length < maxLen)
    (hf : S.files.any (named f.name) = false) (hF : FileAt w base f) (hnd : f.foot.Nodup) (hdis : ∀ k ∈ f.foot, k ∉ foot b S) (hlow : ∀ k ∈ f.foot, base ≤ k) (hfr : ∀ g, S.fr = some g → g ∉ f.foot) (hkr : ∀ g, S.kr = some g → g ∉ f.foot) (hbase : base ≤ w.heap.size) :
    Calls Tryz.prog 53 #[theDisk b, .string name, .pointer (some ⟨f.blk, 0, none⟩)] w fun e w' => e = .returned (.tuple #[]) ∧ ∃ m s', Rep w' base b { S with files := S.files ++ [f], mp := some m } s' ∧ s'.sz = s.sz ∧ Turn (b :: S.mp.toList) w w' := by
  refine (put_new_at base b S s name f w hR hnm hl hlen hf hF hnd hdis hlow hfr hkr hbase).mono ?_
  rintro e w' ⟨h, m, s', _, h2⟩
  exact ⟨h, m, s', h2⟩

theorem create_new_at (pn pd base b : Nat) (S : DM) (s : DS) (name : ByteArray) (w : World) (hn : w.cell? ⟨pn, 0, none⟩ = some (.string name)) (hd : w.cell? ⟨pd, 0, none⟩ = some (theDisk b)) (hR : Rep w base b S s)
    (hne : name.toList.isEmpty = false) (hf : S.files.any (named name.data.toList) = false) (hl : name.size ≤ maxLen) (hlen : S.files.length < maxLen) (hbase : base ≤ w.heap.size) :
    Calls Tryz.prog 52 #[.pointer (some ⟨pn, 0, none⟩), .pointer (some ⟨pd, 0, none⟩)] w fun e w' => e = .returned (.int .i64 0) ∧ ∃ f m s', (S.mp = some m ∨ w.heap.size ≤ m) ∧ f.name = name.data.toList ∧ f.bytes = [] ∧ f.sy = 0 ∧ w.heap.size ≤ f.blk ∧ f.row = none ∧
      Rep w' base b { S with files := S.files ++ [f], mp := some m } s' ∧ s'.sz = s.sz ∧ Turn (b :: S.mp.toList) w w' := by
  have c5 := hR.disk.c5
  have hnone : S.files.find? (named name.data.toList) = none := by
    rw [List.find?_eq_none]
    intro x hx he
    have : S.files.any (named name.data.toList) = true := List.any_eq_true.2 ⟨x, hx, he⟩
    rw [hf] at this; cases this
  have hlk : ∀ n, (Instr.lookup 57 s.fs (.string name) false).run Tryz.prog (w.drewN n) = .ok (.pointer none) (w.drewN n) := by
    intro n
    have := (hR.new ((Turn.refl [] w).drewN n)).look name hl
    rw [this]; simp [ptrOf, hnone]
  have hput : ∀ W : World, Turn [] w W → ∀ k, FileC W k (.slice none 0 0) 0 → w.heap.size ≤ k → Calls Tryz.prog 53 #[.pointer (some ⟨b, 0, none⟩), .string name, .pointer (some ⟨k, 0, none⟩)] W fun e w' => e = .returned (.tuple #[]) ∧ ∃ f m s', (S.mp = some m ∨ w.heap.size ≤ m) ∧ f.name = name.data.toList ∧ f.bytes = [] ∧ f.sy = 0 ∧ w.heap.size ≤ f.blk ∧ f.row = none ∧
      Rep w' base b { S with files := S.files ++ [f], mp := some m } s' ∧ s'.sz = s.sz ∧ Turn (b :: S.mp.toList) w w' := by
    intro W t k hk hkw
    have hRW := hR.new t
    have hlt := hR.lt
    obtain ⟨ao, c, ao', c', h1, h2, h3, h4, h5, h6, h7, h8⟩ := hR.lists
    refine (put_new_at base b S s name ⟨name.data.toList, k, none, [], 0⟩ W hRW rfl hl hlen hf ⟨none, 0, hk, World.ownsRow_nil _ _ _ _, rfl, Nat.le_refl _⟩ (by simp [FM.foot]) ?_ ?_ ?_ ?_ (Nat.le_trans hbase t.size)).mono ?_
    · intro j hj hm
      obtain rfl : j = k := by simpa [FM.foot] using hj
      have := hlt j hm
      omega
    · intro j hj
      obtain rfl : j = k := by simpa [FM.foot] using hj
      omega
    · intro g hg hj
      obtain rfl : g = k := by simpa [FM.foot] using hj
      have := (h3.lt g (h5.trans hg)).2
      omega
    · intro g hg hj
      obtain rfl : g = k := by simpa [FM.foot] using hj
      have := (h4.lt g (h6.trans hg)).2
      omega
    · rintro e w' ⟨rfl, m, s', r0, r1, r2, r3⟩
      exact ⟨rfl, _, m, s', r0.imp id (fun h => Nat.le_trans t.size h), rfl, rfl, rfl, hkw, rfl, r1, r2, (t.mono (by simp)).trans r3⟩
  unfold theDisk at hd
  clear hf hR hl hnone hlen hbase
  go_enter Tryz.func52, Tryz.ntmps52
  go_wp2
  go_quiet (fail)
  go_wp2_with fail
  refine (hput _ (((Turn.refl [] w).drewN nq).alloc _) w.heap.size ?_ (Nat.le_refl _)).mono ?_
  · have := heap_alloc_new (w.drewN nq) (.cells #[.slice none 0 0, .int .i64 0] 67)
    exact this
  rintro e w' ⟨rfl, hq⟩
  have HQ := Lib.hid hq
  clear hq hput
  go_wp2
  go_ret
  exact ⟨rfl, HQ.out⟩

theorem create_new (pn pd base b : Nat) (S : DM) (s : DS) (name : ByteArray) (w : World) (hn : w.cell? ⟨pn, 0, none⟩ = some (.string name)) (hd : w.cell? ⟨pd, 0, none⟩ = some (theDisk b)) (hR : Rep w base b S s)
    (hne : name.toList.isEmpty = false) (hf : S.files.any (named name.data.toList) = false) (hl : name.size ≤ maxLen) (hlen : S.files.length < maxLen) (hbase : base ≤ w.heap.size) :
    Calls Tryz.prog 52 #[.pointer (some ⟨pn, 0, none⟩), .pointer (some ⟨pd, 0, none⟩)] w fun e w' => e = .returned (.int .i64 0) ∧ ∃ f m s', f.name = name.data.toList ∧ f.bytes = [] ∧ f.sy = 0 ∧ w.heap.size ≤ f.blk ∧ f.row = none ∧
      Rep w' base b { S with files := S.files ++ [f], mp := some m } s' ∧ s'.sz = s.sz ∧ Turn (b :: S.mp.toList) w w' := by
  refine (create_new_at pn pd base b S s name w hn hd hR hne hf hl hlen hbase).mono ?_
  rintro e w' ⟨h, f, m, s', _, h2⟩
  exact ⟨h, f, m, s', h2⟩

end Go.Proofs.YthglbmnhlnpmkaaGreat

namespace Go.Proofs.YthglbmnhlnpmkaaGreat
open Go.RowKit Go.Maps Go.Sort Go.WideMaps

/-- What a closure that write calls leaves: an error's number, and the rest. -/
def Left (R : Int → World → Prop) (e : Ending) (w : World) : Prop := ∃ k : Int, e = .returned (.int .i64 k) ∧ R k w

/-- Cells of the disk's own block turn: the counter, the flag, the size. -/
theorem Rep.own {w w' : World} {base b : Nat} {S : DM} {s : DS} (h : Rep w base b S s) (t : Turn [b] w w') (ca sz : Int) (dw : Bool) (hd : DiskC w' b { s with ca := ca, dw := dw, sz := sz }) :
    Rep w' base b { S with ca := ca, dw := dw } { s with ca := ca, dw := dw, sz := sz } := by
  have hb : b ∈ foot b S := by simp [foot]
  obtain ⟨ao, c, ao', c', h1, h2, h3, h4, h5, h6, h7, h8⟩ := h.lists
  exact {
    disk := hd
    cap := h.cap
    cr := h.cr
    ca := rfl
    dn := h.dn
    dw := rfl
    fs := h.fs
    lists := ⟨ao, c, ao', c', h1, h2, owns_turn h3 t (fun g hg => by
        have := h7 g (h5.symm.trans hg); simp only [List.mem_singleton]; rintro rfl; exact this hb), owns_turn h4 t (fun g hg => by
        have := h8 g (h6.symm.trans hg); simp only [List.mem_singleton]; rintro rfl; exact this hb), h5, h6, h7, h8⟩
    mapN := h.mapN
    mapS := fun m hm => (h.mapS m hm).keep t (by simp only [List.mem_singleton]; rintro rfl; exact h.apart1 _ hm rfl)
    files := fun f hf => (h.files f hf).keep t (fun k hk => by simp only [List.mem_singleton]; rintro rfl; exact (h.apart2 f hf).1 hk)
    apart1 := h.apart1
    apart2 := h.apart2
    apart3 := h.apart3
    low := h.low
    names := h.names
    sorted := h.sorted }

theorem Rep.count {w : World} {base b : Nat} {S : DM} {s : DS} (h : Rep w base b S s) (x : Int) : Rep (w.setCell ⟨b, 7, none⟩ (.int .i64 x)) base b { S with ca := x } { s with ca := x } := by
  have := h.own ((Turn.refl [b] w).set (.inl (by simp)) 7 (.int .i64 x)) x s.sz s.dw (h.disk.set7 x)
  rw [h.dw] at this
  have e : ({ s with ca := x, dw := S.dw, sz := s.sz } : DS) = { s with ca := x } := by rw [← h.dw]
  rw [e] at this
  exact this

theorem Rep.fails {w : World} {base b : Nat} {S : DM} {s : DS} (h : Rep w base b S s) (hfl : S.fail.length < 1000000) :
    Calls Tryz.prog 79 #[.pointer (some ⟨b, 0, none⟩)] w fun e w' => e = .returned (.bool (S.fail.contains S.ca)) ∧ ∃ n, w' = w.drewN n := by
  obtain ⟨ao, c, ao', c', h1, h2, h3, h4, h5, h6, h7, h8⟩ := h.lists
  have := fails_any b s base ao c S.fail w h.disk h1 h3 h.sorted (by omega)
  rw [h.ca] at this
  exact this

set_option maxRecDepth 100000 in
/-- The call is made: no crash, no failure. -/
theorem write_run (base b g : Nat) (cb : Array Value) (S : DM) (s : DS) (R : Int → World → Prop) (w : World) (hR : Rep w base b S s) (hdw : S.dw = false) (hcr : S.ca + 1 ≠ S.cr) (hfail : S.fail.contains (S.ca + 1) = false) (hca0 : 0 ≤ S.ca) (hca1 : S.ca < 1000000) (hfl : S.fail.length < 1000000)
    (hent : ∀ (args : Array Value) (w : World), (callFunc g args).run Tryz.prog w = .ok (.enter g args) w)
    (hcl : ∀ w1, Rep w1 base b { S with ca := S.ca + 1 } { s with ca := S.ca + 1 } → Turn [b] w w1 → Calls Tryz.prog g cb w1 (Left R)) :
    Calls Tryz.prog 51 #[theDisk b, .func (.func g) #[] cb] w (Left R) := by
  have c8 := hR.disk.c8
  have c7 := hR.disk.c7
  have c3 := hR.disk.c3
  have c2 := hR.disk.c2
  have e7 := hR.disk.free 7
  rw [hR.dw, hdw] at c8
  rw [hR.ca] at c7
  rw [hR.cr] at c2
  have hb1 : ((S.ca + 1 : Int) == S.cr) = false := by simpa using hcr
  have hR1 := hR.count (S.ca + 1)
  have t1 : Turn [b] w (w.setCell ⟨b, 7, none⟩ (.int .i64 (S.ca + 1))) := (Turn.refl [b] w).set (.inl (by simp)) 7 _
  have HR := Lib.hid (And.intro hR1 t1)
  have HF := Lib.hid hfail
  have HL := Lib.hid hfl
  have HC := Lib.hid hcl
  unfold theDisk
  clear hR hcl hR1 t1 hfail hfl hcr
  go_enter Tryz.func51, Tryz.ntmps51
  go_wp2
  go_step3
  go_wp2_with fail
  go_step3
  go_wp2_with fail
  obtain ⟨hR1, t1⟩ := HR.out
  generalize w.setCell ⟨b, 7, none⟩ (.int .i64 (S.ca + 1)) = w1 at *
  clear HR c8 c7 c3 c2 e7
  have c7 := hR1.disk.c7
  have c2 := hR1.disk.c2
  rw [hR1.ca] at c7
  rw [hR1.cr] at c2
  have HR := Lib.hid (And.intro hR1 t1)
  clear hR1 t1
  simp only at c7 c2
  go_quiet (fail)
  go_wp2_with fail
  refine ((HR.out.1.new ((Turn.refl [] w1).drewN nq)).fails HL.out).mono ?_
  rintro e w2 ⟨rfl, n2, rfl⟩
  rw [show ({ S with ca := S.ca + 1 } : DM).fail.contains ({ S with ca := S.ca + 1 } : DM).ca = false from HF.out]
  rw [World.drewN_drewN]
  have HT : Hid (Rep (w1.drewN (nq + n2)) base b { S with ca := S.ca + 1 } { s with ca := S.ca + 1 } ∧ Turn [b] w (w1.drewN (nq + n2))) := Lib.hid ⟨HR.out.1.new ((Turn.refl [] w1).drewN _), HR.out.2.drewN _⟩
  generalize w1.drewN (nq + n2) = w2 at *
  clear HR c7 c2 HL HF hb1 hca0 hca1
  go_wp2_with fail
  refine (HC.out w2 HT.out.1 HT.out.2).mono ?_
  rintro e w3 ⟨k, rfl, hk⟩
  have HK := Lib.hid hk
  clear hk HC HT hent
  go_wp2_with fail
  rw [Exit.noGoto_ret]
  go_ret
  exact ⟨k, rfl, HK.out⟩

end Go.Proofs.YthglbmnhlnpmkaaGreat
