/- Append, that is carried out. Numbers and types by name. -/
import Derived.Test.YthglbmnhlnpmkaaGreatWr2
import Derived.Deep.RegionLaw
import Derived.Deep.AppendLies
/- The writing calls that are made: Create. Numbers and types by name. -/
namespace Go.Proofs.YthglbmnhlnpmkaaGreat
open Go.RowKit Go.Maps Go.Sort Go.WideMaps

/-- The next writing call is neither the crash nor one that fails. -/
structure Runs (S : DM) : Prop where
  dw : S.dw = false
  cr : S.ca + 1 ≠ S.cr
  fail : S.fail.contains (S.ca + 1) = false
  ca0 : 0 ≤ S.ca
  ca1 : S.ca < 1000000
  fl : S.fail.length < 1000000

def Made (w : World) (base b : Nat) (S : DM) (s : DS) (name : List UInt8) (k : Int) (w' : World) : Prop :=
  k = 0 ∧ ∃ f m s', f.name = name ∧ f.bytes = [] ∧ f.sy = 0 ∧ w.heap.size ≤ f.blk ∧ f.row = none ∧
    Rep w' base b { S with ca := S.ca + 1, files := S.files ++ [f], mp := some m } s' ∧ s'.sz = s.sz ∧ Turn (b :: S.mp.toList) w w'

theorem hmf : ∀ (fn : Fn) (first cap : Array Value) (w : World), (Instr.makeFunc fn first cap).run Tryz.prog w = .ok (.func fn first cap) w := fun _ _ _ _ => rfl

theorem create_ok (base b : Nat) (S : DM) (s : DS) (name : ByteArray) (w : World) (hR : Rep w base b S s) (hr : Runs S) (hne : name.toList.isEmpty = false) (hf : S.files.any (named name.data.toList) = false) (hl : name.size ≤ maxLen) (hlen : S.files.length < maxLen) (hbase : base ≤ w.heap.size) :
    Calls Tryz.prog 22 #[theDisk b, .string name] w (Left (Made w base b S s name.data.toList)) := by
  have hw : ∀ W, W = (w.alloc (.cells #[theDisk b] 25)).alloc (.cells #[.string name] 9) →
      Calls Tryz.prog 51 #[theDisk b, .func (.func 52) #[] #[.pointer (some ⟨w.heap.size + 1, 0, none⟩), .pointer (some ⟨w.heap.size, 0, none⟩)]] W (Left (Made w base b S s name.data.toList)) := by
    rintro W rfl
    have t0 : Turn [] w ((w.alloc (.cells #[theDisk b] 25)).alloc (.cells #[.string name] 9)) := ((Turn.refl [] w).alloc _).alloc _
    have hbl := hR.disk.lt
    refine write_run base b _ _ S s _ _ (hR.new t0) hr.dw hr.cr hr.fail hr.ca0 hr.ca1 hr.fl (enters_of Tryz.func52 (by kernel_rfl) rfl) ?_
    intro w1 hR1 t1
    have hpd : w1.cell? ⟨w.heap.size, 0, none⟩ = some (theDisk b) := by
      have h0 : ((w.alloc (.cells #[theDisk b] 25)).alloc (.cells #[.string name] 9)).heap[w.heap.size]? = some (.cells #[theDisk b] 25 (0, 0)) := by
        rw [Below.heap_alloc _ _ _ (by simp)]; exact heap_alloc_new _ _
      exact cells_of (t1.heap h0 (by simp; omega)) 0 _ rfl
    have hpn : w1.cell? ⟨w.heap.size + 1, 0, none⟩ = some (.string name) := by
      have h0 : ((w.alloc (.cells #[theDisk b] 25)).alloc (.cells #[.string name] 9)).heap[w.heap.size + 1]? = some (.cells #[.string name] 9 (0, 0)) := by
        have := heap_alloc_new (w.alloc (.cells #[theDisk b] 25)) (.cells #[.string name] 9)
        simpa using this
      exact cells_of (t1.heap h0 (by simp; omega)) 0 _ rfl
    have hs1 : w.heap.size ≤ w1.heap.size := by have := t1.size; simp at this; omega
    refine (create_new (w.heap.size + 1) w.heap.size base b _ _ name w1 hpn hpd hR1 hne hf hl hlen (Nat.le_trans hbase hs1)).mono ?_
    rintro e w' ⟨rfl, f, m, s', h1, h2, h3, h4, h5, h6, h7, h8⟩
    exact ⟨0, rfl, rfl, f, m, s', h1, h2, h3, Nat.le_trans hs1 h4, h5, h6, h7, (t0.mono (by simp)).trans ((t1.mono (by simp)).trans h8)⟩
  have hmf := hmf
  unfold theDisk at hw
  unfold theDisk
  clear hR hr hne hf hl hlen hbase
  go_enter Tryz.func22, Tryz.ntmps22
  go_wp2_with fail
  refine (hw _ rfl).mono ?_
  rintro e w' ⟨k, rfl, hk⟩
  have HK := Lib.hid hk
  clear hk hw
  go_wp2
  go_ret
  exact ⟨k, rfl, HK.out⟩

end Go.Proofs.YthglbmnhlnpmkaaGreat

/- Append's closure. Numbers and types by name. -/
namespace Go.Proofs.YthglbmnhlnpmkaaGreat
open Go.RowKit Go.Maps Go.Sort Go.WideMaps

/-- What Append leaves in memory, told by its cells alone. -/
theorem append_walk (pd pn pb base b fb : Nat) (name : ByteArray) (vb : Value) (news : List Value) (fs : Value) (cap sz : Int) (ao : Option Addr) (n c : Nat) (xs : List Value) (w : World)
    (hd : w.cell? ⟨pd, 0, none⟩ = some (.pointer (some ⟨b, 0, none⟩))) (hn : w.cell? ⟨pn, 0, none⟩ = some (.string name)) (hb : w.cell? ⟨pb, 0, none⟩ = some vb)
    (c5 : w.cell? ⟨b, 5, none⟩ = some fs) (c0 : w.cell? ⟨b, 0, none⟩ = some (.int .i64 cap)) (c6 : w.cell? ⟨b, 6, none⟩ = some (.int .i64 sz)) (e6 : w.frozen? ⟨b, 6, none⟩ = false)
    (f0 : w.cell? ⟨fb, 0, none⟩ = some (.slice ao n c)) (g0 : w.frozen? ⟨fb, 0, none⟩ = false)
    (hlk : ∀ n, (Instr.lookup 57 fs (.string name) false).run Tryz.prog (w.drewN n) = .ok (.pointer (some ⟨fb, 0, none⟩)) (w.drewN n))
    (hown : w.ownsRow base 5 1 (.slice ao n c) n xs) (hr : Reads w vb news) (h1 : ∀ u ∈ news, u.oneCell' = true) (hrow : ∀ g, (Value.slice ao n c).ownBlock = some g → g ≠ b ∧ g ≠ fb ∧ g ≠ pd ∧ g ≠ pb) (hbf : b ≠ fb) (hdb : pd ≠ fb) (hpb : pb ≠ fb)
    (h63 : Hid (n + news.length ≤ maxLen)) (hbytes : Hid ((n + news.length) * 1 ≤ 140737488355328)) (hbase : base ≤ w.heap.size) (hs0 : 0 ≤ sz) (hs1 : sz + news.length < 1000000000) (hcap : sz + news.length ≤ cap) :
    Calls Tryz.prog 54 #[.pointer (some ⟨pd, 0, none⟩), .pointer (some ⟨pn, 0, none⟩), .pointer (some ⟨pb, 0, none⟩)] w fun e w' => e = .returned (.int .i64 0) ∧ ∃ ao' c' w1 n1,
      w1.ownsRow base 5 1 (.slice ao' (n + news.length) c') (n + news.length) (xs ++ news) ∧ w.grownBy w1 (Value.slice ao n c).ownBlock ∧ ((Value.slice ao' (n + news.length) c').ownBlock = (Value.slice ao n c).ownBlock ∨ (Value.slice ao' (n + news.length) c').ownBlock = some w.heap.size) ∧
      w' = (((w1.setCell ⟨fb, 0, none⟩ (.slice ao' (n + news.length) c')).setCell ⟨b, 6, none⟩ (.int .i64 (sz + news.length))).drewN n1) := by
  have hvb : ∃ aob cb, vb = .slice aob news.length cb := by obtain ⟨aob, cb, rfl, _⟩ := hr; exact ⟨aob, cb, rfl⟩
  obtain ⟨aob, cb, rfl⟩ := hvb
  have HROW := Lib.hid hrow
  have HCAP : (decide (cap < sz + (news.length : Int))) = false := by simp; omega
  clear hrow
  go_enter Tryz.func54, Tryz.ntmps54
  go_wp2
  go_quiet (fail)
  go_wp2
  go_quiet (fail)
  go_wp2
  rw [World.drewN_drewN]
  rename_i nq1
  have hfb : some fb ≠ (Value.slice ao n c).ownBlock := fun e => (HROW.out fb e.symm).2.1 rfl
  have hbb : some b ≠ (Value.slice ao n c).ownBlock := fun e => (HROW.out b e.symm).1 rfl
  have hpdb : some pd ≠ (Value.slice ao n c).ownBlock := fun e => (HROW.out pd e.symm).2.2.1 rfl
  have hpbb : some pb ≠ (Value.slice ao n c).ownBlock := fun e => (HROW.out pb e.symm).2.2.2 rfl
  have hfl : fb < w.heap.size := World.block_lt_of_cell? w _ f0
  have hbl : b < w.heap.size := World.block_lt_of_cell? w _ c6
  go_region_law (refine step_append_reads rfl (.tmp 30) (.tmp 31) rfl base (.slice ao n c) n xs (by simp [Act.eval]) hown (.slice aob news.length cb) news (by simp [Act.eval]) hr h1 h63 hbytes hbase ?_; intro ao' c' w1 hown1 hgrow1 hat; have f0' := hgrow1.cell (a := ⟨fb, 0, none⟩) f0 hfb; have g0' := (hgrow1.frozen_far ⟨fb, 0, none⟩ hfl hfb).trans g0)
  all_goals
    have hg : w.grownBy w1 (Value.slice ao n c).ownBlock := ⟨hgrow1.os, hgrow1.tape, hgrow1.output, hgrow1.size, hgrow1.block⟩
    have hat' : (Value.slice ao' (n + news.length) c').ownBlock = (Value.slice ao n c).ownBlock ∨ (Value.slice ao' (n + news.length) c').ownBlock = some w.heap.size := hat
    have c6' := hg.cell (a := ⟨b, 6, none⟩) c6 hbb
    have e6' := (hg.frozen_far ⟨b, 6, none⟩ hbl hbb).trans e6
    have hd' := hg.cell (a := ⟨pd, 0, none⟩) hd hpdb
    have hb' := hg.cell (a := ⟨pb, 0, none⟩) hb hpbb
    have HA := Lib.hid (And.intro hown1 (And.intro hg hat'))
    clear hgrow1 hat hown1 hat' hg hown hr h1 hfl hbl hfb hbb hpdb hpbb
    have n1 : ¬ b = fb := hbf
    have n2 : ¬ pd = fb := hdb
    have n3 : ¬ pb = fb := hpb
    have n4 : ¬ fb = b := fun e => hbf e.symm
    go_wp2
    go_region
    all_goals go_wp2
    all_goals go_ret
    all_goals exact ⟨rfl, ao', c', w1, 1, HA.out.1, HA.out.2.1, HA.out.2.2, rfl⟩

end Go.Proofs.YthglbmnhlnpmkaaGreat

/- One file of a disk turns. Numbers and types by name. -/
namespace Go.Proofs.YthglbmnhlnpmkaaGreat
open Go.RowKit Go.Maps Go.Sort Go.WideMaps

/-- The file named k turns by u. -/
def mapF (k : List UInt8) (u : FM → FM) (files : List FM) : List FM := files.map fun g => if named k g = true then u g else g

theorem find_mem {k : List UInt8} {files : List FM} {f : FM} (h : files.find? (named k) = some f) : f ∈ files ∧ f.name = k :=
  ⟨List.mem_of_find?_eq_some h, by have := List.find?_some h; simpa [named] using this⟩

theorem only_named {files : List FM} (hn : (files.map (·.name)).Nodup) {f g : FM} (hf : f ∈ files) (hg : g ∈ files) (h : f.name = g.name) : f = g := by
  induction files with
  | nil => cases hf
  | cons a l ih =>
    simp only [List.map_cons, List.nodup_cons, List.mem_map, not_exists, not_and] at hn
    rcases List.mem_cons.1 hf with rfl | hf'
    · rcases List.mem_cons.1 hg with rfl | hg'
      · rfl
      · exact absurd h.symm (hn.1 g hg')
    · rcases List.mem_cons.1 hg with rfl | hg'
      · exact absurd h (hn.1 f hf')
      · exact ih hn.2 hf' hg'

theorem mapF_names (k : List UInt8) (u : FM → FM) (hu : ∀ g, (u g).name = g.name) (files : List FM) : (mapF k u files).map (·.name) = files.map (·.name) := by
  unfold mapF
  rw [List.map_map]
  apply List.map_congr_left
  intro g _
  simp only [Function.comp]
  split
  · exact hu g
  · rfl

theorem look_mapF (k : List UInt8) (u : FM → FM) (hu : ∀ g, (u g).name = g.name) (hb : ∀ g, (u g).blk = g.blk) (files : List FM) (x : List UInt8) : Go.Proofs.YthglbmnhlnpmkaaGreat.lookD (mapF k u files) x = Go.Proofs.YthglbmnhlnpmkaaGreat.lookD files x := by
  induction files with
  | nil => rfl
  | cons a l ih =>
    unfold Go.Proofs.YthglbmnhlnpmkaaGreat.lookD mapF at *
    rw [List.map_cons, List.find?_cons, List.find?_cons]
    have e : named x (if named k a = true then u a else a) = named x a := by
      split
      · simp [named, hu]
      · rfl
    rw [e]
    cases named x a with
    | true => simp only; split <;> simp [hb]
    | false => exact ih

theorem any_mapF (k : List UInt8) (u : FM → FM) (hu : ∀ g, (u g).name = g.name) (files : List FM) (x : List UInt8) : (mapF k u files).any (named x) = files.any (named x) := by
  unfold mapF
  rw [List.any_map]
  congr 1
  funext g
  simp only [Function.comp]
  split
  · simp [named, hu]
  · rfl

theorem MapAt.mapF {w : World} {m : Nat} {files : List FM} (h : MapAt w m files) (k : List UInt8) (u : FM → FM) (hu : ∀ g, (u g).name = g.name) (hb : ∀ g, (u g).blk = g.blk) : MapAt w m (mapF k u files) := by
  obtain ⟨D, h1, h2, h3, h4⟩ := h
  have hl : (Go.Proofs.YthglbmnhlnpmkaaGreat.mapF k u files).length = files.length := by simp [Go.Proofs.YthglbmnhlnpmkaaGreat.mapF]
  exact ⟨D, by rw [hl]; exact h1, by rw [hl]; exact h2, fun x => by rw [look_mapF k u hu hb]; exact h3 x, fun x => by rw [any_mapF k u hu]; exact h4 x⟩

/-- One file turns: its bytes, how many are synced, where its bytes lie. -/
theorem Rep.file {w w' : World} {base b : Nat} {S : DM} {s : DS} (h : Rep w base b S s) {G : List Nat} (t : Turn G w w') (f : FM) (hf : S.files.find? (named f.name) = some f) (u : FM → FM) (hu : ∀ g, (u g).name = g.name) (hub : ∀ g, (u g).blk = g.blk)
    (hG : ∀ x ∈ G, x = b ∨ x ∈ f.foot) (hF : FileAt w' base (u f)) (hrow : (u f).row = f.row ∨ ∃ g, (u f).row = some g ∧ w.heap.size ≤ g) (sz : Int) (hd : DiskC w' b { s with sz := sz }) (hbase : base ≤ w.heap.size) :
    Rep w' base b { S with files := mapF f.name u S.files } { s with sz := sz } := by
  obtain ⟨hmem, _⟩ := find_mem hf
  have hlt := h.lt
  obtain ⟨hbf, hmf, hndf⟩ := h.apart2 f hmem
  have hsub : ∀ x ∈ f.foot, x ∈ foot b S := fun x hx => by simp only [foot, List.mem_cons, List.mem_append, List.mem_flatMap]; exact .inr (.inr ⟨f, hmem, hx⟩)
  have hbS : b ∈ foot b S := by simp [foot]
  have hGS : ∀ x ∈ G, x ∈ foot b S := fun x hx => (hG x hx).elim (fun e => e ▸ hbS) (hsub x)
  -- what another file's blocks are
  have hoth : ∀ g ∈ S.files, named f.name g = false → ∀ k ∈ g.foot, k ∉ f.foot ∧ k ≠ b := by
    intro g hg hn k hk
    refine ⟨fun hkf => ?_, fun e => (h.apart2 g hg).1 (e ▸ hk)⟩
    have hne : g ≠ f := by rintro rfl; simp [named] at hn
    have hp := h.apart3
    have : ∀ (l : List FM), l.Pairwise (fun f g => ∀ k ∈ f.foot, k ∉ g.foot) → f ∈ l → g ∈ l → False := by
      intro l
      induction l with
      | nil => intro _ h; cases h
      | cons a l ih =>
        intro hp h1 h2
        rw [List.pairwise_cons] at hp
        rcases List.mem_cons.1 h1 with rfl | h1'
        · rcases List.mem_cons.1 h2 with rfl | h2'
          · exact hne rfl
          · exact hp.1 g h2' k hkf hk
        · rcases List.mem_cons.1 h2 with rfl | h2'
          · exact hp.1 f h1' k hk hkf
          · exact ih hp.2 h1' h2'
    exact this _ hp hmem hg
  -- the new file's blocks: old ones, or new
  have hnew : ∀ k ∈ (u f).foot, k ∈ f.foot ∨ w.heap.size ≤ k := by
    intro k hk
    simp only [FM.foot, List.mem_cons, Option.mem_toList] at hk ⊢
    rcases hk with rfl | hk
    · exact .inl (.inl (hub f))
    · rcases hrow with e | ⟨g, e, hg⟩
      · exact .inl (.inr (e ▸ hk))
      · rw [e] at hk; simp at hk; subst hk; exact .inr hg
  have hun : ∀ g ∈ S.files, named f.name g = true → g = f := fun g hg hn => only_named h.names hg hmem (by simpa [named] using hn)
  have hfoot : ∀ k ∈ foot b { S with files := mapF f.name u S.files }, k ∈ foot b S ∨ w.heap.size ≤ k := by
    intro k hk
    simp only [foot, mapF, List.mem_cons, List.mem_append, List.mem_flatMap, List.mem_map] at hk
    rcases hk with rfl | hk | ⟨g', ⟨g, hg, rfl⟩, hk⟩
    · exact .inl hbS
    · exact .inl (by simp only [foot, List.mem_cons, List.mem_append]; exact .inr (.inl hk))
    · split at hk
      · next hn =>
        rw [hun g hg hn] at hk
        exact (hnew k hk).imp (hsub k) id
      · exact .inl (by simp only [foot, List.mem_cons, List.mem_append, List.mem_flatMap]; exact .inr (.inr ⟨g, hg, hk⟩))
  obtain ⟨ao, c, ao', c', h1, h2, h3, h4, h5, h6, h7, h8⟩ := h.lists
  exact {
    disk := hd
    cap := h.cap
    cr := h.cr
    ca := h.ca
    dn := h.dn
    dw := h.dw
    fs := h.fs
    lists := ⟨ao, c, ao', c', h1, h2, owns_turn h3 t (fun g hg hm => h7 g (h5.symm.trans hg) (hGS g hm)), owns_turn h4 t (fun g hg hm => h8 g (h6.symm.trans hg) (hGS g hm)), h5, h6,
      (fun g hg hm => (hfoot g hm).elim (h7 g hg) (fun e => by have := (h3.lt g (h5.trans hg)).2; omega)), (fun g hg hm => (hfoot g hm).elim (h8 g hg) (fun e => by have := (h4.lt g (h6.trans hg)).2; omega))⟩
    mapN := fun hm => by have := h.mapN hm; simp [this, mapF]
    mapS := fun m hm => ((h.mapS m hm).keep t (fun hx => (hG m hx).elim (fun e => h.apart1 m hm e.symm) (hmf m hm))).mapF _ u hu hub
    files := fun g' hg' => by
      simp only [mapF, List.mem_map] at hg'
      obtain ⟨g, hg, rfl⟩ := hg'
      split
      · next hn => rw [hun g hg hn]; exact hF
      · next hn =>
        refine (h.files g hg).keep t (fun k hk hx => ?_)
        have := hoth g hg (by simpa using hn) k hk
        exact (hG k hx).elim this.2 this.1
    apart1 := h.apart1
    apart2 := fun g' hg' => by
      simp only [mapF, List.mem_map] at hg'
      obtain ⟨g, hg, rfl⟩ := hg'
      split
      · next hn =>
        rw [hun g hg hn]
        refine ⟨fun hx => (hnew b hx).elim hbf (fun e => by have := hlt b hbS; omega), fun m hm hx => (hnew m hx).elim (hmf m hm) (fun e => by have := (h.mapS m hm).lt; omega), ?_⟩
        simp only [FM.foot, List.nodup_cons, Option.mem_toList] at hndf ⊢
        rw [hub f]
        rcases hrow with e | ⟨g2, e, hg2⟩
        · rw [e]; exact hndf
        · rw [e]
          refine ⟨fun e2 => ?_, by simp⟩
          have := hlt f.blk (hsub _ (by simp [FM.foot]))
          simp at e2
          omega
      · exact h.apart2 g hg
    apart3 := by
      unfold mapF
      rw [List.pairwise_map]
      refine h.apart3.imp_of_mem ?_
      intro x y hx hy hxy k hk hk'
      have hlx : ∀ z ∈ S.files, ∀ j ∈ z.foot, j < w.heap.size := fun z hz j hj => (h.files z hz).lt j hj
      split at hk
      · next hn =>
        have ex := hun x hx hn
        rw [ex] at hk hxy
        split at hk'
        · next hn' =>
          have ey := hun y hy hn'
          rw [ey] at hxy
          have hb0 : f.blk ∈ f.foot := by simp [FM.foot]
          exact hxy _ hb0 hb0
        · rcases hnew k hk with h0 | h0
          · exact hxy k h0 hk'
          · have := hlx y hy k hk'; omega
      · split at hk'
        · next hn' =>
          have ey := hun y hy hn'
          rw [ey] at hk' hxy
          rcases hnew k hk' with h0 | h0
          · exact hxy k hk h0
          · have := hlx x hx k hk; omega
        · exact hxy k hk hk'
    low := fun k hk => (hfoot k hk).elim (h.low k) (fun e => Nat.le_trans hbase e)
    names := by rw [show ({ S with files := mapF f.name u S.files } : DM).files = mapF f.name u S.files from rfl, mapF_names f.name u hu]; exact h.names
    sorted := h.sorted }

theorem total_mapF (k : List UInt8) (u : FM → FM) (files : List FM) (f : FM) (hf : files.find? (named k) = some f) (hn : (files.map (·.name)).Nodup) : total (mapF k u files) + f.bytes.length = total files + (u f).bytes.length := by
  induction files with
  | nil => cases hf
  | cons a l ih =>
    simp only [List.map_cons, List.nodup_cons, List.mem_map, not_exists, not_and] at hn
    rw [List.find?_cons] at hf
    by_cases ha : named k a = true
    · rw [ha] at hf
      simp only [Option.some.injEq] at hf
      subst hf
      have hl : l.map (fun g => if named k g = true then u g else g) = l := by
        have : l.map (fun g => if named k g = true then u g else g) = l.map id := by
          apply List.map_congr_left
          intro g hg
          have : named k g = false := by
            have h1 := hn.1 g hg
            simp only [named, beq_iff_eq, beq_eq_false_iff_ne] at ha ⊢
            exact fun e => h1 (e.trans ha.symm)
          simp [this]
        simpa using this
      simp only [total, mapF, List.map_cons, ha, if_true, List.sum_cons, hl]
      omega
    · simp only [Bool.not_eq_true] at ha
      rw [ha] at hf
      have := ih hf hn.2
      simp only [total, mapF, List.map_cons, ha, List.sum_cons] at this ⊢
      simp only [Bool.false_eq_true, if_false]
      omega

end Go.Proofs.YthglbmnhlnpmkaaGreat

namespace Go.Proofs.YthglbmnhlnpmkaaGreat
open Go.RowKit Go.Maps Go.Sort Go.WideMaps

def addTo (l : List UInt8) (row : Option Nat) (g : FM) : FM := { g with bytes := g.bytes ++ l, row := row }

def Longer (w : World) (base b : Nat) (S : DM) (s : DS) (ca : Int) (name l : List UInt8) (k : Int) (w' : World) : Prop :=
  k = 0 ∧ ∃ row s', Rep w' base b { S with ca := ca, files := mapF name (addTo l row) S.files } s' ∧ s'.sz = s.sz + l.length ∧ Turn (foot b S) w w'

theorem FileAt.own {w : World} {base : Nat} {f : FM} (h : FileAt w base f) : ∃ ao c, FileC w f.blk (.slice ao f.bytes.length c) f.sy ∧ w.ownsRow base 5 1 (.slice ao f.bytes.length c) f.bytes.length (bv f.bytes) ∧ (Value.slice ao f.bytes.length c).ownBlock = f.row ∧ f.sy ≤ f.bytes.length := h

theorem append_clo (pd pn pb base b : Nat) (S : DM) (s : DS) (name : ByteArray) (vb : Value) (l : List UInt8) (f : FM) (w : World) (hR : Rep w base b S s)
    (hd : w.cell? ⟨pd, 0, none⟩ = some (theDisk b)) (hn : w.cell? ⟨pn, 0, none⟩ = some (.string name)) (hb : w.cell? ⟨pb, 0, none⟩ = some vb) (hpd : pd ∉ foot b S) (hpb : pb ∉ foot b S)
    (hf : S.files.find? (named name.data.toList) = some f) (hl : name.size ≤ maxLen) (hr : Reads w vb (bv l)) (hsz : s.sz = total S.files) (hs1 : total S.files + l.length < 1000000000) (hcap : (total S.files : Int) + l.length ≤ S.cap) (hbase : base ≤ w.heap.size) (hfl : f.bytes.length ≤ total S.files) :
    Calls Tryz.prog 54 #[.pointer (some ⟨pd, 0, none⟩), .pointer (some ⟨pn, 0, none⟩), .pointer (some ⟨pb, 0, none⟩)] w (Left (Longer w base b S s S.ca name.data.toList l)) := by
  obtain ⟨hmem, hnm⟩ := find_mem hf
  obtain ⟨ao, c, hfc, hown, hrow, hsy⟩ := (hR.files f hmem).own
  obtain ⟨hbf, hmf, hnd⟩ := hR.apart2 f hmem
  have hsub : ∀ x ∈ f.foot, x ∈ foot b S := fun x hx => by simp only [foot, List.mem_cons, List.mem_append, List.mem_flatMap]; exact .inr (.inr ⟨f, hmem, hx⟩)
  have hblk : f.blk ∈ f.foot := by simp [FM.foot]
  have hbb : b ≠ f.blk := fun e => hbf (e ▸ hblk)
  have hrw : ∀ g, f.row = some g → g ∈ f.foot ∧ g ≠ f.blk := by
    intro g hg
    refine ⟨by simp [FM.foot, hg], ?_⟩
    rintro rfl
    simp [FM.foot, hg] at hnd
  have hlk : ∀ n, (Instr.lookup 57 s.fs (.string name) false).run Tryz.prog (w.drewN n) = .ok (.pointer (some ⟨f.blk, 0, none⟩)) (w.drewN n) := by
    intro n
    have := (hR.new ((Turn.refl [] w).drewN n)).look name hl
    rw [this]; simp [ptrOf, hf]
  have c0 := hR.disk.c0
  rw [hR.cap] at c0
  have hbl := bv_length l
  refine (append_walk pd pn pb base b f.blk name vb (bv l) s.fs S.cap s.sz ao f.bytes.length c (bv f.bytes) w hd hn hb hR.disk.c5 c0 hR.disk.c6 (hR.disk.free 6) hfc.c0 (hfc.free 0) hlk hown hr (bv_one l) ?_ hbb ?_ ?_ ?_ ?_ hbase (by omega) (by rw [hbl]; omega) (by rw [hbl]; omega)).mono ?_
  · intro g hg
    obtain ⟨h1, h2⟩ := hrw g (hrow.symm.trans hg)
    exact ⟨fun e => hbf (e ▸ h1), h2, fun e => hpd (e ▸ hsub g h1), fun e => hpb (e ▸ hsub g h1)⟩
  · rintro rfl; exact hpd (hsub _ hblk)
  · rintro rfl; exact hpb (hsub _ hblk)
  · exact Lib.hid (by rw [hbl]; unfold maxLen; omega)
  · exact Lib.hid (by rw [hbl]; omega)
  rintro e w' ⟨rfl, ao', c', w1, n1, hown1, hg1, hat, rfl⟩
  rw [hbl] at hown1 hat
  have t1 : Turn f.row.toList w w1 := Turn.of_grown hg1 (fun k hk => by simpa using hrow.symm.trans hk)
  have hd1 : DiskC w1 b s := hR.disk.turn t1 (fun hx => by
    have := hrw b (by simpa using hx)
    exact hbf this.1)
  have hf1 : FileC w1 f.blk (.slice ao f.bytes.length c) f.sy := hfc.turn t1 (fun hx => (hrw _ (by simpa using hx)).2 rfl)
  have hnew : ∀ g, (Value.slice ao' (f.bytes.length + l.length) c').ownBlock = some g → g ≠ b ∧ g ≠ f.blk := by
    intro g hg
    rcases hat with e | e
    · rw [e, hrow] at hg
      obtain ⟨h1, h2⟩ := hrw g hg
      exact ⟨fun e => hbf (e ▸ h1), h2⟩
    · rw [e] at hg
      have h1 := hR.disk.lt
      have h2 := hfc.lt
      simp at hg
      omega
  rw [bv_length]
  have hf2 := hf1.set0 (.slice ao' (f.bytes.length + l.length) c')
  have hd2 := (hd1.setNe hbb 0 (.slice ao' (f.bytes.length + l.length) c')).set6 (s.sz + l.length)
  have hf3 : FileC ((w1.setCell ⟨f.blk, 0, none⟩ (.slice ao' (f.bytes.length + l.length) c')).setCell ⟨b, 6, none⟩ (.int .i64 (s.sz + l.length))) f.blk (.slice ao' (f.bytes.length + l.length) c') f.sy := hf2.setNe (fun e => hbb e.symm) 6 _
  have t2 : Turn [f.blk, b] w1 ((w1.setCell ⟨f.blk, 0, none⟩ (.slice ao' (f.bytes.length + l.length) c')).setCell ⟨b, 6, none⟩ (.int .i64 (s.sz + l.length))) := ((Turn.refl _ w1).set (.inl (by simp)) 0 _).set (.inl (by simp)) 6 _
  have t3 : Turn (b :: f.foot) w ((w1.setCell ⟨f.blk, 0, none⟩ (.slice ao' (f.bytes.length + l.length) c')).setCell ⟨b, 6, none⟩ (.int .i64 (s.sz + l.length))) :=
    (t1.mono (by intro x hx; simp only [FM.foot, List.mem_cons]; exact .inr (.inr hx))).trans (t2.mono (by intro x hx; simp at hx; rcases hx with rfl | rfl <;> simp [FM.foot]))
  refine ⟨0, rfl, rfl, (Value.slice ao' (f.bytes.length + l.length) c').ownBlock, { s with sz := s.sz + l.length }, ?_, rfl, ?_⟩
  · have := hR.file t3 f (by rw [hnm]; exact hf) (addTo l (Value.slice ao' (f.bytes.length + l.length) c').ownBlock) (fun _ => rfl) (fun _ => rfl) (by intro x hx; simpa using hx) ?_ ?_ (s.sz + l.length) hd2 hbase
    · rw [hnm] at this
      exact this.new ((Turn.refl [] _).drewN n1)
    · refine ⟨ao', c', by simpa [addTo] using hf3, ?_, by simp [addTo], by simp [addTo]; omega⟩
      have : bv (f.bytes ++ l) = bv f.bytes ++ bv l := by simp [bv]
      simp only [addTo, List.length_append, this]
      exact owns_turn hown1 t2 (fun g hg => by have := hnew g hg; simp [this])
    · rcases hat with e | e
      · exact .inl (e.trans hrow)
      · exact .inr ⟨_, e, Nat.le_refl _⟩
  · exact (t3.mono (by intro x hx; rcases List.mem_cons.1 hx with rfl | hx; simp [foot]; exact hsub x hx)).drewN n1

/-- A box of one cell that a call has laid. -/
theorem box_at {w w1 : World} {F : List Nat} {v : Value} {t : TypeId} (h : Turn F (w.alloc (.cells #[v] t)) w1) (hF : w.heap.size ∉ F) : w1.cell? ⟨w.heap.size, 0, none⟩ = some v :=
  cells_of (h.heap (heap_alloc_new _ _) hF) 0 _ rfl

theorem append_ok (base b : Nat) (S : DM) (s : DS) (name : ByteArray) (vb : Value) (l : List UInt8) (f : FM) (w : World) (hR : Rep w base b S s) (hr : Runs S) (hf : S.files.find? (named name.data.toList) = some f) (hl : name.size ≤ maxLen) (hv : Reads w vb (bv l)) (hvb : bv l ≠ [] → ∀ a n c, vb = .slice (some a) n c → a.block ≠ b)
    (hsz : s.sz = total S.files) (hs1 : total S.files + l.length < 1000000000) (hcap : (total S.files : Int) + l.length ≤ S.cap) (hbase : base ≤ w.heap.size) (hfl : f.bytes.length ≤ total S.files) :
    Calls Tryz.prog 23 #[theDisk b, .string name, vb] w (Left (Longer w base b S s (S.ca + 1) name.data.toList l)) := by
  have hw : ∀ W, W = ((w.alloc (.cells #[theDisk b] 25)).alloc (.cells #[.string name] 9)).alloc (.cells #[vb] 46) →
      Calls Tryz.prog 51 #[theDisk b, .func (.func 54) #[] #[.pointer (some ⟨w.heap.size, 0, none⟩), .pointer (some ⟨w.heap.size + 1, 0, none⟩), .pointer (some ⟨w.heap.size + 1 + 1, 0, none⟩)]] W (Left (Longer w base b S s (S.ca + 1) name.data.toList l)) := by
    rintro W rfl
    have ta : Turn [] w (w.alloc (.cells #[theDisk b] 25)) := (Turn.refl [] w).alloc _
    have tb : Turn [] (w.alloc (.cells #[theDisk b] 25)) ((w.alloc (.cells #[theDisk b] 25)).alloc (.cells #[.string name] 9)) := (Turn.refl [] _).alloc _
    have tc : Turn [] ((w.alloc (.cells #[theDisk b] 25)).alloc (.cells #[.string name] 9)) (((w.alloc (.cells #[theDisk b] 25)).alloc (.cells #[.string name] 9)).alloc (.cells #[vb] 46)) := (Turn.refl [] _).alloc _
    have t0 := (ta.trans tb).trans tc
    have hlt := hR.lt
    have hbl := hR.disk.lt
    refine write_run base b _ _ S s _ _ (hR.new t0) hr.dw hr.cr hr.fail hr.ca0 hr.ca1 hr.fl (enters_of Tryz.func54 (by kernel_rfl) rfl) ?_
    intro w1 hR1 t1
    have hpd : w1.cell? ⟨w.heap.size, 0, none⟩ = some (theDisk b) := box_at (((tb.trans tc).mono (by simp)).trans t1) (by simp; omega)
    have hpn : w1.cell? ⟨w.heap.size + 1, 0, none⟩ = some (.string name) := by
      have := box_at ((tc.mono (by simp)).trans t1) (by simp; omega)
      simpa using this
    have hpb : w1.cell? ⟨w.heap.size + 1 + 1, 0, none⟩ = some vb := by
      have := box_at t1 (by simp; omega)
      simpa using this
    have hs1' : w.heap.size ≤ w1.heap.size := Nat.le_trans t0.size t1.size
    have hv1 : Reads w1 vb (bv l) := by
      have h0 := ((hv.alloc (.cells #[theDisk b] 25)).alloc (.cells #[.string name] 9)).alloc (.cells #[vb] 46)
      exact h0.turn t1 (fun hx a n c e => by simpa using hvb hx a n c e)
    refine (append_clo w.heap.size (w.heap.size + 1) (w.heap.size + 1 + 1) base b _ _ name vb l f w1 hR1 hpd hpn hpb (fun h => by have := hlt _ h; omega) (fun h => by have := hlt _ h; omega) hf hl hv1 hsz hs1 hcap (Nat.le_trans hbase hs1') hfl).mono ?_
    rintro e w' ⟨k, rfl, hk, row, s', h1, h2, h3⟩
    exact ⟨k, rfl, hk, row, s', h1, h2, (t0.mono (by simp)).trans ((t1.mono (by intro x hx; simp at hx; subst hx; simp [foot])).trans h3)⟩
  have hmf := hmf
  unfold theDisk at hw
  unfold theDisk
  clear hR hr hf hl hbase hvb hsz hs1 hcap hfl
  obtain ⟨aob, cb, rfl, _⟩ := hv
  go_enter Tryz.func23, Tryz.ntmps23
  go_wp2_with fail
  refine (hw _ rfl).mono ?_
  rintro e w' ⟨k, rfl, hk⟩
  have HK := Lib.hid hk
  clear hk hw
  go_wp2
  go_ret
  exact ⟨k, rfl, HK.out⟩

end Go.Proofs.YthglbmnhlnpmkaaGreat
