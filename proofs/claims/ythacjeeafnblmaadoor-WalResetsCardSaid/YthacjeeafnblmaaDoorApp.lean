/- Append's closure. Numbers and types by name. -/
import Derived.Test.YthacjeeafnblmaaDoorCre
import Derived.Deep.RegionLaw
import Derived.Deep.AppendLies
/- 'write': a writing call through the plan. Numbers and types by name. -/
namespace Go.Proofs.YthacjeeafnblmaaDoor
open Go.RowKit Go.Maps Go.Sort Go.WideMaps

/-- What a closure that write calls leaves: an error's number, and the rest. -/
def Left (R : Int → World → Prop) (e : Ending) (w : World) : Prop := ∃ k : Int, e = .returned (.int .i64 k) ∧ R k w

/-- Cells of the disk's own block turn: the counter, the flag, the size. -/
theorem Rep.own {w w' : World} {base b : Nat} {S : DM} {s : DS} (h : Rep w base b S s) (t : Turn [b] w w') (ca sz : Int) (dw : Bool) (hd : DiskC w' b { s with ca := ca, dw := dw, sz := sz }) :
    Rep w' base b { S with ca := ca, dw := dw } { s with ca := ca, dw := dw, sz := sz } := by
  have hb : b ∈ foot b S := by simp [foot]
  obtain ⟨ao, c, ao', c', h1, h2, h3, h4, h5, h6, h7, h8⟩ := h.lists
  exact {
    disk := hd
    cap := h.cap
    cr := h.cr
    ca := rfl
    dn := h.dn
    dw := rfl
    fs := h.fs
    lists := ⟨ao, c, ao', c', h1, h2, owns_turn h3 t (fun g hg => by
        have := h7 g (h5.symm.trans hg); simp only [List.mem_singleton]; rintro rfl; exact this hb), owns_turn h4 t (fun g hg => by
        have := h8 g (h6.symm.trans hg); simp only [List.mem_singleton]; rintro rfl; exact this hb), h5, h6, h7, h8⟩
    mapN := h.mapN
    mapS := fun m hm => (h.mapS m hm).keep t (by simp only [List.mem_singleton]; rintro rfl; exact h.apart1 _ hm rfl)
    files := fun f hf => (h.files f hf).keep t (fun k hk => by simp only [List.mem_singleton]; rintro rfl; exact (h.apart2 f hf).1 hk)
    apart1 := h.apart1
    apart2 := h.apart2
    apart3 := h.apart3
    low := h.low
    names := h.names
    sorted := h.sorted }

theorem Rep.count {w : World} {base b : Nat} {S : DM} {s : DS} (h : Rep w base b S s) (x : Int) : Rep (w.setCell ⟨b, 7, none⟩ (.int .i64 x)) base b { S with ca := x } { s with ca := x } := by
  have := h.own ((Turn.refl [b] w).set (.inl (by simp)) 7 (.int .i64 x)) x s.sz s.dw (h.disk.set7 x)
  rw [h.dw] at this
  have e : ({ s with ca := x, dw := S.dw, sz := s.sz } : DS) = { s with ca := x } := by rw [← h.dw]
  rw [e] at this
  exact this

theorem Rep.fails {w : World} {base b : Nat} {S : DM} {s : DS} (h : Rep w base b S s) (hfl : S.fail.length < 1000000) :
    Calls Tryd.prog 54 #[.pointer (some ⟨b, 0, none⟩)] w fun e w' => e = .returned (.bool (S.fail.contains S.ca)) ∧ ∃ n, w' = w.drewN n := by
  obtain ⟨ao, c, ao', c', h1, h2, h3, h4, h5, h6, h7, h8⟩ := h.lists
  have := fails_any b s base ao c S.fail w h.disk h1 h3 h.sorted (by omega)
  rw [h.ca] at this
  exact this

set_option maxRecDepth 100000 in
/-- The call is made: no crash, no failure. -/
theorem write_run (base b g : Nat) (cb : Array Value) (S : DM) (s : DS) (R : Int → World → Prop) (w : World) (hR : Rep w base b S s) (hdw : S.dw = false) (hcr : S.ca + 1 ≠ S.cr) (hfail : S.fail.contains (S.ca + 1) = false) (hca0 : 0 ≤ S.ca) (hca1 : S.ca < 1000000) (hfl : S.fail.length < 1000000)
    (hent : ∀ (args : Array Value) (w : World), (callFunc g args).run Tryd.prog w = .ok (.enter g args) w)
    (hcl : ∀ w1, Rep w1 base b { S with ca := S.ca + 1 } { s with ca := S.ca + 1 } → Turn [b] w w1 → Calls Tryd.prog g cb w1 (Left R)) :
    Calls Tryd.prog 37 #[theDisk b, .func (.func g) #[] cb] w (Left R) := by
  have c8 := hR.disk.c8
  have c7 := hR.disk.c7
  have c3 := hR.disk.c3
  have c2 := hR.disk.c2
  have e7 := hR.disk.free 7
  rw [hR.dw, hdw] at c8
  rw [hR.ca] at c7
  rw [hR.cr] at c2
  have hb1 : ((S.ca + 1 : Int) == S.cr) = false := by simpa using hcr
  have hR1 := hR.count (S.ca + 1)
  have t1 : Turn [b] w (w.setCell ⟨b, 7, none⟩ (.int .i64 (S.ca + 1))) := (Turn.refl [b] w).set (.inl (by simp)) 7 _
  have HR := Lib.hid (And.intro hR1 t1)
  have HF := Lib.hid hfail
  have HL := Lib.hid hfl
  have HC := Lib.hid hcl
  unfold theDisk
  clear hR hcl hR1 t1 hfail hfl hcr
  go_enter Tryd.func37, Tryd.ntmps37
  go_wp2
  go_step3
  go_wp2_with fail
  go_step3
  go_wp2_with fail
  obtain ⟨hR1, t1⟩ := HR.out
  generalize w.setCell ⟨b, 7, none⟩ (.int .i64 (S.ca + 1)) = w1 at *
  clear HR c8 c7 c3 c2 e7
  have c7 := hR1.disk.c7
  have c2 := hR1.disk.c2
  rw [hR1.ca] at c7
  rw [hR1.cr] at c2
  have HR := Lib.hid (And.intro hR1 t1)
  clear hR1 t1
  simp only at c7 c2
  go_quiet (fail)
  go_wp2_with fail
  refine ((HR.out.1.new ((Turn.refl [] w1).drewN nq)).fails HL.out).mono ?_
  rintro e w2 ⟨rfl, n2, rfl⟩
  rw [show ({ S with ca := S.ca + 1 } : DM).fail.contains ({ S with ca := S.ca + 1 } : DM).ca = false from HF.out]
  rw [World.drewN_drewN]
  have HT : Hid (Rep (w1.drewN (nq + n2)) base b { S with ca := S.ca + 1 } { s with ca := S.ca + 1 } ∧ Turn [b] w (w1.drewN (nq + n2))) := Lib.hid ⟨HR.out.1.new ((Turn.refl [] w1).drewN _), HR.out.2.drewN _⟩
  generalize w1.drewN (nq + n2) = w2 at *
  clear HR c7 c2 HL HF hb1 hca0 hca1
  go_wp2_with fail
  refine (HC.out w2 HT.out.1 HT.out.2).mono ?_
  rintro e w3 ⟨k, rfl, hk⟩
  have HK := Lib.hid hk
  clear hk HC HT hent
  go_wp2_with fail
  rw [Exit.noGoto_ret]
  go_ret
  exact ⟨k, rfl, HK.out⟩

end Go.Proofs.YthacjeeafnblmaaDoor

/- The writing calls that are made: Create. Numbers and types by name. -/
namespace Go.Proofs.YthacjeeafnblmaaDoor
open Go.RowKit Go.Maps Go.Sort Go.WideMaps

/-- The next writing call is neither the crash nor one that fails. -/
structure Runs (S : DM) : Prop where
  dw : S.dw = false
  cr : S.ca + 1 ≠ S.cr
  fail : S.fail.contains (S.ca + 1) = false
  ca0 : 0 ≤ S.ca
  ca1 : S.ca < 1000000
  fl : S.fail.length < 1000000

def Made (w : World) (base b : Nat) (S : DM) (s : DS) (name : List UInt8) (k : Int) (w' : World) : Prop :=
  k = 0 ∧ ∃ f m s', f.name = name ∧ f.bytes = [] ∧ f.sy = 0 ∧ w.heap.size ≤ f.blk ∧ f.row = none ∧
    Rep w' base b { S with ca := S.ca + 1, files := S.files ++ [f], mp := some m } s' ∧ s'.sz = s.sz ∧ Turn (b :: S.mp.toList) w w'

theorem hmf : ∀ (fn : Fn) (first cap : Array Value) (w : World), (Instr.makeFunc fn first cap).run Tryd.prog w = .ok (.func fn first cap) w := fun _ _ _ _ => rfl

theorem create_ok (base b : Nat) (S : DM) (s : DS) (name : ByteArray) (w : World) (hR : Rep w base b S s) (hr : Runs S) (hne : name.toList.isEmpty = false) (hf : S.files.any (named name.data.toList) = false) (hl : name.size ≤ maxLen) (hlen : S.files.length < maxLen) (hbase : base ≤ w.heap.size) :
    Calls Tryd.prog 24 #[theDisk b, .string name] w (Left (Made w base b S s name.data.toList)) := by
  have hw : ∀ W, W = (w.alloc (.cells #[theDisk b] 29)).alloc (.cells #[.string name] 9) →
      Calls Tryd.prog 37 #[theDisk b, .func (.func 38) #[] #[.pointer (some ⟨w.heap.size + 1, 0, none⟩), .pointer (some ⟨w.heap.size, 0, none⟩)]] W (Left (Made w base b S s name.data.toList)) := by
    rintro W rfl
    have t0 : Turn [] w ((w.alloc (.cells #[theDisk b] 29)).alloc (.cells #[.string name] 9)) := ((Turn.refl [] w).alloc _).alloc _
    have hbl := hR.disk.lt
    refine write_run base b _ _ S s _ _ (hR.new t0) hr.dw hr.cr hr.fail hr.ca0 hr.ca1 hr.fl (enters_of Tryd.func38 (by kernel_rfl) rfl) ?_
    intro w1 hR1 t1
    have hpd : w1.cell? ⟨w.heap.size, 0, none⟩ = some (theDisk b) := by
      have h0 : ((w.alloc (.cells #[theDisk b] 29)).alloc (.cells #[.string name] 9)).heap[w.heap.size]? = some (.cells #[theDisk b] 29 (0, 0)) := by
        rw [Below.heap_alloc _ _ _ (by simp)]; exact heap_alloc_new _ _
      exact cells_of (t1.heap h0 (by simp; omega)) 0 _ rfl
    have hpn : w1.cell? ⟨w.heap.size + 1, 0, none⟩ = some (.string name) := by
      have h0 : ((w.alloc (.cells #[theDisk b] 29)).alloc (.cells #[.string name] 9)).heap[w.heap.size + 1]? = some (.cells #[.string name] 9 (0, 0)) := by
        have := heap_alloc_new (w.alloc (.cells #[theDisk b] 29)) (.cells #[.string name] 9)
        simpa using this
      exact cells_of (t1.heap h0 (by simp; omega)) 0 _ rfl
    have hs1 : w.heap.size ≤ w1.heap.size := by have := t1.size; simp at this; omega
    refine (create_new (w.heap.size + 1) w.heap.size base b _ _ name w1 hpn hpd hR1 hne hf hl hlen (Nat.le_trans hbase hs1)).mono ?_
    rintro e w' ⟨rfl, f, m, s', h1, h2, h3, h4, h5, h6, h7, h8⟩
    exact ⟨0, rfl, rfl, f, m, s', h1, h2, h3, Nat.le_trans hs1 h4, h5, h6, h7, (t0.mono (by simp)).trans ((t1.mono (by simp)).trans h8)⟩
  have hmf := hmf
  unfold theDisk at hw
  unfold theDisk
  clear hR hr hne hf hl hlen hbase
  go_enter Tryd.func24, Tryd.ntmps24
  go_wp2_with fail
  refine (hw _ rfl).mono ?_
  rintro e w' ⟨k, rfl, hk⟩
  have HK := Lib.hid hk
  clear hk hw
  go_wp2
  go_ret
  exact ⟨k, rfl, HK.out⟩

end Go.Proofs.YthacjeeafnblmaaDoor

namespace Go.Proofs.YthacjeeafnblmaaDoor
open Go.RowKit Go.Maps Go.Sort Go.WideMaps

/-- What Append leaves in memory, told by its cells alone. -/
theorem append_walk (pd pn pb base b fb : Nat) (name : ByteArray) (vb : Value) (news : List Value) (fs : Value) (cap sz : Int) (ao : Option Addr) (n c : Nat) (xs : List Value) (w : World)
    (hd : w.cell? ⟨pd, 0, none⟩ = some (.pointer (some ⟨b, 0, none⟩))) (hn : w.cell? ⟨pn, 0, none⟩ = some (.string name)) (hb : w.cell? ⟨pb, 0, none⟩ = some vb)
    (c5 : w.cell? ⟨b, 5, none⟩ = some fs) (c0 : w.cell? ⟨b, 0, none⟩ = some (.int .i64 cap)) (c6 : w.cell? ⟨b, 6, none⟩ = some (.int .i64 sz)) (e6 : w.frozen? ⟨b, 6, none⟩ = false)
    (f0 : w.cell? ⟨fb, 0, none⟩ = some (.slice ao n c)) (g0 : w.frozen? ⟨fb, 0, none⟩ = false)
    (hlk : ∀ n, (Instr.lookup 52 fs (.string name) false).run Tryd.prog (w.drewN n) = .ok (.pointer (some ⟨fb, 0, none⟩)) (w.drewN n))
    (hown : w.ownsRow base 5 1 (.slice ao n c) n xs) (hr : Reads w vb news) (h1 : ∀ u ∈ news, u.oneCell' = true) (hrow : ∀ g, (Value.slice ao n c).ownBlock = some g → g ≠ b ∧ g ≠ fb ∧ g ≠ pd ∧ g ≠ pb) (hbf : b ≠ fb) (hdb : pd ≠ fb) (hpb : pb ≠ fb)
    (h63 : Hid (n + news.length ≤ maxLen)) (hbytes : Hid ((n + news.length) * 1 ≤ 140737488355328)) (hbase : base ≤ w.heap.size) (hs0 : 0 ≤ sz) (hs1 : sz + news.length < 1000000000) (hcap : sz + news.length ≤ cap) :
    Calls Tryd.prog 50 #[.pointer (some ⟨pd, 0, none⟩), .pointer (some ⟨pn, 0, none⟩), .pointer (some ⟨pb, 0, none⟩)] w fun e w' => e = .returned (.int .i64 0) ∧ ∃ ao' c' w1 n1,
      w1.ownsRow base 5 1 (.slice ao' (n + news.length) c') (n + news.length) (xs ++ news) ∧ w.grownBy w1 (Value.slice ao n c).ownBlock ∧ ((Value.slice ao' (n + news.length) c').ownBlock = (Value.slice ao n c).ownBlock ∨ (Value.slice ao' (n + news.length) c').ownBlock = some w.heap.size) ∧
      w' = (((w1.setCell ⟨fb, 0, none⟩ (.slice ao' (n + news.length) c')).setCell ⟨b, 6, none⟩ (.int .i64 (sz + news.length))).drewN n1) := by
  have hvb : ∃ aob cb, vb = .slice aob news.length cb := by obtain ⟨aob, cb, rfl, _⟩ := hr; exact ⟨aob, cb, rfl⟩
  obtain ⟨aob, cb, rfl⟩ := hvb
  have HROW := Lib.hid hrow
  have HCAP : (decide (cap < sz + (news.length : Int))) = false := by simp; omega
  clear hrow
  go_enter Tryd.func50, Tryd.ntmps50
  go_wp2
  go_quiet (fail)
  go_wp2
  go_quiet (fail)
  go_wp2
  rw [World.drewN_drewN]
  rename_i nq1
  have hfb : some fb ≠ (Value.slice ao n c).ownBlock := fun e => (HROW.out fb e.symm).2.1 rfl
  have hbb : some b ≠ (Value.slice ao n c).ownBlock := fun e => (HROW.out b e.symm).1 rfl
  have hpdb : some pd ≠ (Value.slice ao n c).ownBlock := fun e => (HROW.out pd e.symm).2.2.1 rfl
  have hpbb : some pb ≠ (Value.slice ao n c).ownBlock := fun e => (HROW.out pb e.symm).2.2.2 rfl
  have hfl : fb < w.heap.size := World.block_lt_of_cell? w _ f0
  have hbl : b < w.heap.size := World.block_lt_of_cell? w _ c6
  go_region_law (refine step_append_reads rfl (.tmp 30) (.tmp 31) rfl base (.slice ao n c) n xs (by simp [Act.eval]) hown (.slice aob news.length cb) news (by simp [Act.eval]) hr h1 h63 hbytes hbase ?_; intro ao' c' w1 hown1 hgrow1 hat; have f0' := hgrow1.cell (a := ⟨fb, 0, none⟩) f0 hfb; have g0' := (hgrow1.frozen_far ⟨fb, 0, none⟩ hfl hfb).trans g0)
  all_goals
    have hg : w.grownBy w1 (Value.slice ao n c).ownBlock := ⟨hgrow1.os, hgrow1.tape, hgrow1.output, hgrow1.size, hgrow1.block⟩
    have hat' : (Value.slice ao' (n + news.length) c').ownBlock = (Value.slice ao n c).ownBlock ∨ (Value.slice ao' (n + news.length) c').ownBlock = some w.heap.size := hat
    have c6' := hg.cell (a := ⟨b, 6, none⟩) c6 hbb
    have e6' := (hg.frozen_far ⟨b, 6, none⟩ hbl hbb).trans e6
    have hd' := hg.cell (a := ⟨pd, 0, none⟩) hd hpdb
    have hb' := hg.cell (a := ⟨pb, 0, none⟩) hb hpbb
    have HA := Lib.hid (And.intro hown1 (And.intro hg hat'))
    clear hgrow1 hat hown1 hat' hg hown hr h1 hfl hbl hfb hbb hpdb hpbb
    have n1 : ¬ b = fb := hbf
    have n2 : ¬ pd = fb := hdb
    have n3 : ¬ pb = fb := hpb
    have n4 : ¬ fb = b := fun e => hbf e.symm
    go_wp2
    go_region
    all_goals go_wp2
    all_goals go_ret
    all_goals exact ⟨rfl, ao', c', w1, 1, HA.out.1, HA.out.2.1, HA.out.2.2, rfl⟩

end Go.Proofs.YthacjeeafnblmaaDoor
