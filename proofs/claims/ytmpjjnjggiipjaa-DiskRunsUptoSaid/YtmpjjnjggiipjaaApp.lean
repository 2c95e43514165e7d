/- Append's closure. Numbers and types by name. -/
import Derived.Test.YtmpjjnjggiipjaaMet
import Derived.Deep.RegionLaw
import Derived.Deep.AppendLies
namespace Go.Proofs.Ytmpjjnjggiipjaa
open Go.RowKit Go.Maps Go.Sort Go.WideMaps

/-- What Append leaves in memory, told by its cells alone. -/
theorem append_walk (pd pn pb base b fb : Nat) (name : ByteArray) (vb : Value) (news : List Value) (fs : Value) (cap sz : Int) (ao : Option Addr) (n c : Nat) (xs : List Value) (w : World)
    (hd : w.cell? ⟨pd, 0, none⟩ = some (.pointer (some ⟨b, 0, none⟩))) (hn : w.cell? ⟨pn, 0, none⟩ = some (.string name)) (hb : w.cell? ⟨pb, 0, none⟩ = some vb)
    (c5 : w.cell? ⟨b, 5, none⟩ = some fs) (c0 : w.cell? ⟨b, 0, none⟩ = some (.int .i64 cap)) (c6 : w.cell? ⟨b, 6, none⟩ = some (.int .i64 sz)) (e6 : w.frozen? ⟨b, 6, none⟩ = false)
    (f0 : w.cell? ⟨fb, 0, none⟩ = some (.slice ao n c)) (g0 : w.frozen? ⟨fb, 0, none⟩ = false)
    (hlk : ∀ n, (Instr.lookup 49 fs (.string name) false).run Try.prog (w.drewN n) = .ok (.pointer (some ⟨fb, 0, none⟩)) (w.drewN n))
    (hown : w.ownsRow base 5 1 (.slice ao n c) n xs) (hr : Reads w vb news) (h1 : ∀ u ∈ news, u.oneCell' = true) (hrow : ∀ g, (Value.slice ao n c).ownBlock = some g → g ≠ b ∧ g ≠ fb ∧ g ≠ pd ∧ g ≠ pb) (hbf : b ≠ fb) (hdb : pd ≠ fb) (hpb : pb ≠ fb)
    (h63 : Hid (n + news.length ≤ maxLen)) (hbytes : Hid ((n + news.length) * 1 ≤ 140737488355328)) (hbase : base ≤ w.heap.size) (hs0 : 0 ≤ sz) (hs1 : sz + news.length < 1000000000) (hcap : sz + news.length ≤ cap) :
    Calls Try.prog 35 #[.pointer (some ⟨pd, 0, none⟩), .pointer (some ⟨pn, 0, none⟩), .pointer (some ⟨pb, 0, none⟩)] w fun e w' => e = .returned (.int .i64 0) ∧ ∃ ao' c' w1 n1,
      w1.ownsRow base 5 1 (.slice ao' (n + news.length) c') (n + news.length) (xs ++ news) ∧ w.grownBy w1 (Value.slice ao n c).ownBlock ∧ ((Value.slice ao' (n + news.length) c').ownBlock = (Value.slice ao n c).ownBlock ∨ (Value.slice ao' (n + news.length) c').ownBlock = some w.heap.size) ∧
      w' = (((w1.setCell ⟨fb, 0, none⟩ (.slice ao' (n + news.length) c')).setCell ⟨b, 6, none⟩ (.int .i64 (sz + news.length))).drewN n1) := by
  have hvb : ∃ aob cb, vb = .slice aob news.length cb := by obtain ⟨aob, cb, rfl, _⟩ := hr; exact ⟨aob, cb, rfl⟩
  obtain ⟨aob, cb, rfl⟩ := hvb
  have HROW := Lib.hid hrow
  have HCAP : (decide (cap < sz + (news.length : Int))) = false := by simp; omega
  clear hrow
  go_enter Try.func35, Try.ntmps35
  go_wp2
  go_quiet (fail)
  go_wp2
  go_quiet (fail)
  go_wp2
  rw [World.drewN_drewN]
  rename_i nq1
  have hfb : some fb ≠ (Value.slice ao n c).ownBlock := fun e => (HROW.out fb e.symm).2.1 rfl
  have hbb : some b ≠ (Value.slice ao n c).ownBlock := fun e => (HROW.out b e.symm).1 rfl
  have hpdb : some pd ≠ (Value.slice ao n c).ownBlock := fun e => (HROW.out pd e.symm).2.2.1 rfl
  have hpbb : some pb ≠ (Value.slice ao n c).ownBlock := fun e => (HROW.out pb e.symm).2.2.2 rfl
  have hfl : fb < w.heap.size := World.block_lt_of_cell? w _ f0
  have hbl : b < w.heap.size := World.block_lt_of_cell? w _ c6
  go_region_law (refine step_append_reads rfl (.tmp 30) (.tmp 31) rfl base (.slice ao n c) n xs (by simp [Act.eval]) hown (.slice aob news.length cb) news (by simp [Act.eval]) hr h1 h63 hbytes hbase ?_; intro ao' c' w1 hown1 hgrow1 hat; have f0' := hgrow1.cell (a := ⟨fb, 0, none⟩) f0 hfb; have g0' := (hgrow1.frozen_far ⟨fb, 0, none⟩ hfl hfb).trans g0)
  all_goals
    have hg : w.grownBy w1 (Value.slice ao n c).ownBlock := ⟨hgrow1.os, hgrow1.tape, hgrow1.output, hgrow1.size, hgrow1.block⟩
    have hat' : (Value.slice ao' (n + news.length) c').ownBlock = (Value.slice ao n c).ownBlock ∨ (Value.slice ao' (n + news.length) c').ownBlock = some w.heap.size := hat
    have c6' := hg.cell (a := ⟨b, 6, none⟩) c6 hbb
    have e6' := (hg.frozen_far ⟨b, 6, none⟩ hbl hbb).trans e6
    have hd' := hg.cell (a := ⟨pd, 0, none⟩) hd hpdb
    have hb' := hg.cell (a := ⟨pb, 0, none⟩) hb hpbb
    have HA := Lib.hid (And.intro hown1 (And.intro hg hat'))
    clear hgrow1 hat hown1 hat' hg hown hr h1 hfl hbl hfb hbb hpdb hpbb
    have n1 : ¬ b = fb := hbf
    have n2 : ¬ pd = fb := hdb
    have n3 : ¬ pb = fb := hpb
    have n4 : ¬ fb = b := fun e => hbf e.symm
    go_wp2
    go_region
    all_goals go_wp2
    all_goals go_ret
    all_goals exact ⟨rfl, ao', c', w1, 1, HA.out.1, HA.out.2.1, HA.out.2.2, rfl⟩

end Go.Proofs.Ytmpjjnjggiipjaa
