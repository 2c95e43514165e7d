/- The writing calls that are made: Create. Numbers and types by name. -/
import Derived.Test.YtmpjjnjggiipjaaWr2
namespace Go.Proofs.Ytmpjjnjggiipjaa
open Go.RowKit Go.Maps Go.Sort Go.WideMaps

/-- The next writing call is neither the crash nor one that fails. -/
structure Runs (S : DM) : Prop where
  dw : S.dw = false
  cr : S.ca + 1 ≠ S.cr
  fail : S.fail.contains (S.ca + 1) = false
  ca0 : 0 ≤ S.ca
  ca1 : S.ca < 1000000
  fl : S.fail.length < 1000000

def Made (w : World) (base b : Nat) (S : DM) (s : DS) (name : List UInt8) (k : Int) (w' : World) : Prop :=
  k = 0 ∧ ∃ f m s', f.name = name ∧ f.bytes = [] ∧ f.sy = 0 ∧ w.heap.size ≤ f.blk ∧ f.row = none ∧
    Rep w' base b { S with ca := S.ca + 1, files := S.files ++ [f], mp := some m } s' ∧ s'.sz = s.sz ∧ Turn (b :: S.mp.toList) w w'

theorem hmf : ∀ (fn : Fn) (first cap : Array Value) (w : World), (Instr.makeFunc fn first cap).run Try.prog w = .ok (.func fn first cap) w := fun _ _ _ _ => rfl

theorem create_ok (base b : Nat) (S : DM) (s : DS) (name : ByteArray) (w : World) (hR : Rep w base b S s) (hr : Runs S) (hne : name.toList.isEmpty = false) (hf : S.files.any (named name.data.toList) = false) (hl : name.size ≤ maxLen) (hlen : S.files.length < maxLen) (hbase : base ≤ w.heap.size) :
    Calls Try.prog 12 #[theDisk b, .string name] w (Left (Made w base b S s name.data.toList)) := by
  have hw : ∀ W, W = (w.alloc (.cells #[theDisk b] 28)).alloc (.cells #[.string name] 9) →
      Calls Try.prog 32 #[theDisk b, .func (.func 33) #[] #[.pointer (some ⟨w.heap.size + 1, 0, none⟩), .pointer (some ⟨w.heap.size, 0, none⟩)]] W (Left (Made w base b S s name.data.toList)) := by
    rintro W rfl
    have t0 : Turn [] w ((w.alloc (.cells #[theDisk b] 28)).alloc (.cells #[.string name] 9)) := ((Turn.refl [] w).alloc _).alloc _
    have hbl := hR.disk.lt
    refine write_run base b _ _ S s _ _ (hR.new t0) hr.dw hr.cr hr.fail hr.ca0 hr.ca1 hr.fl (enters_of Try.func33 (by kernel_rfl) rfl) ?_
    intro w1 hR1 t1
    have hpd : w1.cell? ⟨w.heap.size, 0, none⟩ = some (theDisk b) := by
      have h0 : ((w.alloc (.cells #[theDisk b] 28)).alloc (.cells #[.string name] 9)).heap[w.heap.size]? = some (.cells #[theDisk b] 28 (0, 0)) := by
        rw [Below.heap_alloc _ _ _ (by simp)]; exact heap_alloc_new _ _
      exact cells_of (t1.heap h0 (by simp; omega)) 0 _ rfl
    have hpn : w1.cell? ⟨w.heap.size + 1, 0, none⟩ = some (.string name) := by
      have h0 : ((w.alloc (.cells #[theDisk b] 28)).alloc (.cells #[.string name] 9)).heap[w.heap.size + 1]? = some (.cells #[.string name] 9 (0, 0)) := by
        have := heap_alloc_new (w.alloc (.cells #[theDisk b] 28)) (.cells #[.string name] 9)
        simpa using this
      exact cells_of (t1.heap h0 (by simp; omega)) 0 _ rfl
    have hs1 : w.heap.size ≤ w1.heap.size := by have := t1.size; simp at this; omega
    refine (create_new (w.heap.size + 1) w.heap.size base b _ _ name w1 hpn hpd hR1 hne hf hl hlen (Nat.le_trans hbase hs1)).mono ?_
    rintro e w' ⟨rfl, f, m, s', h1, h2, h3, h4, h5, h6, h7, h8⟩
    exact ⟨0, rfl, rfl, f, m, s', h1, h2, h3, Nat.le_trans hs1 h4, h5, h6, h7, (t0.mono (by simp)).trans ((t1.mono (by simp)).trans h8)⟩
  have hmf := hmf
  unfold theDisk at hw
  unfold theDisk
  clear hR hr hne hf hl hlen hbase
  go_enter Try.func12, Try.ntmps12
  go_wp2_with fail
  refine (hw _ rfl).mono ?_
  rintro e w' ⟨k, rfl, hk⟩
  have HK := Lib.hid hk
  clear hk hw
  go_wp2
  go_ret
  exact ⟨k, rfl, HK.out⟩

end Go.Proofs.Ytmpjjnjggiipjaa
