/- The closures of the writing calls, each way; the methods over what write does. Numbers and types by name. -/
import Derived.Test.YtmpjjnjggiipjaaRen
import Derived.Test.YtmpjjnjggiipjaaWr3
import Derived.Test.YtmpjjnjggiipjaaAp4
namespace Go.Proofs.Ytmpjjnjggiipjaa
open Go.RowKit Go.Maps Go.Sort Go.WideMaps

/-- Create over what write does. -/
theorem create_via (b : Nat) (name : ByteArray) (w : World) (R : Int → World → Prop)
    (hw : ∀ W, W = (w.alloc (.cells #[theDisk b] 28)).alloc (.cells #[.string name] 9) →
      Calls Try.prog 32 #[theDisk b, .func (.func 33) #[] #[.pointer (some ⟨w.heap.size + 1, 0, none⟩), .pointer (some ⟨w.heap.size, 0, none⟩)]] W (Left R)) :
    Calls Try.prog 12 #[theDisk b, .string name] w (Left R) := by
  have hmf := hmf
  unfold theDisk at hw
  unfold theDisk
  go_enter Try.func12, Try.ntmps12
  go_wp2_with fail
  refine (hw _ rfl).mono ?_
  rintro e w' ⟨k, rfl, hk⟩
  have HK := Lib.hid hk
  clear hk hw
  go_wp2
  go_ret
  exact ⟨k, rfl, HK.out⟩

/-- What lies in memory when the closure of Create runs. -/
theorem create_boxes {w w1 : World} {b : Nat} {name : ByteArray} (t1 : Turn [b] ((w.alloc (.cells #[theDisk b] 28)).alloc (.cells #[.string name] 9)) w1) (hbl : b < w.heap.size) :
    w1.cell? ⟨w.heap.size, 0, none⟩ = some (theDisk b) ∧ w1.cell? ⟨w.heap.size + 1, 0, none⟩ = some (.string name) ∧ w.heap.size ≤ w1.heap.size := by
  refine ⟨?_, ?_, ?_⟩
  · have h0 : ((w.alloc (.cells #[theDisk b] 28)).alloc (.cells #[.string name] 9)).heap[w.heap.size]? = some (.cells #[theDisk b] 28 (0, 0)) := by
      rw [Below.heap_alloc _ _ _ (by simp)]; exact heap_alloc_new _ _
    exact cells_of (t1.heap h0 (by simp; omega)) 0 _ rfl
  · have h0 : ((w.alloc (.cells #[theDisk b] 28)).alloc (.cells #[.string name] 9)).heap[w.heap.size + 1]? = some (.cells #[.string name] 9 (0, 0)) := by
      have := heap_alloc_new (w.alloc (.cells #[theDisk b] 28)) (.cells #[.string name] 9)
      simpa using this
    exact cells_of (t1.heap h0 (by simp; omega)) 0 _ rfl
  · have := t1.size; simp at this; omega

/-- Read of a disk that is down. -/
theorem read_down (base b : Nat) (S : DM) (s : DS) (name : Value) (w : World) (hR : Rep w base b S s) (hdw : S.dw = true) :
    Calls Try.prog 16 #[theDisk b, name] w fun e w' => e = .returned (.tuple #[.slice none 0 0, .int .i64 7]) ∧ w = w' := by
  have c8 := hR.disk.c8
  rw [hR.dw, hdw] at c8
  clear hR
  unfold theDisk
  go_enter Try.func16, Try.ntmps16
  go_wp2
  go_ret2
  exact ⟨rfl, rfl⟩

theorem down_rep (base b : Nat) (S : DM) (s : DS) (w : World) (hR : Rep w base b S s) :
    Calls Try.prog 9 #[theDisk b] w fun e w' => e = .returned (.bool S.dw) ∧ w = w' := by
  have c8 := hR.disk.c8
  rw [hR.dw] at c8
  clear hR
  unfold theDisk
  go_enter Try.func9, Try.ntmps9
  go_wp2
  go_ret
  exact ⟨rfl, rfl⟩

/-- A file that is not there. -/
theorem read_none (base b : Nat) (S : DM) (s : DS) (name : ByteArray) (w : World) (hR : Rep w base b S s) (hdw : S.dw = false) (hf : S.files.find? (named name.data.toList) = none) (hl : name.size ≤ maxLen) :
    Calls Try.prog 16 #[theDisk b, .string name] w fun e w' => e = .returned (.tuple #[.slice none 0 0, .int .i64 3]) ∧ w = w' := by
  have c8 := hR.disk.c8
  rw [hR.dw, hdw] at c8
  have c5 := hR.disk.c5
  have hlk : (Instr.lookup 49 s.fs (.string name) false).run Try.prog w = .ok (.pointer none) w := by
    rw [hR.look name hl]; simp [ptrOf, hf]
  clear hR hdw hf hl
  unfold theDisk
  go_enter Try.func16, Try.ntmps16
  go_wp2
  go_ret2
  exact ⟨rfl, rfl⟩

/-- Append over what write does. -/
theorem append_via (b : Nat) (name : ByteArray) (aob : Option Addr) (nb cb : Nat) (w : World) (R : Int → World → Prop)
    (hw : ∀ W, W = ((w.alloc (.cells #[theDisk b] 28)).alloc (.cells #[.string name] 9)).alloc (.cells #[.slice aob nb cb] 33) →
      Calls Try.prog 32 #[theDisk b, .func (.func 35) #[] #[.pointer (some ⟨w.heap.size, 0, none⟩), .pointer (some ⟨w.heap.size + 1, 0, none⟩), .pointer (some ⟨w.heap.size + 1 + 1, 0, none⟩)]] W (Left R)) :
    Calls Try.prog 13 #[theDisk b, .string name, .slice aob nb cb] w (Left R) := by
  have hmf := hmf
  unfold theDisk at hw
  unfold theDisk
  go_enter Try.func13, Try.ntmps13
  go_wp2_with fail
  refine (hw _ rfl).mono ?_
  rintro e w' ⟨k, rfl, hk⟩
  have HK := Lib.hid hk
  clear hk hw
  go_wp2
  go_ret
  exact ⟨k, rfl, HK.out⟩

/-- Append's closure where there is no such file. -/
theorem append_clo_none (pd pn pb base b : Nat) (S : DM) (s : DS) (name : ByteArray) (vb : Value) (w : World) (hR : Rep w base b S s)
    (hd : w.cell? ⟨pd, 0, none⟩ = some (theDisk b)) (hn : w.cell? ⟨pn, 0, none⟩ = some (.string name)) (_hb : w.cell? ⟨pb, 0, none⟩ = some vb)
    (hf : S.files.find? (named name.data.toList) = none) (hl : name.size ≤ maxLen) :
    Calls Try.prog 35 #[.pointer (some ⟨pd, 0, none⟩), .pointer (some ⟨pn, 0, none⟩), .pointer (some ⟨pb, 0, none⟩)] w (Left fun k w' => k = 3 ∧ Turn [] w w') := by
  have hlk : ∀ n, (Instr.lookup 49 s.fs (.string name) false).run Try.prog (w.drewN n) = .ok (.pointer none) (w.drewN n) := by
    intro n
    have := (hR.new ((Turn.refl [] w).drewN n)).look name hl
    rw [this]; simp [ptrOf, hf]
  have c5 := hR.disk.c5
  unfold theDisk at hd
  clear hR hf hl
  go_enter Try.func35, Try.ntmps35
  go_wp2
  go_quiet (fail)
  go_wp2
  go_ret
  exact ⟨3, rfl, rfl, (Turn.refl [] w).drewN _⟩

/-- Append's closure where there is no room. -/
theorem append_clo_full (pd pn pb base b : Nat) (S : DM) (s : DS) (name : ByteArray) (aob : Option Addr) (nb cb : Nat) (f : FM) (w : World) (hR : Rep w base b S s)
    (hd : w.cell? ⟨pd, 0, none⟩ = some (theDisk b)) (hn : w.cell? ⟨pn, 0, none⟩ = some (.string name)) (hb : w.cell? ⟨pb, 0, none⟩ = some (.slice aob nb cb))
    (hf : S.files.find? (named name.data.toList) = some f) (hl : name.size ≤ maxLen) (hsz : s.sz = total S.files) (hs1 : total S.files + nb < 1000000000) (hcap : S.cap < (total S.files : Int) + nb) :
    Calls Try.prog 35 #[.pointer (some ⟨pd, 0, none⟩), .pointer (some ⟨pn, 0, none⟩), .pointer (some ⟨pb, 0, none⟩)] w (Left fun k w' => k = 5 ∧ Turn [] w w') := by
  have hlk : ∀ n, (Instr.lookup 49 s.fs (.string name) false).run Try.prog (w.drewN n) = .ok (.pointer (some ⟨f.blk, 0, none⟩)) (w.drewN n) := by
    intro n
    have := (hR.new ((Turn.refl [] w).drewN n)).look name hl
    rw [this]; simp [ptrOf, hf]
  have c5 := hR.disk.c5
  have c0 := hR.disk.c0
  have c6 := hR.disk.c6
  rw [hR.cap] at c0
  rw [hsz] at c6
  generalize total S.files = T at *
  generalize S.cap = C at *
  have HCAP : decide (C < (T : Int) + (nb : Int)) = true := by simp; omega
  have HC2 : C < (T : Int) + (nb : Int) := hcap
  unfold theDisk at hd
  clear hR hf hl hsz
  go_enter Try.func35, Try.ntmps35
  go_wp2
  go_quiet (fail)
  go_wp2
  go_quiet (fail)
  go_wp2
  go_ret
  rw [World.drewN_drewN]
  exact ⟨5, rfl, rfl, (Turn.refl [] w).drewN _⟩

theorem rename_clo_none (pd pn pt base b : Nat) (S : DM) (s : DS) (src dst : ByteArray) (w : World) (hR : Rep w base b S s)
    (hd : w.cell? ⟨pd, 0, none⟩ = some (theDisk b)) (hn : w.cell? ⟨pn, 0, none⟩ = some (.string src)) (_ht : w.cell? ⟨pt, 0, none⟩ = some (.string dst)) (hf : S.files.find? (named src.data.toList) = none) (hl : src.size ≤ maxLen) :
    Calls Try.prog 47 #[.pointer (some ⟨pd, 0, none⟩), .pointer (some ⟨pn, 0, none⟩), .pointer (some ⟨pt, 0, none⟩)] w (Left fun k w' => k = 3 ∧ Turn [] w w') := by
  have hlk : ∀ n, (Instr.lookup 49 s.fs (.string src) false).run Try.prog (w.drewN n) = .ok (.pointer none) (w.drewN n) := by
    intro n
    have := (hR.new ((Turn.refl [] w).drewN n)).look src hl
    rw [this]; simp [ptrOf, hf]
  have c5 := hR.disk.c5
  unfold theDisk at hd
  clear hR hf hl
  go_enter Try.func47, Try.ntmps47
  go_wp2_with fail
  go_quiet (fail)
  go_wp2_with fail
  go_ret
  exact ⟨3, rfl, rfl, (Turn.refl [] w).drewN _⟩

theorem rename_clo_arg (pd pn pt base b : Nat) (S : DM) (s : DS) (src : ByteArray) (f : FM) (w : World) (hR : Rep w base b S s)
    (hd : w.cell? ⟨pd, 0, none⟩ = some (theDisk b)) (hn : w.cell? ⟨pn, 0, none⟩ = some (.string src)) (ht : w.cell? ⟨pt, 0, none⟩ = some (.string ⟨#[]⟩)) (hf : S.files.find? (named src.data.toList) = some f) (hl : src.size ≤ maxLen) :
    Calls Try.prog 47 #[.pointer (some ⟨pd, 0, none⟩), .pointer (some ⟨pn, 0, none⟩), .pointer (some ⟨pt, 0, none⟩)] w (Left fun k w' => k = 1 ∧ Turn [] w w') := by
  have hlk : ∀ n, (Instr.lookup 49 s.fs (.string src) false).run Try.prog (w.drewN n) = .ok (.pointer (some ⟨f.blk, 0, none⟩)) (w.drewN n) := by
    intro n
    have := (hR.new ((Turn.refl [] w).drewN n)).look src hl
    rw [this]; simp [ptrOf, hf]
  have c5 := hR.disk.c5
  unfold theDisk at hd
  clear hR hf hl
  go_enter Try.func47, Try.ntmps47
  go_wp2_with fail
  go_quiet (fail)
  go_wp2_with fail
  go_ret
  exact ⟨1, rfl, rfl, (Turn.refl [] w).drewN _⟩

theorem rename_clo_same (pd pn pt base b : Nat) (S : DM) (s : DS) (src : ByteArray) (f : FM) (w : World) (hR : Rep w base b S s)
    (hd : w.cell? ⟨pd, 0, none⟩ = some (theDisk b)) (hn : w.cell? ⟨pn, 0, none⟩ = some (.string src)) (ht : w.cell? ⟨pt, 0, none⟩ = some (.string src)) (hf : S.files.find? (named src.data.toList) = some f) (hne : src.toList.isEmpty = false) (hl : src.size ≤ maxLen) :
    Calls Try.prog 47 #[.pointer (some ⟨pd, 0, none⟩), .pointer (some ⟨pn, 0, none⟩), .pointer (some ⟨pt, 0, none⟩)] w (Left fun k w' => k = 0 ∧ Turn [] w w') := by
  have hlk : ∀ n, (Instr.lookup 49 s.fs (.string src) false).run Try.prog (w.drewN n) = .ok (.pointer (some ⟨f.blk, 0, none⟩)) (w.drewN n) := by
    intro n
    have := (hR.new ((Turn.refl [] w).drewN n)).look src hl
    rw [this]; simp [ptrOf, hf]
  have c5 := hR.disk.c5
  have hst : (src.toList == src.toList) = true := by simp
  unfold theDisk at hd
  clear hR hf hl
  go_enter Try.func47, Try.ntmps47
  go_wp2_with fail
  go_quiet (fail)
  go_wp2_with fail
  go_ret
  exact ⟨0, rfl, rfl, (Turn.refl [] w).drewN _⟩

/-- Remove's closure. -/
theorem remove_clo_none (pd pn base b : Nat) (S : DM) (s : DS) (name : ByteArray) (w : World) (hR : Rep w base b S s)
    (hd : w.cell? ⟨pd, 0, none⟩ = some (theDisk b)) (hn : w.cell? ⟨pn, 0, none⟩ = some (.string name)) (hf : S.files.find? (named name.data.toList) = none) (hl : name.size ≤ maxLen) :
    Calls Try.prog 50 #[.pointer (some ⟨pd, 0, none⟩), .pointer (some ⟨pn, 0, none⟩)] w (Left fun k w' => k = 3 ∧ Turn [] w w') := by
  have hlk : ∀ n, (Instr.lookup 49 s.fs (.string name) false).run Try.prog (w.drewN n) = .ok (.pointer none) (w.drewN n) := by
    intro n
    have := (hR.new ((Turn.refl [] w).drewN n)).look name hl
    rw [this]; simp [ptrOf, hf]
  have c5 := hR.disk.c5
  unfold theDisk at hd
  clear hR hf hl
  go_enter Try.func50, Try.ntmps50
  go_wp2_with fail
  go_quiet (fail)
  go_wp2_with fail
  go_ret
  exact ⟨3, rfl, rfl, (Turn.refl [] w).drewN _⟩

theorem remove_clo_some (pd pn base b : Nat) (S : DM) (s : DS) (name : ByteArray) (f : FM) (w : World) (hR : Rep w base b S s)
    (hd : w.cell? ⟨pd, 0, none⟩ = some (theDisk b)) (hn : w.cell? ⟨pn, 0, none⟩ = some (.string name)) (hf : S.files.find? (named name.data.toList) = some f) (hl : name.size ≤ maxLen) (hsz : s.sz = total S.files) (hs1 : total S.files < 1000000000) (hbase : base ≤ w.heap.size) :
    Calls Try.prog 50 #[.pointer (some ⟨pd, 0, none⟩), .pointer (some ⟨pn, 0, none⟩)] w (Left fun k w' => k = 0 ∧ ∃ s', Rep w' base b { S with files := without name.data.toList S.files } s' ∧ s'.sz = total (without name.data.toList S.files) ∧ Turn (foot b S) w w') := by
  have hlk : ∀ n, (Instr.lookup 49 s.fs (.string name) false).run Try.prog (w.drewN n) = .ok (.pointer (some ⟨f.blk, 0, none⟩)) (w.drewN n) := by
    intro n
    have := (hR.new ((Turn.refl [] w).drewN n)).look name hl
    rw [this]; simp [ptrOf, hf]
  have c5 := hR.disk.c5
  have HD := Lib.hid (fun q : Nat => drop_some base b S s name f (w.drewN q) (hR.new ((Turn.refl [] w).drewN q)) hf hl hsz hs1 hbase)
  unfold theDisk at hd HD
  clear hR hf hl hsz hs1 hbase
  go_enter Try.func50, Try.ntmps50
  go_wp2_with fail
  go_quiet (fail)
  go_wp2_with fail
  refine (HD.out nq).mono ?_
  rintro e w2 ⟨rfl, s', h1, h2, t⟩
  have HE := Lib.hid (And.intro h1 (And.intro h2 (((Turn.refl (foot b S) w).drewN nq).trans t)))
  clear h1 h2 t HD hlk c5 hd hn
  go_wp2_with fail
  go_ret
  exact ⟨0, rfl, rfl, s', HE.out⟩

end Go.Proofs.Ytmpjjnjggiipjaa
