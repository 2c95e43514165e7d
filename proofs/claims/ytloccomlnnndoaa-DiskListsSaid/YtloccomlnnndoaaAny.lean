/- Create, Rename, Remove with every answer. Numbers and types by name. -/
import Derived.Test.YtloccomlnnndoaaFq
namespace Go.Proofs.Ytloccomlnnndoaa
open Go.RowKit Go.Maps Go.Sort Go.WideMaps

/-- A call that is counted and changes nothing else. -/
def Counted (w : World) (base b : Nat) (S : DM) (s : DS) (kk : Int) (k : Int) (w' : World) : Prop :=
  k = kk ∧ Rep w' base b { S with ca := S.ca + 1 } { s with ca := S.ca + 1 } ∧ Turn [b] w w'

theorem create_ref (base b : Nat) (S : DM) (s : DS) (name : ByteArray) (kk : Int) (w : World) (hR : Rep w base b S s) (hr : Runs S)
    (hcl : ∀ w1 pn pd, Rep w1 base b { S with ca := S.ca + 1 } { s with ca := S.ca + 1 } → w1.cell? ⟨pn, 0, none⟩ = some (.string name) → w1.cell? ⟨pd, 0, none⟩ = some (theDisk b) → Calls Try.prog 41 #[.pointer (some ⟨pn, 0, none⟩), .pointer (some ⟨pd, 0, none⟩)] w1 (Left fun k w' => k = kk ∧ Turn [] w1 w')) :
    Calls Try.prog 20 #[theDisk b, .string name] w (Left (Counted w base b S s kk)) := by
  have hbl := hR.disk.lt
  refine create_via b name w _ ?_
  rintro W rfl
  have t0 : Turn [] w ((w.alloc (.cells #[theDisk b] 28)).alloc (.cells #[.string name] 9)) := ((Turn.refl [] w).alloc _).alloc _
  refine write_run base b _ _ S s _ _ (hR.new t0) hr.dw hr.cr hr.fail hr.ca0 hr.ca1 hr.fl (enters_of Try.func41 (by kernel_rfl) rfl) ?_
  intro w1 hR1 t1
  obtain ⟨hpd, hpn, hs1⟩ := create_boxes t1 hbl
  refine (hcl w1 _ _ hR1 hpn hpd).mono ?_
  rintro e w' ⟨k, rfl, rfl, t⟩
  exact ⟨k, rfl, rfl, hR1.new t, ((t0.mono (by simp)).trans t1).trans (t.mono (by simp))⟩

theorem rename_clo_none (pd pn pt base b : Nat) (S : DM) (s : DS) (src dst : ByteArray) (w : World) (hR : Rep w base b S s)
    (hd : w.cell? ⟨pd, 0, none⟩ = some (theDisk b)) (hn : w.cell? ⟨pn, 0, none⟩ = some (.string src)) (_ht : w.cell? ⟨pt, 0, none⟩ = some (.string dst)) (hf : S.files.find? (named src.data.toList) = none) (hl : src.size ≤ maxLen) :
    Calls Try.prog 48 #[.pointer (some ⟨pd, 0, none⟩), .pointer (some ⟨pn, 0, none⟩), .pointer (some ⟨pt, 0, none⟩)] w (Left fun k w' => k = 3 ∧ Turn [] w w') := by
  have hlk : ∀ n, (Instr.lookup 63 s.fs (.string src) false).run Try.prog (w.drewN n) = .ok (.pointer none) (w.drewN n) := by
    intro n
    have := (hR.new ((Turn.refl [] w).drewN n)).look src hl
    rw [this]; simp [ptrOf, hf]
  have c5 := hR.disk.c5
  unfold theDisk at hd
  clear hR hf hl
  go_enter Try.func48, Try.ntmps48
  go_wp2_with fail
  go_quiet (fail)
  go_wp2_with fail
  go_ret
  exact ⟨3, rfl, rfl, (Turn.refl [] w).drewN _⟩

theorem rename_clo_arg (pd pn pt base b : Nat) (S : DM) (s : DS) (src : ByteArray) (f : FM) (w : World) (hR : Rep w base b S s)
    (hd : w.cell? ⟨pd, 0, none⟩ = some (theDisk b)) (hn : w.cell? ⟨pn, 0, none⟩ = some (.string src)) (ht : w.cell? ⟨pt, 0, none⟩ = some (.string ⟨#[]⟩)) (hf : S.files.find? (named src.data.toList) = some f) (hl : src.size ≤ maxLen) :
    Calls Try.prog 48 #[.pointer (some ⟨pd, 0, none⟩), .pointer (some ⟨pn, 0, none⟩), .pointer (some ⟨pt, 0, none⟩)] w (Left fun k w' => k = 1 ∧ Turn [] w w') := by
  have hlk : ∀ n, (Instr.lookup 63 s.fs (.string src) false).run Try.prog (w.drewN n) = .ok (.pointer (some ⟨f.blk, 0, none⟩)) (w.drewN n) := by
    intro n
    have := (hR.new ((Turn.refl [] w).drewN n)).look src hl
    rw [this]; simp [ptrOf, hf]
  have c5 := hR.disk.c5
  unfold theDisk at hd
  clear hR hf hl
  go_enter Try.func48, Try.ntmps48
  go_wp2_with fail
  go_quiet (fail)
  go_wp2_with fail
  go_ret
  exact ⟨1, rfl, rfl, (Turn.refl [] w).drewN _⟩

theorem rename_clo_same (pd pn pt base b : Nat) (S : DM) (s : DS) (src : ByteArray) (f : FM) (w : World) (hR : Rep w base b S s)
    (hd : w.cell? ⟨pd, 0, none⟩ = some (theDisk b)) (hn : w.cell? ⟨pn, 0, none⟩ = some (.string src)) (ht : w.cell? ⟨pt, 0, none⟩ = some (.string src)) (hf : S.files.find? (named src.data.toList) = some f) (hne : src.toList.isEmpty = false) (hl : src.size ≤ maxLen) :
    Calls Try.prog 48 #[.pointer (some ⟨pd, 0, none⟩), .pointer (some ⟨pn, 0, none⟩), .pointer (some ⟨pt, 0, none⟩)] w (Left fun k w' => k = 0 ∧ Turn [] w w') := by
  have hlk : ∀ n, (Instr.lookup 63 s.fs (.string src) false).run Try.prog (w.drewN n) = .ok (.pointer (some ⟨f.blk, 0, none⟩)) (w.drewN n) := by
    intro n
    have := (hR.new ((Turn.refl [] w).drewN n)).look src hl
    rw [this]; simp [ptrOf, hf]
  have c5 := hR.disk.c5
  have hst : (src.toList == src.toList) = true := by simp
  unfold theDisk at hd
  clear hR hf hl
  go_enter Try.func48, Try.ntmps48
  go_wp2_with fail
  go_quiet (fail)
  go_wp2_with fail
  go_ret
  exact ⟨0, rfl, rfl, (Turn.refl [] w).drewN _⟩

/-- Remove's closure. -/
theorem remove_clo_none (pd pn base b : Nat) (S : DM) (s : DS) (name : ByteArray) (w : World) (hR : Rep w base b S s)
    (hd : w.cell? ⟨pd, 0, none⟩ = some (theDisk b)) (hn : w.cell? ⟨pn, 0, none⟩ = some (.string name)) (hf : S.files.find? (named name.data.toList) = none) (hl : name.size ≤ maxLen) :
    Calls Try.prog 51 #[.pointer (some ⟨pd, 0, none⟩), .pointer (some ⟨pn, 0, none⟩)] w (Left fun k w' => k = 3 ∧ Turn [] w w') := by
  have hlk : ∀ n, (Instr.lookup 63 s.fs (.string name) false).run Try.prog (w.drewN n) = .ok (.pointer none) (w.drewN n) := by
    intro n
    have := (hR.new ((Turn.refl [] w).drewN n)).look name hl
    rw [this]; simp [ptrOf, hf]
  have c5 := hR.disk.c5
  unfold theDisk at hd
  clear hR hf hl
  go_enter Try.func51, Try.ntmps51
  go_wp2_with fail
  go_quiet (fail)
  go_wp2_with fail
  go_ret
  exact ⟨3, rfl, rfl, (Turn.refl [] w).drewN _⟩

theorem remove_clo_some (pd pn base b : Nat) (S : DM) (s : DS) (name : ByteArray) (f : FM) (w : World) (hR : Rep w base b S s)
    (hd : w.cell? ⟨pd, 0, none⟩ = some (theDisk b)) (hn : w.cell? ⟨pn, 0, none⟩ = some (.string name)) (hf : S.files.find? (named name.data.toList) = some f) (hl : name.size ≤ maxLen) (hsz : s.sz = total S.files) (hs1 : total S.files < 1000000000) (hbase : base ≤ w.heap.size) :
    Calls Try.prog 51 #[.pointer (some ⟨pd, 0, none⟩), .pointer (some ⟨pn, 0, none⟩)] w (Left fun k w' => k = 0 ∧ ∃ s', Rep w' base b { S with files := without name.data.toList S.files } s' ∧ s'.sz = total (without name.data.toList S.files) ∧ Turn (foot b S) w w') := by
  have hlk : ∀ n, (Instr.lookup 63 s.fs (.string name) false).run Try.prog (w.drewN n) = .ok (.pointer (some ⟨f.blk, 0, none⟩)) (w.drewN n) := by
    intro n
    have := (hR.new ((Turn.refl [] w).drewN n)).look name hl
    rw [this]; simp [ptrOf, hf]
  have c5 := hR.disk.c5
  have HD := Lib.hid (fun q : Nat => drop_some base b S s name f (w.drewN q) (hR.new ((Turn.refl [] w).drewN q)) hf hl hsz hs1 hbase)
  unfold theDisk at hd HD
  clear hR hf hl hsz hs1 hbase
  go_enter Try.func51, Try.ntmps51
  go_wp2_with fail
  go_quiet (fail)
  go_wp2_with fail
  refine (HD.out nq).mono ?_
  rintro e w2 ⟨rfl, s', h1, h2, t⟩
  have HE := Lib.hid (And.intro h1 (And.intro h2 (((Turn.refl (foot b S) w).drewN nq).trans t)))
  clear h1 h2 t HD hlk c5 hd hn
  go_wp2_with fail
  go_ret
  exact ⟨0, rfl, rfl, s', HE.out⟩

end Go.Proofs.Ytloccomlnnndoaa
