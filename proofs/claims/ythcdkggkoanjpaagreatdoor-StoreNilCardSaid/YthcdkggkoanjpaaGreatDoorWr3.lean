/- 'write', the other ways: down, a failure, the crash. Numbers and types by name. -/
import Derived.Test.YthcdkggkoanjpaaGreatDoorDrp
import Derived.Test.YthcdkggkoanjpaaGreatDoorWr2
/- The closures of the writing calls, each way; the methods over what write does. Numbers and types by name. -/
namespace Go.Proofs.YthcdkggkoanjpaaGreatDoor
open Go.RowKit Go.Maps Go.Sort Go.WideMaps
theorem create_via (b : Nat) (name : ByteArray) (w : World) (R : Int → World → Prop)
    (hw : ∀ W, W = (w.alloc (.cells #[theDisk b] 27)).alloc (.cells #[.string name] 9) →
      Calls Tryz.prog 60 #[theDisk b, .func (.func 107) #[] #[.pointer (some ⟨w.heap.size + 1, 0, none⟩), .pointer (some ⟨w.heap.size, 0, none⟩)]] W (Left R)) :
    Calls Tryz.prog 65 #[theDisk b, .string name] w (Left R) := by
  have hmf := hmf
  unfold theDisk at hw
  unfold theDisk
  go_enter Tryz.func65, Tryz.ntmps65
  go_wp2_with fail
  refine (hw _ rfl).mono ?_
  rintro e w' ⟨k, rfl, hk⟩
  have HK := Lib.hid hk
  clear hk hw
  go_wp2
  go_ret
  exact ⟨k, rfl, HK.out⟩
theorem read_down (base b : Nat) (S : DM) (s : DS) (name : Value) (w : World) (hR : Rep w base b S s) (hdw : S.dw = true) :
    Calls Tryz.prog 32 #[theDisk b, name] w fun e w' => e = .returned (.tuple #[.slice none 0 0, .int .i64 7]) ∧ w = w' := by
  have c8 := hR.disk.c8
  rw [hR.dw, hdw] at c8
  clear hR
  unfold theDisk
  go_enter Tryz.func32, Tryz.ntmps32
  go_wp2
  go_ret2
  exact ⟨rfl, rfl⟩
theorem read_none (base b : Nat) (S : DM) (s : DS) (name : ByteArray) (w : World) (hR : Rep w base b S s) (hdw : S.dw = false) (hf : S.files.find? (named name.data.toList) = none) (hl : name.size ≤ maxLen) :
    Calls Tryz.prog 32 #[theDisk b, .string name] w fun e w' => e = .returned (.tuple #[.slice none 0 0, .int .i64 3]) ∧ w = w' := by
  have c8 := hR.disk.c8
  rw [hR.dw, hdw] at c8
  have c5 := hR.disk.c5
  have hlk : (Instr.lookup 74 s.fs (.string name) false).run Tryz.prog w = .ok (.pointer none) w := by
    rw [hR.look name hl]; simp [ptrOf, hf]
  clear hR hdw hf hl
  unfold theDisk
  go_enter Tryz.func32, Tryz.ntmps32
  go_wp2
  go_ret2
  exact ⟨rfl, rfl⟩
theorem append_via (b : Nat) (name : ByteArray) (aob : Option Addr) (nb cb : Nat) (w : World) (R : Int → World → Prop)
    (hw : ∀ W, W = ((w.alloc (.cells #[theDisk b] 27)).alloc (.cells #[.string name] 9)).alloc (.cells #[.slice aob nb cb] 24) →
      Calls Tryz.prog 60 #[theDisk b, .func (.func 61) #[] #[.pointer (some ⟨w.heap.size, 0, none⟩), .pointer (some ⟨w.heap.size + 1, 0, none⟩), .pointer (some ⟨w.heap.size + 1 + 1, 0, none⟩)]] W (Left R)) :
    Calls Tryz.prog 33 #[theDisk b, .string name, .slice aob nb cb] w (Left R) := by
  have hmf := hmf
  unfold theDisk at hw
  unfold theDisk
  go_enter Tryz.func33, Tryz.ntmps33
  go_wp2_with fail
  refine (hw _ rfl).mono ?_
  rintro e w' ⟨k, rfl, hk⟩
  have HK := Lib.hid hk
  clear hk hw
  go_wp2
  go_ret
  exact ⟨k, rfl, HK.out⟩
theorem append_clo_none (pd pn pb base b : Nat) (S : DM) (s : DS) (name : ByteArray) (vb : Value) (w : World) (hR : Rep w base b S s)
    (hd : w.cell? ⟨pd, 0, none⟩ = some (theDisk b)) (hn : w.cell? ⟨pn, 0, none⟩ = some (.string name)) (_hb : w.cell? ⟨pb, 0, none⟩ = some vb)
    (hf : S.files.find? (named name.data.toList) = none) (hl : name.size ≤ maxLen) :
    Calls Tryz.prog 61 #[.pointer (some ⟨pd, 0, none⟩), .pointer (some ⟨pn, 0, none⟩), .pointer (some ⟨pb, 0, none⟩)] w (Left fun k w' => k = 3 ∧ Turn [] w w') := by
  have hlk : ∀ n, (Instr.lookup 74 s.fs (.string name) false).run Tryz.prog (w.drewN n) = .ok (.pointer none) (w.drewN n) := by
    intro n
    have := (hR.new ((Turn.refl [] w).drewN n)).look name hl
    rw [this]; simp [ptrOf, hf]
  have c5 := hR.disk.c5
  unfold theDisk at hd
  clear hR hf hl
  go_enter Tryz.func61, Tryz.ntmps61
  go_wp2
  go_quiet (fail)
  go_wp2
  go_ret
  exact ⟨3, rfl, rfl, (Turn.refl [] w).drewN _⟩
theorem append_clo_full (pd pn pb base b : Nat) (S : DM) (s : DS) (name : ByteArray) (aob : Option Addr) (nb cb : Nat) (f : FM) (w : World) (hR : Rep w base b S s)
    (hd : w.cell? ⟨pd, 0, none⟩ = some (theDisk b)) (hn : w.cell? ⟨pn, 0, none⟩ = some (.string name)) (hb : w.cell? ⟨pb, 0, none⟩ = some (.slice aob nb cb))
    (hf : S.files.find? (named name.data.toList) = some f) (hl : name.size ≤ maxLen) (hsz : s.sz = total S.files) (hs1 : total S.files + nb < 1000000000) (hcap : S.cap < (total S.files : Int) + nb) :
    Calls Tryz.prog 61 #[.pointer (some ⟨pd, 0, none⟩), .pointer (some ⟨pn, 0, none⟩), .pointer (some ⟨pb, 0, none⟩)] w (Left fun k w' => k = 5 ∧ Turn [] w w') := by
  have hlk : ∀ n, (Instr.lookup 74 s.fs (.string name) false).run Tryz.prog (w.drewN n) = .ok (.pointer (some ⟨f.blk, 0, none⟩)) (w.drewN n) := by
    intro n
    have := (hR.new ((Turn.refl [] w).drewN n)).look name hl
    rw [this]; simp [ptrOf, hf]
  have c5 := hR.disk.c5
  have c0 := hR.disk.c0
  have c6 := hR.disk.c6
  rw [hR.cap] at c0
  rw [hsz] at c6
  generalize total S.files = T at *
  generalize S.cap = C at *
  have HCAP : decide (C < (T : Int) + (nb : Int)) = true := by simp; omega
  have HC2 : C < (T : Int) + (nb : Int) := hcap
  unfold theDisk at hd
  clear hR hf hl hsz
  go_enter Tryz.func61, Tryz.ntmps61
  go_wp2
  go_quiet (fail)
  go_wp2
  go_quiet (fail)
  go_wp2
  go_ret
  rw [World.drewN_drewN]
  exact ⟨5, rfl, rfl, (Turn.refl [] w).drewN _⟩
theorem rename_clo_none (pd pn pt base b : Nat) (S : DM) (s : DS) (src dst : ByteArray) (w : World) (hR : Rep w base b S s)
    (hd : w.cell? ⟨pd, 0, none⟩ = some (theDisk b)) (hn : w.cell? ⟨pn, 0, none⟩ = some (.string src)) (_ht : w.cell? ⟨pt, 0, none⟩ = some (.string dst)) (hf : S.files.find? (named src.data.toList) = none) (hl : src.size ≤ maxLen) :
    Calls Tryz.prog 172 #[.pointer (some ⟨pd, 0, none⟩), .pointer (some ⟨pn, 0, none⟩), .pointer (some ⟨pt, 0, none⟩)] w (Left fun k w' => k = 3 ∧ Turn [] w w') := by
  have hlk : ∀ n, (Instr.lookup 74 s.fs (.string src) false).run Tryz.prog (w.drewN n) = .ok (.pointer none) (w.drewN n) := by
    intro n
    have := (hR.new ((Turn.refl [] w).drewN n)).look src hl
    rw [this]; simp [ptrOf, hf]
  have c5 := hR.disk.c5
  unfold theDisk at hd
  clear hR hf hl
  go_enter Tryz.func172, Tryz.ntmps172
  go_wp2_with fail
  go_quiet (fail)
  go_wp2_with fail
  go_ret
  exact ⟨3, rfl, rfl, (Turn.refl [] w).drewN _⟩
theorem rename_clo_arg (pd pn pt base b : Nat) (S : DM) (s : DS) (src : ByteArray) (f : FM) (w : World) (hR : Rep w base b S s)
    (hd : w.cell? ⟨pd, 0, none⟩ = some (theDisk b)) (hn : w.cell? ⟨pn, 0, none⟩ = some (.string src)) (ht : w.cell? ⟨pt, 0, none⟩ = some (.string ⟨#[]⟩)) (hf : S.files.find? (named src.data.toList) = some f) (hl : src.size ≤ maxLen) :
    Calls Tryz.prog 172 #[.pointer (some ⟨pd, 0, none⟩), .pointer (some ⟨pn, 0, none⟩), .pointer (some ⟨pt, 0, none⟩)] w (Left fun k w' => k = 1 ∧ Turn [] w w') := by
  have hlk : ∀ n, (Instr.lookup 74 s.fs (.string src) false).run Tryz.prog (w.drewN n) = .ok (.pointer (some ⟨f.blk, 0, none⟩)) (w.drewN n) := by
    intro n
    have := (hR.new ((Turn.refl [] w).drewN n)).look src hl
    rw [this]; simp [ptrOf, hf]
  have c5 := hR.disk.c5
  unfold theDisk at hd
  clear hR hf hl
  go_enter Tryz.func172, Tryz.ntmps172
  go_wp2_with fail
  go_quiet (fail)
  go_wp2_with fail
  go_ret
  exact ⟨1, rfl, rfl, (Turn.refl [] w).drewN _⟩
theorem rename_clo_same (pd pn pt base b : Nat) (S : DM) (s : DS) (src : ByteArray) (f : FM) (w : World) (hR : Rep w base b S s)
    (hd : w.cell? ⟨pd, 0, none⟩ = some (theDisk b)) (hn : w.cell? ⟨pn, 0, none⟩ = some (.string src)) (ht : w.cell? ⟨pt, 0, none⟩ = some (.string src)) (hf : S.files.find? (named src.data.toList) = some f) (hne : src.toList.isEmpty = false) (hl : src.size ≤ maxLen) :
    Calls Tryz.prog 172 #[.pointer (some ⟨pd, 0, none⟩), .pointer (some ⟨pn, 0, none⟩), .pointer (some ⟨pt, 0, none⟩)] w (Left fun k w' => k = 0 ∧ Turn [] w w') := by
  have hlk : ∀ n, (Instr.lookup 74 s.fs (.string src) false).run Tryz.prog (w.drewN n) = .ok (.pointer (some ⟨f.blk, 0, none⟩)) (w.drewN n) := by
    intro n
    have := (hR.new ((Turn.refl [] w).drewN n)).look src hl
    rw [this]; simp [ptrOf, hf]
  have c5 := hR.disk.c5
  have hst : (src.toList == src.toList) = true := by simp
  unfold theDisk at hd
  clear hR hf hl
  go_enter Tryz.func172, Tryz.ntmps172
  go_wp2_with fail
  go_quiet (fail)
  go_wp2_with fail
  go_ret
  exact ⟨0, rfl, rfl, (Turn.refl [] w).drewN _⟩
theorem remove_clo_none (pd pn base b : Nat) (S : DM) (s : DS) (name : ByteArray) (w : World) (hR : Rep w base b S s)
    (hd : w.cell? ⟨pd, 0, none⟩ = some (theDisk b)) (hn : w.cell? ⟨pn, 0, none⟩ = some (.string name)) (hf : S.files.find? (named name.data.toList) = none) (hl : name.size ≤ maxLen) :
    Calls Tryz.prog 170 #[.pointer (some ⟨pd, 0, none⟩), .pointer (some ⟨pn, 0, none⟩)] w (Left fun k w' => k = 3 ∧ Turn [] w w') := by
  have hlk : ∀ n, (Instr.lookup 74 s.fs (.string name) false).run Tryz.prog (w.drewN n) = .ok (.pointer none) (w.drewN n) := by
    intro n
    have := (hR.new ((Turn.refl [] w).drewN n)).look name hl
    rw [this]; simp [ptrOf, hf]
  have c5 := hR.disk.c5
  unfold theDisk at hd
  clear hR hf hl
  go_enter Tryz.func170, Tryz.ntmps170
  go_wp2_with fail
  go_quiet (fail)
  go_wp2_with fail
  go_ret
  exact ⟨3, rfl, rfl, (Turn.refl [] w).drewN _⟩
theorem remove_clo_some (pd pn base b : Nat) (S : DM) (s : DS) (name : ByteArray) (f : FM) (w : World) (hR : Rep w base b S s)
    (hd : w.cell? ⟨pd, 0, none⟩ = some (theDisk b)) (hn : w.cell? ⟨pn, 0, none⟩ = some (.string name)) (hf : S.files.find? (named name.data.toList) = some f) (hl : name.size ≤ maxLen) (hsz : s.sz = total S.files) (hs1 : total S.files < 1000000000) (hbase : base ≤ w.heap.size) :
    Calls Tryz.prog 170 #[.pointer (some ⟨pd, 0, none⟩), .pointer (some ⟨pn, 0, none⟩)] w (Left fun k w' => k = 0 ∧ ∃ s', Rep w' base b { S with files := without name.data.toList S.files } s' ∧ s'.sz = total (without name.data.toList S.files) ∧ Turn (foot b S) w w') := by
  have hlk : ∀ n, (Instr.lookup 74 s.fs (.string name) false).run Tryz.prog (w.drewN n) = .ok (.pointer (some ⟨f.blk, 0, none⟩)) (w.drewN n) := by
    intro n
    have := (hR.new ((Turn.refl [] w).drewN n)).look name hl
    rw [this]; simp [ptrOf, hf]
  have c5 := hR.disk.c5
  have HD := Lib.hid (fun q : Nat => drop_some base b S s name f (w.drewN q) (hR.new ((Turn.refl [] w).drewN q)) hf hl hsz hs1 hbase)
  unfold theDisk at hd HD
  clear hR hf hl hsz hs1 hbase
  go_enter Tryz.func170, Tryz.ntmps170
  go_wp2_with fail
  go_quiet (fail)
  go_wp2_with fail
  refine (HD.out nq).mono ?_
  rintro e w2 ⟨rfl, s', h1, h2, t⟩
  have HE := Lib.hid (And.intro h1 (And.intro h2 (((Turn.refl (foot b S) w).drewN nq).trans t)))
  clear h1 h2 t HD hlk c5 hd hn
  go_wp2_with fail
  go_ret
  exact ⟨0, rfl, rfl, s', HE.out⟩
end Go.Proofs.YthcdkggkoanjpaaGreatDoor

namespace Go.Proofs.YthcdkggkoanjpaaGreatDoor
open Go.RowKit Go.Maps Go.Sort Go.WideMaps
theorem write_down (base b g : Nat) (cb : Array Value) (S : DM) (s : DS) (w : World) (hR : Rep w base b S s) (hdw : S.dw = true) :
    Calls Tryz.prog 60 #[theDisk b, .func (.func g) #[] cb] w fun e w' => e = .returned (.int .i64 7) ∧ w = w' := by
  have c8 := hR.disk.c8
  rw [hR.dw, hdw] at c8
  unfold theDisk
  clear hR
  go_enter Tryz.func60, Tryz.ntmps60
  go_wp2
  go_step3
  go_wp2_with fail
  go_step3
  go_wp2_with fail
  rw [Exit.noGoto_ret]
  go_ret
  exact ⟨rfl, rfl⟩
set_option maxRecDepth 100000 in
theorem write_io (base b g : Nat) (cb : Array Value) (S : DM) (s : DS) (w : World) (hR : Rep w base b S s) (hdw : S.dw = false) (hcr : S.ca + 1 ≠ S.cr) (hfail : S.fail.contains (S.ca + 1) = true) (hca0 : 0 ≤ S.ca) (hca1 : S.ca < 1000000) (hfl : S.fail.length < 1000000) :
    Calls Tryz.prog 60 #[theDisk b, .func (.func g) #[] cb] w fun e w' => e = .returned (.int .i64 6) ∧ Rep w' base b { S with ca := S.ca + 1 } { s with ca := S.ca + 1 } ∧ Turn [b] w w' := by
  have c8 := hR.disk.c8
  have c7 := hR.disk.c7
  have c3 := hR.disk.c3
  have c2 := hR.disk.c2
  have e7 := hR.disk.free 7
  rw [hR.dw, hdw] at c8
  rw [hR.ca] at c7
  rw [hR.cr] at c2
  have hb1 : ((S.ca + 1 : Int) == S.cr) = false := by simpa using hcr
  have hR1 := hR.count (S.ca + 1)
  have t1 : Turn [b] w (w.setCell ⟨b, 7, none⟩ (.int .i64 (S.ca + 1))) := (Turn.refl [b] w).set (.inl (by simp)) 7 _
  have HR := Lib.hid (And.intro hR1 t1)
  have HF := Lib.hid hfail
  have HL := Lib.hid hfl
  unfold theDisk
  clear hR hR1 t1 hfail hfl hcr
  go_enter Tryz.func60, Tryz.ntmps60
  go_wp2
  go_step3
  go_wp2_with fail
  go_step3
  go_wp2_with fail
  obtain ⟨hR1, t1⟩ := HR.out
  generalize w.setCell ⟨b, 7, none⟩ (.int .i64 (S.ca + 1)) = w1 at *
  clear HR c8 c7 c3 c2 e7
  have c7 := hR1.disk.c7
  have c2 := hR1.disk.c2
  rw [hR1.ca] at c7
  rw [hR1.cr] at c2
  have HR := Lib.hid (And.intro hR1 t1)
  clear hR1 t1
  simp only at c7 c2
  go_quiet (fail)
  go_wp2_with fail
  refine ((HR.out.1.new ((Turn.refl [] w1).drewN nq)).fails HL.out).mono ?_
  rintro e w2 ⟨rfl, n2, rfl⟩
  rw [show ({ S with ca := S.ca + 1 } : DM).fail.contains ({ S with ca := S.ca + 1 } : DM).ca = true from HF.out]
  rw [World.drewN_drewN]
  have HT : Hid (Rep (w1.drewN (nq + n2)) base b { S with ca := S.ca + 1 } { s with ca := S.ca + 1 } ∧ Turn [b] w (w1.drewN (nq + n2))) := Lib.hid ⟨HR.out.1.new ((Turn.refl [] w1).drewN _), HR.out.2.drewN _⟩
  generalize w1.drewN (nq + n2) = w2 at *
  clear HR c7 c2 HL HF hb1 hca0 hca1
  go_wp2_with fail
  rw [Exit.noGoto_ret]
  go_ret
  exact ⟨rfl, HT.out⟩
set_option maxRecDepth 100000 in
theorem write_crash (base b g : Nat) (cb : Array Value) (S : DM) (s : DS) (w : World) (hR : Rep w base b S s) (hdw : S.dw = false) (hcr : S.ca + 1 = S.cr) (hdn : S.dn = false) (hca0 : 0 ≤ S.ca) (hca1 : S.ca < 1000000) :
    Calls Tryz.prog 60 #[theDisk b, .func (.func g) #[] cb] w fun e w' => e = .returned (.int .i64 7) ∧ Rep w' base b { S with ca := S.ca + 1, dw := true } { s with ca := S.ca + 1, dw := true } ∧ Turn [b] w w' := by
  have c8 := hR.disk.c8
  have c7 := hR.disk.c7
  have c3 := hR.disk.c3
  have c2 := hR.disk.c2
  have e7 := hR.disk.free 7
  rw [hR.dw, hdw] at c8
  rw [hR.ca] at c7
  rw [hR.cr] at c2
  rw [hR.dn, hdn] at c3
  have hb1 : ((S.ca + 1 : Int) == S.cr) = true := by simpa using hcr
  have hR1 := hR.count (S.ca + 1)
  have t1 : Turn [b] w (w.setCell ⟨b, 7, none⟩ (.int .i64 (S.ca + 1))) := (Turn.refl [b] w).set (.inl (by simp)) 7 _
  have HR := Lib.hid (And.intro hR1 t1)
  unfold theDisk
  clear hR hR1 t1 hcr
  go_enter Tryz.func60, Tryz.ntmps60
  go_wp2
  go_step3
  go_wp2_with fail
  go_step3
  go_wp2_with fail
  obtain ⟨hR1, t1⟩ := HR.out
  generalize w.setCell ⟨b, 7, none⟩ (.int .i64 (S.ca + 1)) = w1 at *
  clear HR c8 c7 c3 c2 e7
  have c7 := hR1.disk.c7
  have c2 := hR1.disk.c2
  rw [hR1.ca] at c7
  rw [hR1.cr] at c2
  have HR := Lib.hid (And.intro hR1 t1)
  clear hR1 t1
  simp only at c7 c2
  go_quiet (fail)
  have hR2 := HR.out.1.new ((Turn.refl [] w1).drewN nq)
  have hT2 := HR.out.2.drewN nq
  generalize w1.drewN nq = w2 at *
  have c3 := hR2.disk.c3
  rw [hR2.dn] at c3
  simp only [hdn] at c3
  have e8 := hR2.disk.free 8
  have c8 := hR2.disk.c8
  rw [hR2.dw] at c8
  simp only [hdw] at c8
  have hR3 := hR2.own ((Turn.refl [b] w2).set (c := b) (.inl (by simp)) 8 (.bool true)) (S.ca + 1) s.sz true (hR2.disk.set8 true)
  have HD := Lib.hid (And.intro hR3 (hT2.set (c := b) (.inl (by simp)) 8 (.bool true)))
  clear hR2 hT2 hR3 HR c7 c2
  go_wp2_with fail
  go_ret
  exact ⟨rfl, HD.out⟩
set_option maxRecDepth 100000 in
theorem write_done (base b g : Nat) (cb : Array Value) (S : DM) (s : DS) (R : Int → World → Prop) (w : World) (hR : Rep w base b S s) (hdw : S.dw = false) (hcr : S.ca + 1 = S.cr) (hdn : S.dn = true) (hca0 : 0 ≤ S.ca) (hca1 : S.ca < 1000000)
    (hent : ∀ (args : Array Value) (w : World), (callFunc g args).run Tryz.prog w = .ok (.enter g args) w)
    (hcl : ∀ w1, Rep w1 base b { S with ca := S.ca + 1, dw := true } { s with ca := S.ca + 1, dw := true } → Turn [b] w w1 → Calls Tryz.prog g cb w1 (Left R)) :
    Calls Tryz.prog 60 #[theDisk b, .func (.func g) #[] cb] w fun e w' => e = .returned (.int .i64 7) ∧ ∃ k, R k w' := by
  have c8 := hR.disk.c8
  have c7 := hR.disk.c7
  have c3 := hR.disk.c3
  have c2 := hR.disk.c2
  have e7 := hR.disk.free 7
  rw [hR.dw, hdw] at c8
  rw [hR.ca] at c7
  rw [hR.cr] at c2
  rw [hR.dn, hdn] at c3
  have hb1 : ((S.ca + 1 : Int) == S.cr) = true := by simpa using hcr
  have hR1 := hR.count (S.ca + 1)
  have t1 : Turn [b] w (w.setCell ⟨b, 7, none⟩ (.int .i64 (S.ca + 1))) := (Turn.refl [b] w).set (.inl (by simp)) 7 _
  have HR := Lib.hid (And.intro hR1 t1)
  have HC := Lib.hid hcl
  unfold theDisk
  clear hR hR1 t1 hcr hcl
  go_enter Tryz.func60, Tryz.ntmps60
  go_wp2
  go_step3
  go_wp2_with fail
  go_step3
  go_wp2_with fail
  obtain ⟨hR1, t1⟩ := HR.out
  generalize w.setCell ⟨b, 7, none⟩ (.int .i64 (S.ca + 1)) = w1 at *
  clear HR c8 c7 c3 c2 e7
  have c7 := hR1.disk.c7
  have c2 := hR1.disk.c2
  rw [hR1.ca] at c7
  rw [hR1.cr] at c2
  have HR := Lib.hid (And.intro hR1 t1)
  clear hR1 t1
  simp only at c7 c2
  go_quiet (fail)
  have hR2 := HR.out.1.new ((Turn.refl [] w1).drewN nq)
  have hT2 := HR.out.2.drewN nq
  generalize w1.drewN nq = w2 at *
  have c3 := hR2.disk.c3
  rw [hR2.dn] at c3
  simp only [hdn] at c3
  have e8 := hR2.disk.free 8
  have c8 := hR2.disk.c8
  rw [hR2.dw] at c8
  simp only [hdw] at c8
  have hR3 := hR2.own ((Turn.refl [b] w2).set (c := b) (.inl (by simp)) 8 (.bool true)) (S.ca + 1) s.sz true (hR2.disk.set8 true)
  have HD := Lib.hid (And.intro hR3 (hT2.set (c := b) (.inl (by simp)) 8 (.bool true)))
  clear hR2 hT2 hR3 HR c7 c2
  go_wp2_with fail
  refine (HC.out _ HD.out.1 HD.out.2).mono ?_
  rintro e w3 ⟨k, rfl, hk⟩
  have HK := Lib.hid hk
  clear hk HC HD hent c8 c3 e8
  go_wp2_with fail
  rw [Exit.noGoto_ret]
  go_ret
  exact ⟨rfl, k, HK.out⟩
end Go.Proofs.YthcdkggkoanjpaaGreatDoor
