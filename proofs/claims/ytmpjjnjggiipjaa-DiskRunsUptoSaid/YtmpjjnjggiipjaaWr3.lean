/- 'write', the other ways: down, a failure, the crash. Numbers and types by name. -/
import Derived.Test.YtmpjjnjggiipjaaWr2
namespace Go.Proofs.Ytmpjjnjggiipjaa
open Go.RowKit Go.Maps Go.Sort Go.WideMaps

/-- The disk is down. -/
theorem write_down (base b g : Nat) (cb : Array Value) (S : DM) (s : DS) (w : World) (hR : Rep w base b S s) (hdw : S.dw = true) :
    Calls Try.prog 32 #[theDisk b, .func (.func g) #[] cb] w fun e w' => e = .returned (.int .i64 7) ∧ w = w' := by
  have c8 := hR.disk.c8
  rw [hR.dw, hdw] at c8
  unfold theDisk
  clear hR
  go_enter Try.func32, Try.ntmps32
  go_wp2
  go_step3
  go_wp2_with fail
  go_step3
  go_wp2_with fail
  rw [Exit.noGoto_ret]
  go_ret
  exact ⟨rfl, rfl⟩

set_option maxRecDepth 100000 in
/-- The plan fails the call. -/
theorem write_io (base b g : Nat) (cb : Array Value) (S : DM) (s : DS) (w : World) (hR : Rep w base b S s) (hdw : S.dw = false) (hcr : S.ca + 1 ≠ S.cr) (hfail : S.fail.contains (S.ca + 1) = true) (hca0 : 0 ≤ S.ca) (hca1 : S.ca < 1000000) (hfl : S.fail.length < 1000000) :
    Calls Try.prog 32 #[theDisk b, .func (.func g) #[] cb] w fun e w' => e = .returned (.int .i64 6) ∧ Rep w' base b { S with ca := S.ca + 1 } { s with ca := S.ca + 1 } ∧ Turn [b] w w' := by
  have c8 := hR.disk.c8
  have c7 := hR.disk.c7
  have c3 := hR.disk.c3
  have c2 := hR.disk.c2
  have e7 := hR.disk.free 7
  rw [hR.dw, hdw] at c8
  rw [hR.ca] at c7
  rw [hR.cr] at c2
  have hb1 : ((S.ca + 1 : Int) == S.cr) = false := by simpa using hcr
  have hR1 := hR.count (S.ca + 1)
  have t1 : Turn [b] w (w.setCell ⟨b, 7, none⟩ (.int .i64 (S.ca + 1))) := (Turn.refl [b] w).set (.inl (by simp)) 7 _
  have HR := Lib.hid (And.intro hR1 t1)
  have HF := Lib.hid hfail
  have HL := Lib.hid hfl
  unfold theDisk
  clear hR hR1 t1 hfail hfl hcr
  go_enter Try.func32, Try.ntmps32
  go_wp2
  go_step3
  go_wp2_with fail
  go_step3
  go_wp2_with fail
  obtain ⟨hR1, t1⟩ := HR.out
  generalize w.setCell ⟨b, 7, none⟩ (.int .i64 (S.ca + 1)) = w1 at *
  clear HR c8 c7 c3 c2 e7
  have c7 := hR1.disk.c7
  have c2 := hR1.disk.c2
  rw [hR1.ca] at c7
  rw [hR1.cr] at c2
  have HR := Lib.hid (And.intro hR1 t1)
  clear hR1 t1
  simp only at c7 c2
  go_quiet (fail)
  go_wp2_with fail
  refine ((HR.out.1.new ((Turn.refl [] w1).drewN nq)).fails HL.out).mono ?_
  rintro e w2 ⟨rfl, n2, rfl⟩
  rw [show ({ S with ca := S.ca + 1 } : DM).fail.contains ({ S with ca := S.ca + 1 } : DM).ca = true from HF.out]
  rw [World.drewN_drewN]
  have HT : Hid (Rep (w1.drewN (nq + n2)) base b { S with ca := S.ca + 1 } { s with ca := S.ca + 1 } ∧ Turn [b] w (w1.drewN (nq + n2))) := Lib.hid ⟨HR.out.1.new ((Turn.refl [] w1).drewN _), HR.out.2.drewN _⟩
  generalize w1.drewN (nq + n2) = w2 at *
  clear HR c7 c2 HL HF hb1 hca0 hca1
  go_wp2_with fail
  rw [Exit.noGoto_ret]
  go_ret
  exact ⟨rfl, HT.out⟩

set_option maxRecDepth 100000 in
/-- The crash, at a call that is not done. -/
theorem write_crash (base b g : Nat) (cb : Array Value) (S : DM) (s : DS) (w : World) (hR : Rep w base b S s) (hdw : S.dw = false) (hcr : S.ca + 1 = S.cr) (hdn : S.dn = false) (hca0 : 0 ≤ S.ca) (hca1 : S.ca < 1000000) :
    Calls Try.prog 32 #[theDisk b, .func (.func g) #[] cb] w fun e w' => e = .returned (.int .i64 7) ∧ Rep w' base b { S with ca := S.ca + 1, dw := true } { s with ca := S.ca + 1, dw := true } ∧ Turn [b] w w' := by
  have c8 := hR.disk.c8
  have c7 := hR.disk.c7
  have c3 := hR.disk.c3
  have c2 := hR.disk.c2
  have e7 := hR.disk.free 7
  rw [hR.dw, hdw] at c8
  rw [hR.ca] at c7
  rw [hR.cr] at c2
  rw [hR.dn, hdn] at c3
  have hb1 : ((S.ca + 1 : Int) == S.cr) = true := by simpa using hcr
  have hR1 := hR.count (S.ca + 1)
  have t1 : Turn [b] w (w.setCell ⟨b, 7, none⟩ (.int .i64 (S.ca + 1))) := (Turn.refl [b] w).set (.inl (by simp)) 7 _
  have HR := Lib.hid (And.intro hR1 t1)
  unfold theDisk
  clear hR hR1 t1 hcr
  go_enter Try.func32, Try.ntmps32
  go_wp2
  go_step3
  go_wp2_with fail
  go_step3
  go_wp2_with fail
  obtain ⟨hR1, t1⟩ := HR.out
  generalize w.setCell ⟨b, 7, none⟩ (.int .i64 (S.ca + 1)) = w1 at *
  clear HR c8 c7 c3 c2 e7
  have c7 := hR1.disk.c7
  have c2 := hR1.disk.c2
  rw [hR1.ca] at c7
  rw [hR1.cr] at c2
  have HR := Lib.hid (And.intro hR1 t1)
  clear hR1 t1
  simp only at c7 c2
  go_quiet (fail)
  have hR2 := HR.out.1.new ((Turn.refl [] w1).drewN nq)
  have hT2 := HR.out.2.drewN nq
  generalize w1.drewN nq = w2 at *
  have c3 := hR2.disk.c3
  rw [hR2.dn] at c3
  simp only [hdn] at c3
  have e8 := hR2.disk.free 8
  have c8 := hR2.disk.c8
  rw [hR2.dw] at c8
  simp only [hdw] at c8
  have hR3 := hR2.own ((Turn.refl [b] w2).set (c := b) (.inl (by simp)) 8 (.bool true)) (S.ca + 1) s.sz true (hR2.disk.set8 true)
  have HD := Lib.hid (And.intro hR3 (hT2.set (c := b) (.inl (by simp)) 8 (.bool true)))
  clear hR2 hT2 hR3 HR c7 c2
  go_wp2_with fail
  go_ret
  exact ⟨rfl, HD.out⟩

set_option maxRecDepth 100000 in
/-- The crash, at a call that is done. -/
theorem write_done (base b g : Nat) (cb : Array Value) (S : DM) (s : DS) (R : Int → World → Prop) (w : World) (hR : Rep w base b S s) (hdw : S.dw = false) (hcr : S.ca + 1 = S.cr) (hdn : S.dn = true) (hca0 : 0 ≤ S.ca) (hca1 : S.ca < 1000000)
    (hent : ∀ (args : Array Value) (w : World), (callFunc g args).run Try.prog w = .ok (.enter g args) w)
    (hcl : ∀ w1, Rep w1 base b { S with ca := S.ca + 1, dw := true } { s with ca := S.ca + 1, dw := true } → Turn [b] w w1 → Calls Try.prog g cb w1 (Left R)) :
    Calls Try.prog 32 #[theDisk b, .func (.func g) #[] cb] w fun e w' => e = .returned (.int .i64 7) ∧ ∃ k, R k w' := by
  have c8 := hR.disk.c8
  have c7 := hR.disk.c7
  have c3 := hR.disk.c3
  have c2 := hR.disk.c2
  have e7 := hR.disk.free 7
  rw [hR.dw, hdw] at c8
  rw [hR.ca] at c7
  rw [hR.cr] at c2
  rw [hR.dn, hdn] at c3
  have hb1 : ((S.ca + 1 : Int) == S.cr) = true := by simpa using hcr
  have hR1 := hR.count (S.ca + 1)
  have t1 : Turn [b] w (w.setCell ⟨b, 7, none⟩ (.int .i64 (S.ca + 1))) := (Turn.refl [b] w).set (.inl (by simp)) 7 _
  have HR := Lib.hid (And.intro hR1 t1)
  have HC := Lib.hid hcl
  unfold theDisk
  clear hR hR1 t1 hcr hcl
  go_enter Try.func32, Try.ntmps32
  go_wp2
  go_step3
  go_wp2_with fail
  go_step3
  go_wp2_with fail
  obtain ⟨hR1, t1⟩ := HR.out
  generalize w.setCell ⟨b, 7, none⟩ (.int .i64 (S.ca + 1)) = w1 at *
  clear HR c8 c7 c3 c2 e7
  have c7 := hR1.disk.c7
  have c2 := hR1.disk.c2
  rw [hR1.ca] at c7
  rw [hR1.cr] at c2
  have HR := Lib.hid (And.intro hR1 t1)
  clear hR1 t1
  simp only at c7 c2
  go_quiet (fail)
  have hR2 := HR.out.1.new ((Turn.refl [] w1).drewN nq)
  have hT2 := HR.out.2.drewN nq
  generalize w1.drewN nq = w2 at *
  have c3 := hR2.disk.c3
  rw [hR2.dn] at c3
  simp only [hdn] at c3
  have e8 := hR2.disk.free 8
  have c8 := hR2.disk.c8
  rw [hR2.dw] at c8
  simp only [hdw] at c8
  have hR3 := hR2.own ((Turn.refl [b] w2).set (c := b) (.inl (by simp)) 8 (.bool true)) (S.ca + 1) s.sz true (hR2.disk.set8 true)
  have HD := Lib.hid (And.intro hR3 (hT2.set (c := b) (.inl (by simp)) 8 (.bool true)))
  clear hR2 hT2 hR3 HR c7 c2
  go_wp2_with fail
  refine (HC.out _ HD.out.1 HD.out.2).mono ?_
  rintro e w3 ⟨k, rfl, hk⟩
  have HK := Lib.hid hk
  clear hk HC HD hent c8 c3 e8
  go_wp2_with fail
  rw [Exit.noGoto_ret]
  go_ret
  exact ⟨rfl, k, HK.out⟩

end Go.Proofs.Ytmpjjnjggiipjaa
