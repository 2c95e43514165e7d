/- Append, that is carried out: where its bytes lie then. Numbers and types by name. -/
import Derived.Test.YthacjeeafnblmaaGreatDoorDel
import Derived.Test.YthacjeeafnblmaaGreatDoorFil
/- 'drop'. Numbers and types by name. -/
namespace Go.Proofs.YthacjeeafnblmaaGreatDoor
open Go.RowKit Go.Maps Go.Sort Go.WideMaps

end Go.Proofs.YthacjeeafnblmaaGreatDoor

/- Rename, that is carried out. Numbers and types by name. -/
namespace Go.Proofs.YthacjeeafnblmaaGreatDoor
open Go.RowKit Go.Maps Go.Sort Go.WideMaps

theorem without_none {k : List UInt8} {files : List FM} (h : files.find? (named k) = none) : without k files = files := by
  refine List.filter_eq_self.2 fun g hg => ?_
  have := List.find?_eq_none.1 h g hg
  simpa using this

def renamed (src dst : List UInt8) (f : FM) (files : List FM) : List FM := without src (without dst files) ++ [{ f with name := dst }]

def MovedAt (w : World) (base b : Nat) (S : DM) (ca : Int) (src dst : List UInt8) (f : FM) (k : Int) (w' : World) : Prop :=
  k = 0 ∧ ∃ m s', (S.mp = some m ∨ w.heap.size ≤ m) ∧ Rep w' base b { S with ca := ca, files := renamed src dst f S.files, mp := some m } s' ∧ s'.sz = total (without dst S.files) ∧ Turn (foot b S) w w'
def Moved (w : World) (base b : Nat) (S : DM) (ca : Int) (src dst : List UInt8) (f : FM) (k : Int) (w' : World) : Prop :=
  k = 0 ∧ ∃ m s', Rep w' base b { S with ca := ca, files := renamed src dst f S.files, mp := some m } s' ∧ s'.sz = total (without dst S.files) ∧ Turn (foot b S) w w'

theorem find_keep {k x : List UInt8} {files : List FM} {f : FM} (h : files.find? (named k) = some f) (hne : k ≠ x) : (without x files).find? (named k) = some f := by
  rw [find_without, if_neg hne]; exact h

/-- A file's blocks stand apart from all that is left when its name is taken out. -/
theorem apart_without {w : World} {base b : Nat} {S : DM} {s : DS} (h : Rep w base b S s) {f : FM} {k : List UInt8} (hf : S.files.find? (named k) = some f) : ∀ x ∈ f.foot, x ∉ foot b { S with files := without k S.files } := by
  obtain ⟨hmem, hnm⟩ := find_mem hf
  obtain ⟨hbf, hmf, hnd⟩ := h.apart2 f hmem
  intro x hx hm
  simp only [foot, List.mem_cons, List.mem_append, List.mem_flatMap, Option.mem_toList] at hm
  rcases hm with rfl | hm | ⟨g, hg, hgx⟩
  · exact hbf hx
  · exact hmf x hm hx
  · obtain ⟨hgm, hgn⟩ := mem_without hg
    have hne : g ≠ f := fun e => hgn (e ▸ hnm)
    have hp : ∀ (l : List FM), l.Pairwise (fun f g => ∀ k ∈ f.foot, k ∉ g.foot) → f ∈ l → g ∈ l → False := by
      intro l hl
      induction l with
      | nil => intro h; cases h
      | cons a t ih =>
        intro h1 h2
        obtain ⟨ha, ht⟩ := List.pairwise_cons.1 hl
        rcases List.mem_cons.1 h1 with rfl | h1'
        · rcases List.mem_cons.1 h2 with rfl | h2'
          · exact hne rfl
          · exact ha g h2' x hx hgx
        · rcases List.mem_cons.1 h2 with rfl | h2'
          · exact ha f h1' x hgx hx
          · exact ih ht h1' h2'
    exact hp _ h.apart3 hmem hgm

/-- 'delete' at a step of a region that draws its order. -/
theorem step_delete {ops : Array Oper} {o : Oper} {a : Act} {w : World} {K : Act → World → Prop} {Q : Exit → Act → World → Prop} {E : Prop} (hgd : o.guard = none) (m x : Operand)
    (hop : o.op = Op.call { callee := Callee.builtin Builtin.delete, args := #[m, x], argTypes := #[69, 9] })
    (b n : Nat) (D : DataW Unit) (hm : a.eval m = .map (some b)) (hown : w.ownsMap Tryz.prog 9 Rp b n D) (key : Value) (kl : Lit) (hx : a.eval x = key) (hkey : keyOf Tryz.prog 9 key = some kl)
    (hK : ∀ w', w'.ownsMap Tryz.prog 9 Rp b n (D.del kl) → w.mapTurned w' b → K (a.put o.dst (.tuple #[])) w') :
    if Region.wanted o (yielded ops a.tmps) = true then Oper.wp Tryz.prog o a w K Q else E := by
  have hw : Region.wanted o (yielded ops a.tmps) = true := by simp [Region.wanted, hgd]
  rw [if_pos hw]
  obtain ⟨w', hrun, r1, r2⟩ := hown.drop law Tryz.underlying69 hkey o.type
  unfold Oper.wp execOp
  simp only [hop, resolve, invoke, builtin, Sem.run_bind, Sem.run_pure, Result.andThen_ok, List.map_toArray, List.map_cons, List.map_nil, hm, hx, hrun]
  exact hK w' r1 r2

theorem cell_turn {w w' : World} {F : List Nat} (t : Turn F w w') {p : Nat} (hp : p ∉ F) {v : Value} (h : w.cell? ⟨p, 0, none⟩ = some v) : w'.cell? ⟨p, 0, none⟩ = some v :=
  (World.cell?_of_block (t.block p (World.block_lt_of_cell? w _ h) hp)).trans h

theorem rename_mid {w2 w3 : World} {base b : Nat} {S : DM} {s : DS} {src : List UInt8} {f : FM} {m : Nat} (hR : Rep w2 base b S s) (hm : S.mp = some m) (hf : S.files.find? (named src) = some f) (t3 : Turn [m] w2 w3) (hM3 : MapAt w3 m (without src S.files)) (dst : ByteArray) (hl : dst.size ≤ maxLen)
    (hno : S.files.any (named dst.data.toList) = false) (hlen : S.files.length < maxLen) (hbase : base ≤ w2.heap.size) :
    Calls Tryz.prog 59 #[theDisk b, .string dst, .pointer (some ⟨f.blk, 0, none⟩)] w3 fun e w' => e = .returned (.tuple #[]) ∧ ∃ m' s', (S.mp = some m' ∨ w3.heap.size ≤ m') ∧ Rep w' base b { S with files := without src S.files ++ [{ f with name := dst.data.toList }], mp := some m' } s' ∧ s'.sz = s.sz ∧ Turn (b :: S.mp.toList) w3 w' := by
  obtain ⟨hmem, hnm⟩ := find_mem hf
  obtain ⟨hbf, hmf, hnd⟩ := hR.apart2 f hmem
  have hR3 := hR.without src m hm t3 hM3
  have hsub : ∀ x ∈ f.foot, x ∈ foot b S := fun x hx => by simp only [foot, List.mem_cons, List.mem_append, List.mem_flatMap]; exact .inr (.inr ⟨f, hmem, hx⟩)
  have hF3 : FileAt w3 base f := (hR.files f hmem).keep t3 (fun x hx => by simp only [List.mem_singleton]; rintro rfl; exact hmf _ hm hx)
  obtain ⟨ao, c, ao', c', g1, g2, g3, g4, g5, g6, g7, g8⟩ := hR.lists
  refine put_new_at base b { S with files := without src S.files } s dst { f with name := dst.data.toList } w3 hR3 rfl hl ?_ ?_ hF3 hnd (fun k hk => apart_without hR hf k hk) (fun k hk => hR.low k (hsub k hk)) (fun g hg hk => g7 g hg (hsub g hk)) (fun g hg hk => g8 g hg (hsub g hk)) (Nat.le_trans hbase t3.size)
  · exact Nat.lt_of_le_of_lt (List.length_filter_le _ _) hlen
  · show (without src S.files).any (named dst.data.toList) = false
    rw [any_without]
    split
    · rfl
    · exact hno

end Go.Proofs.YthacjeeafnblmaaGreatDoor

/- 'write', the other ways: down, a failure, the crash. Numbers and types by name. -/
namespace Go.Proofs.YthacjeeafnblmaaGreatDoor
open Go.RowKit Go.Maps Go.Sort Go.WideMaps

/-- The disk is down. -/
theorem write_down (base b g : Nat) (cb : Array Value) (S : DM) (s : DS) (w : World) (hR : Rep w base b S s) (hdw : S.dw = true) :
    Calls Tryz.prog 57 #[theDisk b, .func (.func g) #[] cb] w fun e w' => e = .returned (.int .i64 7) ∧ w = w' := by
  have c8 := hR.disk.c8
  rw [hR.dw, hdw] at c8
  unfold theDisk
  clear hR
  go_enter Tryz.func57, Tryz.ntmps57
  go_wp2
  go_step3
  go_wp2_with fail
  go_step3
  go_wp2_with fail
  rw [Exit.noGoto_ret]
  go_ret
  exact ⟨rfl, rfl⟩

set_option maxRecDepth 100000 in
/-- The plan fails the call. -/
theorem write_io (base b g : Nat) (cb : Array Value) (S : DM) (s : DS) (w : World) (hR : Rep w base b S s) (hdw : S.dw = false) (hcr : S.ca + 1 ≠ S.cr) (hfail : S.fail.contains (S.ca + 1) = true) (hca0 : 0 ≤ S.ca) (hca1 : S.ca < 1000000) (hfl : S.fail.length < 1000000) :
    Calls Tryz.prog 57 #[theDisk b, .func (.func g) #[] cb] w fun e w' => e = .returned (.int .i64 6) ∧ Rep w' base b { S with ca := S.ca + 1 } { s with ca := S.ca + 1 } ∧ Turn [b] w w' := by
  have c8 := hR.disk.c8
  have c7 := hR.disk.c7
  have c3 := hR.disk.c3
  have c2 := hR.disk.c2
  have e7 := hR.disk.free 7
  rw [hR.dw, hdw] at c8
  rw [hR.ca] at c7
  rw [hR.cr] at c2
  have hb1 : ((S.ca + 1 : Int) == S.cr) = false := by simpa using hcr
  have hR1 := hR.count (S.ca + 1)
  have t1 : Turn [b] w (w.setCell ⟨b, 7, none⟩ (.int .i64 (S.ca + 1))) := (Turn.refl [b] w).set (.inl (by simp)) 7 _
  have HR := Lib.hid (And.intro hR1 t1)
  have HF := Lib.hid hfail
  have HL := Lib.hid hfl
  unfold theDisk
  clear hR hR1 t1 hfail hfl hcr
  go_enter Tryz.func57, Tryz.ntmps57
  go_wp2
  go_step3
  go_wp2_with fail
  go_step3
  go_wp2_with fail
  obtain ⟨hR1, t1⟩ := HR.out
  generalize w.setCell ⟨b, 7, none⟩ (.int .i64 (S.ca + 1)) = w1 at *
  clear HR c8 c7 c3 c2 e7
  have c7 := hR1.disk.c7
  have c2 := hR1.disk.c2
  rw [hR1.ca] at c7
  rw [hR1.cr] at c2
  have HR := Lib.hid (And.intro hR1 t1)
  clear hR1 t1
  simp only at c7 c2
  go_quiet (fail)
  go_wp2_with fail
  refine ((HR.out.1.new ((Turn.refl [] w1).drewN nq)).fails HL.out).mono ?_
  rintro e w2 ⟨rfl, n2, rfl⟩
  rw [show ({ S with ca := S.ca + 1 } : DM).fail.contains ({ S with ca := S.ca + 1 } : DM).ca = true from HF.out]
  rw [World.drewN_drewN]
  have HT : Hid (Rep (w1.drewN (nq + n2)) base b { S with ca := S.ca + 1 } { s with ca := S.ca + 1 } ∧ Turn [b] w (w1.drewN (nq + n2))) := Lib.hid ⟨HR.out.1.new ((Turn.refl [] w1).drewN _), HR.out.2.drewN _⟩
  generalize w1.drewN (nq + n2) = w2 at *
  clear HR c7 c2 HL HF hb1 hca0 hca1
  go_wp2_with fail
  rw [Exit.noGoto_ret]
  go_ret
  exact ⟨rfl, HT.out⟩

set_option maxRecDepth 100000 in
/-- The crash, at a call that is not done. -/
theorem write_crash (base b g : Nat) (cb : Array Value) (S : DM) (s : DS) (w : World) (hR : Rep w base b S s) (hdw : S.dw = false) (hcr : S.ca + 1 = S.cr) (hdn : S.dn = false) (hca0 : 0 ≤ S.ca) (hca1 : S.ca < 1000000) :
    Calls Tryz.prog 57 #[theDisk b, .func (.func g) #[] cb] w fun e w' => e = .returned (.int .i64 7) ∧ Rep w' base b { S with ca := S.ca + 1, dw := true } { s with ca := S.ca + 1, dw := true } ∧ Turn [b] w w' := by
  have c8 := hR.disk.c8
  have c7 := hR.disk.c7
  have c3 := hR.disk.c3
  have c2 := hR.disk.c2
  have e7 := hR.disk.free 7
  rw [hR.dw, hdw] at c8
  rw [hR.ca] at c7
  rw [hR.cr] at c2
  rw [hR.dn, hdn] at c3
  have hb1 : ((S.ca + 1 : Int) == S.cr) = true := by simpa using hcr
  have hR1 := hR.count (S.ca + 1)
  have t1 : Turn [b] w (w.setCell ⟨b, 7, none⟩ (.int .i64 (S.ca + 1))) := (Turn.refl [b] w).set (.inl (by simp)) 7 _
  have HR := Lib.hid (And.intro hR1 t1)
  unfold theDisk
  clear hR hR1 t1 hcr
  go_enter Tryz.func57, Tryz.ntmps57
  go_wp2
  go_step3
  go_wp2_with fail
  go_step3
  go_wp2_with fail
  obtain ⟨hR1, t1⟩ := HR.out
  generalize w.setCell ⟨b, 7, none⟩ (.int .i64 (S.ca + 1)) = w1 at *
  clear HR c8 c7 c3 c2 e7
  have c7 := hR1.disk.c7
  have c2 := hR1.disk.c2
  rw [hR1.ca] at c7
  rw [hR1.cr] at c2
  have HR := Lib.hid (And.intro hR1 t1)
  clear hR1 t1
  simp only at c7 c2
  go_quiet (fail)
  have hR2 := HR.out.1.new ((Turn.refl [] w1).drewN nq)
  have hT2 := HR.out.2.drewN nq
  generalize w1.drewN nq = w2 at *
  have c3 := hR2.disk.c3
  rw [hR2.dn] at c3
  simp only [hdn] at c3
  have e8 := hR2.disk.free 8
  have c8 := hR2.disk.c8
  rw [hR2.dw] at c8
  simp only [hdw] at c8
  have hR3 := hR2.own ((Turn.refl [b] w2).set (c := b) (.inl (by simp)) 8 (.bool true)) (S.ca + 1) s.sz true (hR2.disk.set8 true)
  have HD := Lib.hid (And.intro hR3 (hT2.set (c := b) (.inl (by simp)) 8 (.bool true)))
  clear hR2 hT2 hR3 HR c7 c2
  go_wp2_with fail
  go_ret
  exact ⟨rfl, HD.out⟩

set_option maxRecDepth 100000 in
/-- The crash, at a call that is done. -/
theorem write_done (base b g : Nat) (cb : Array Value) (S : DM) (s : DS) (R : Int → World → Prop) (w : World) (hR : Rep w base b S s) (hdw : S.dw = false) (hcr : S.ca + 1 = S.cr) (hdn : S.dn = true) (hca0 : 0 ≤ S.ca) (hca1 : S.ca < 1000000)
    (hent : ∀ (args : Array Value) (w : World), (callFunc g args).run Tryz.prog w = .ok (.enter g args) w)
    (hcl : ∀ w1, Rep w1 base b { S with ca := S.ca + 1, dw := true } { s with ca := S.ca + 1, dw := true } → Turn [b] w w1 → Calls Tryz.prog g cb w1 (Left R)) :
    Calls Tryz.prog 57 #[theDisk b, .func (.func g) #[] cb] w fun e w' => e = .returned (.int .i64 7) ∧ ∃ k, R k w' := by
  have c8 := hR.disk.c8
  have c7 := hR.disk.c7
  have c3 := hR.disk.c3
  have c2 := hR.disk.c2
  have e7 := hR.disk.free 7
  rw [hR.dw, hdw] at c8
  rw [hR.ca] at c7
  rw [hR.cr] at c2
  rw [hR.dn, hdn] at c3
  have hb1 : ((S.ca + 1 : Int) == S.cr) = true := by simpa using hcr
  have hR1 := hR.count (S.ca + 1)
  have t1 : Turn [b] w (w.setCell ⟨b, 7, none⟩ (.int .i64 (S.ca + 1))) := (Turn.refl [b] w).set (.inl (by simp)) 7 _
  have HR := Lib.hid (And.intro hR1 t1)
  have HC := Lib.hid hcl
  unfold theDisk
  clear hR hR1 t1 hcr hcl
  go_enter Tryz.func57, Tryz.ntmps57
  go_wp2
  go_step3
  go_wp2_with fail
  go_step3
  go_wp2_with fail
  obtain ⟨hR1, t1⟩ := HR.out
  generalize w.setCell ⟨b, 7, none⟩ (.int .i64 (S.ca + 1)) = w1 at *
  clear HR c8 c7 c3 c2 e7
  have c7 := hR1.disk.c7
  have c2 := hR1.disk.c2
  rw [hR1.ca] at c7
  rw [hR1.cr] at c2
  have HR := Lib.hid (And.intro hR1 t1)
  clear hR1 t1
  simp only at c7 c2
  go_quiet (fail)
  have hR2 := HR.out.1.new ((Turn.refl [] w1).drewN nq)
  have hT2 := HR.out.2.drewN nq
  generalize w1.drewN nq = w2 at *
  have c3 := hR2.disk.c3
  rw [hR2.dn] at c3
  simp only [hdn] at c3
  have e8 := hR2.disk.free 8
  have c8 := hR2.disk.c8
  rw [hR2.dw] at c8
  simp only [hdw] at c8
  have hR3 := hR2.own ((Turn.refl [b] w2).set (c := b) (.inl (by simp)) 8 (.bool true)) (S.ca + 1) s.sz true (hR2.disk.set8 true)
  have HD := Lib.hid (And.intro hR3 (hT2.set (c := b) (.inl (by simp)) 8 (.bool true)))
  clear hR2 hT2 hR3 HR c7 c2
  go_wp2_with fail
  refine (HC.out _ HD.out.1 HD.out.2).mono ?_
  rintro e w3 ⟨k, rfl, hk⟩
  have HK := Lib.hid hk
  clear hk HC HD hent c8 c3 e8
  go_wp2_with fail
  rw [Exit.noGoto_ret]
  go_ret
  exact ⟨rfl, k, HK.out⟩

end Go.Proofs.YthacjeeafnblmaaGreatDoor

namespace Go.Proofs.YthacjeeafnblmaaGreatDoor
open Go.RowKit Go.Maps Go.Sort Go.WideMaps

def LongerAt (w : World) (base b : Nat) (S : DM) (s : DS) (ca : Int) (f : FM) (name l : List UInt8) (k : Int) (w' : World) : Prop :=
  k = 0 ∧ ∃ row s', Rep w' base b { S with ca := ca, files := mapF name (addTo l row) S.files } s' ∧ s'.sz = s.sz + l.length ∧ Turn (foot b S) w w' ∧ (row = f.row ∨ ∃ g, row = some g ∧ w.heap.size ≤ g)

theorem append_clo_at (pd pn pb base b : Nat) (S : DM) (s : DS) (name : ByteArray) (vb : Value) (l : List UInt8) (f : FM) (w : World) (hR : Rep w base b S s)
    (hd : w.cell? ⟨pd, 0, none⟩ = some (theDisk b)) (hn : w.cell? ⟨pn, 0, none⟩ = some (.string name)) (hb : w.cell? ⟨pb, 0, none⟩ = some vb) (hpd : pd ∉ foot b S) (hpb : pb ∉ foot b S)
    (hf : S.files.find? (named name.data.toList) = some f) (hl : name.size ≤ maxLen) (hr : Reads w vb (bv l)) (hsz : s.sz = total S.files) (hs1 : total S.files + l.length < 1000000000) (hcap : (total S.files : Int) + l.length ≤ S.cap) (hbase : base ≤ w.heap.size) (hfl : f.bytes.length ≤ total S.files) :
    Calls Tryz.prog 60 #[.pointer (some ⟨pd, 0, none⟩), .pointer (some ⟨pn, 0, none⟩), .pointer (some ⟨pb, 0, none⟩)] w (Left (LongerAt w base b S s S.ca f name.data.toList l)) := by
  obtain ⟨hmem, hnm⟩ := find_mem hf
  obtain ⟨ao, c, hfc, hown, hrow, hsy⟩ := (hR.files f hmem).own
  obtain ⟨hbf, hmf, hnd⟩ := hR.apart2 f hmem
  have hsub : ∀ x ∈ f.foot, x ∈ foot b S := fun x hx => by simp only [foot, List.mem_cons, List.mem_append, List.mem_flatMap]; exact .inr (.inr ⟨f, hmem, hx⟩)
  have hblk : f.blk ∈ f.foot := by simp [FM.foot]
  have hbb : b ≠ f.blk := fun e => hbf (e ▸ hblk)
  have hrw : ∀ g, f.row = some g → g ∈ f.foot ∧ g ≠ f.blk := by
    intro g hg
    refine ⟨by simp [FM.foot, hg], ?_⟩
    rintro rfl
    simp [FM.foot, hg] at hnd
  have hlk : ∀ n, (Instr.lookup 69 s.fs (.string name) false).run Tryz.prog (w.drewN n) = .ok (.pointer (some ⟨f.blk, 0, none⟩)) (w.drewN n) := by
    intro n
    have := (hR.new ((Turn.refl [] w).drewN n)).look name hl
    rw [this]; simp [ptrOf, hf]
  have c0 := hR.disk.c0
  rw [hR.cap] at c0
  have hbl := bv_length l
  refine (append_walk pd pn pb base b f.blk name vb (bv l) s.fs S.cap s.sz ao f.bytes.length c (bv f.bytes) w hd hn hb hR.disk.c5 c0 hR.disk.c6 (hR.disk.free 6) hfc.c0 (hfc.free 0) hlk hown hr (bv_one l) ?_ hbb ?_ ?_ ?_ ?_ hbase (by omega) (by rw [hbl]; omega) (by rw [hbl]; omega)).mono ?_
  · intro g hg
    obtain ⟨h1, h2⟩ := hrw g (hrow.symm.trans hg)
    exact ⟨fun e => hbf (e ▸ h1), h2, fun e => hpd (e ▸ hsub g h1), fun e => hpb (e ▸ hsub g h1)⟩
  · rintro rfl; exact hpd (hsub _ hblk)
  · rintro rfl; exact hpb (hsub _ hblk)
  · exact Lib.hid (by rw [hbl]; unfold maxLen; omega)
  · exact Lib.hid (by rw [hbl]; omega)
  rintro e w' ⟨rfl, ao', c', w1, n1, hown1, hg1, hat, rfl⟩
  rw [hbl] at hown1 hat
  have t1 : Turn f.row.toList w w1 := Turn.of_grown hg1 (fun k hk => by simpa using hrow.symm.trans hk)
  have hd1 : DiskC w1 b s := hR.disk.turn t1 (fun hx => by
    have := hrw b (by simpa using hx)
    exact hbf this.1)
  have hf1 : FileC w1 f.blk (.slice ao f.bytes.length c) f.sy := hfc.turn t1 (fun hx => (hrw _ (by simpa using hx)).2 rfl)
  have hnew : ∀ g, (Value.slice ao' (f.bytes.length + l.length) c').ownBlock = some g → g ≠ b ∧ g ≠ f.blk := by
    intro g hg
    rcases hat with e | e
    · rw [e, hrow] at hg
      obtain ⟨h1, h2⟩ := hrw g hg
      exact ⟨fun e => hbf (e ▸ h1), h2⟩
    · rw [e] at hg
      have h1 := hR.disk.lt
      have h2 := hfc.lt
      simp at hg
      omega
  rw [bv_length]
  have hf2 := hf1.set0 (.slice ao' (f.bytes.length + l.length) c')
  have hd2 := (hd1.setNe hbb 0 (.slice ao' (f.bytes.length + l.length) c')).set6 (s.sz + l.length)
  have hf3 : FileC ((w1.setCell ⟨f.blk, 0, none⟩ (.slice ao' (f.bytes.length + l.length) c')).setCell ⟨b, 6, none⟩ (.int .i64 (s.sz + l.length))) f.blk (.slice ao' (f.bytes.length + l.length) c') f.sy := hf2.setNe (fun e => hbb e.symm) 6 _
  have t2 : Turn [f.blk, b] w1 ((w1.setCell ⟨f.blk, 0, none⟩ (.slice ao' (f.bytes.length + l.length) c')).setCell ⟨b, 6, none⟩ (.int .i64 (s.sz + l.length))) := ((Turn.refl _ w1).set (.inl (by simp)) 0 _).set (.inl (by simp)) 6 _
  have t3 : Turn (b :: f.foot) w ((w1.setCell ⟨f.blk, 0, none⟩ (.slice ao' (f.bytes.length + l.length) c')).setCell ⟨b, 6, none⟩ (.int .i64 (s.sz + l.length))) :=
    (t1.mono (by intro x hx; simp only [FM.foot, List.mem_cons]; exact .inr (.inr hx))).trans (t2.mono (by intro x hx; simp at hx; rcases hx with rfl | rfl <;> simp [FM.foot]))
  refine ⟨0, rfl, rfl, (Value.slice ao' (f.bytes.length + l.length) c').ownBlock, { s with sz := s.sz + l.length }, ?_, rfl, ?_⟩
  · have := hR.file t3 f (by rw [hnm]; exact hf) (addTo l (Value.slice ao' (f.bytes.length + l.length) c').ownBlock) (fun _ => rfl) (fun _ => rfl) (by intro x hx; simpa using hx) ?_ ?_ (s.sz + l.length) hd2 hbase
    · rw [hnm] at this
      exact this.new ((Turn.refl [] _).drewN n1)
    · refine ⟨ao', c', by simpa [addTo] using hf3, ?_, by simp [addTo], by simp [addTo]; omega⟩
      have : bv (f.bytes ++ l) = bv f.bytes ++ bv l := by simp [bv]
      simp only [addTo, List.length_append, this]
      exact owns_turn hown1 t2 (fun g hg => by have := hnew g hg; simp [this])
    · rcases hat with e | e
      · exact .inl (e.trans hrow)
      · exact .inr ⟨_, e, Nat.le_refl _⟩
  · refine ⟨(t3.mono (by intro x hx; rcases List.mem_cons.1 hx with rfl | hx; simp [foot]; exact hsub x hx)).drewN n1, ?_⟩
    rcases hat with e | e
    · exact .inl (e.trans hrow)
    · exact .inr ⟨_, e, Nat.le_refl _⟩

theorem append_ok_at (base b : Nat) (S : DM) (s : DS) (name : ByteArray) (vb : Value) (l : List UInt8) (f : FM) (w : World) (hR : Rep w base b S s) (hr : Runs S) (hf : S.files.find? (named name.data.toList) = some f) (hl : name.size ≤ maxLen) (hv : Reads w vb (bv l)) (hvb : bv l ≠ [] → ∀ a n c, vb = .slice (some a) n c → a.block ≠ b)
    (hsz : s.sz = total S.files) (hs1 : total S.files + l.length < 1000000000) (hcap : (total S.files : Int) + l.length ≤ S.cap) (hbase : base ≤ w.heap.size) (hfl : f.bytes.length ≤ total S.files) :
    Calls Tryz.prog 29 #[theDisk b, .string name, vb] w (Left (LongerAt w base b S s (S.ca + 1) f name.data.toList l)) := by
  have hw : ∀ W, W = ((w.alloc (.cells #[theDisk b] 27)).alloc (.cells #[.string name] 9)).alloc (.cells #[vb] 24) →
      Calls Tryz.prog 57 #[theDisk b, .func (.func 60) #[] #[.pointer (some ⟨w.heap.size, 0, none⟩), .pointer (some ⟨w.heap.size + 1, 0, none⟩), .pointer (some ⟨w.heap.size + 1 + 1, 0, none⟩)]] W (Left (LongerAt w base b S s (S.ca + 1) f name.data.toList l)) := by
    rintro W rfl
    have ta : Turn [] w (w.alloc (.cells #[theDisk b] 27)) := (Turn.refl [] w).alloc _
    have tb : Turn [] (w.alloc (.cells #[theDisk b] 27)) ((w.alloc (.cells #[theDisk b] 27)).alloc (.cells #[.string name] 9)) := (Turn.refl [] _).alloc _
    have tc : Turn [] ((w.alloc (.cells #[theDisk b] 27)).alloc (.cells #[.string name] 9)) (((w.alloc (.cells #[theDisk b] 27)).alloc (.cells #[.string name] 9)).alloc (.cells #[vb] 24)) := (Turn.refl [] _).alloc _
    have t0 := (ta.trans tb).trans tc
    have hlt := hR.lt
    have hbl := hR.disk.lt
    refine write_run base b _ _ S s _ _ (hR.new t0) hr.dw hr.cr hr.fail hr.ca0 hr.ca1 hr.fl (enters_of Tryz.func60 (by kernel_rfl) rfl) ?_
    intro w1 hR1 t1
    have hpd : w1.cell? ⟨w.heap.size, 0, none⟩ = some (theDisk b) := box_at (((tb.trans tc).mono (by simp)).trans t1) (by simp; omega)
    have hpn : w1.cell? ⟨w.heap.size + 1, 0, none⟩ = some (.string name) := by
      have := box_at ((tc.mono (by simp)).trans t1) (by simp; omega)
      simpa using this
    have hpb : w1.cell? ⟨w.heap.size + 1 + 1, 0, none⟩ = some vb := by
      have := box_at t1 (by simp; omega)
      simpa using this
    have hs1' : w.heap.size ≤ w1.heap.size := Nat.le_trans t0.size t1.size
    have hv1 : Reads w1 vb (bv l) := by
      have h0 := ((hv.alloc (.cells #[theDisk b] 27)).alloc (.cells #[.string name] 9)).alloc (.cells #[vb] 24)
      exact h0.turn t1 (fun hx a n c e => by simpa using hvb hx a n c e)
    refine (append_clo_at w.heap.size (w.heap.size + 1) (w.heap.size + 1 + 1) base b _ _ name vb l f w1 hR1 hpd hpn hpb (fun h => by have := hlt _ h; omega) (fun h => by have := hlt _ h; omega) hf hl hv1 hsz hs1 hcap (Nat.le_trans hbase hs1') hfl).mono ?_
    rintro e w' ⟨k, rfl, hk, row, s', h1, h2, h3, h4⟩
    exact ⟨k, rfl, hk, row, s', h1, h2, (t0.mono (by simp)).trans ((t1.mono (by intro x hx; simp at hx; subst hx; simp [foot])).trans h3), h4.imp id (fun ⟨g, e, hg⟩ => ⟨g, e, Nat.le_trans hs1' hg⟩)⟩
  have hmf := hmf
  unfold theDisk at hw
  unfold theDisk
  clear hR hr hf hl hbase hvb hsz hs1 hcap hfl
  obtain ⟨aob, cb, rfl, _⟩ := hv
  go_enter Tryz.func29, Tryz.ntmps29
  go_wp2_with fail
  refine (hw _ rfl).mono ?_
  rintro e w' ⟨k, rfl, hk⟩
  have HK := Lib.hid hk
  clear hk hw
  go_wp2
  go_ret
  exact ⟨k, rfl, HK.out⟩

end Go.Proofs.YthacjeeafnblmaaGreatDoor
