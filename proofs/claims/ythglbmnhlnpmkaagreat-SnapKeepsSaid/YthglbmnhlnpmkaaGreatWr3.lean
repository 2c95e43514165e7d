/- 'write', the other ways: down, a failure, the crash. Numbers and types by name. -/
import Derived.Test.YthglbmnhlnpmkaaGreatDrp
import Derived.Test.YthglbmnhlnpmkaaGreatWr2
/- Rename, that is carried out. Numbers and types by name. -/
namespace Go.Proofs.YthglbmnhlnpmkaaGreat
open Go.RowKit Go.Maps Go.Sort Go.WideMaps

theorem without_none {k : List UInt8} {files : List FM} (h : files.find? (named k) = none) : without k files = files := by
  refine List.filter_eq_self.2 fun g hg => ?_
  have := List.find?_eq_none.1 h g hg
  simpa using this

/-- drop, whether the file is there or not. -/
theorem drop_any (base b : Nat) (S : DM) (s : DS) (name : ByteArray) (w : World) (hR : Rep w base b S s) (hl : name.size ≤ maxLen) (hsz : s.sz = total S.files) (hs1 : total S.files < 1000000000) (hbase : base ≤ w.heap.size) :
    Calls Tryz.prog 92 #[theDisk b, .string name] w fun e w' => e = .returned (.tuple #[]) ∧ ∃ s', Rep w' base b { S with files := without name.data.toList S.files } s' ∧ s'.sz = total (without name.data.toList S.files) ∧ Turn (foot b S) w w' := by
  cases hf : S.files.find? (named name.data.toList) with
  | some f => exact drop_some base b S s name f w hR hf hl hsz hs1 hbase
  | none =>
    refine (drop_none base b S s name w hR hf hl).mono ?_
    rintro e w' ⟨rfl, t⟩
    rw [without_none hf]
    exact ⟨rfl, s, hR.new t, hsz, t.mono (by simp)⟩

def renamed (src dst : List UInt8) (f : FM) (files : List FM) : List FM := without src (without dst files) ++ [{ f with name := dst }]

def MovedAt (w : World) (base b : Nat) (S : DM) (ca : Int) (src dst : List UInt8) (f : FM) (k : Int) (w' : World) : Prop :=
  k = 0 ∧ ∃ m s', (S.mp = some m ∨ w.heap.size ≤ m) ∧ Rep w' base b { S with ca := ca, files := renamed src dst f S.files, mp := some m } s' ∧ s'.sz = total (without dst S.files) ∧ Turn (foot b S) w w'
def Moved (w : World) (base b : Nat) (S : DM) (ca : Int) (src dst : List UInt8) (f : FM) (k : Int) (w' : World) : Prop :=
  k = 0 ∧ ∃ m s', Rep w' base b { S with ca := ca, files := renamed src dst f S.files, mp := some m } s' ∧ s'.sz = total (without dst S.files) ∧ Turn (foot b S) w w'

theorem find_keep {k x : List UInt8} {files : List FM} {f : FM} (h : files.find? (named k) = some f) (hne : k ≠ x) : (without x files).find? (named k) = some f := by
  rw [find_without, if_neg hne]; exact h

/-- A file's blocks stand apart from all that is left when its name is taken out. -/
theorem apart_without {w : World} {base b : Nat} {S : DM} {s : DS} (h : Rep w base b S s) {f : FM} {k : List UInt8} (hf : S.files.find? (named k) = some f) : ∀ x ∈ f.foot, x ∉ foot b { S with files := without k S.files } := by
  obtain ⟨hmem, hnm⟩ := find_mem hf
  obtain ⟨hbf, hmf, hnd⟩ := h.apart2 f hmem
  intro x hx hm
  simp only [foot, List.mem_cons, List.mem_append, List.mem_flatMap, Option.mem_toList] at hm
  rcases hm with rfl | hm | ⟨g, hg, hgx⟩
  · exact hbf hx
  · exact hmf x hm hx
  · obtain ⟨hgm, hgn⟩ := mem_without hg
    have hne : g ≠ f := fun e => hgn (e ▸ hnm)
    have hp : ∀ (l : List FM), l.Pairwise (fun f g => ∀ k ∈ f.foot, k ∉ g.foot) → f ∈ l → g ∈ l → False := by
      intro l hl
      induction l with
      | nil => intro h; cases h
      | cons a t ih =>
        intro h1 h2
        obtain ⟨ha, ht⟩ := List.pairwise_cons.1 hl
        rcases List.mem_cons.1 h1 with rfl | h1'
        · rcases List.mem_cons.1 h2 with rfl | h2'
          · exact hne rfl
          · exact ha g h2' x hx hgx
        · rcases List.mem_cons.1 h2 with rfl | h2'
          · exact ha f h1' x hgx hx
          · exact ih ht h1' h2'
    exact hp _ h.apart3 hmem hgm

/-- 'delete' at a step of a region that draws its order. -/
theorem step_delete {ops : Array Oper} {o : Oper} {a : Act} {w : World} {K : Act → World → Prop} {Q : Exit → Act → World → Prop} {E : Prop} (hgd : o.guard = none) (m x : Operand)
    (hop : o.op = Op.call { callee := Callee.builtin Builtin.delete, args := #[m, x], argTypes := #[57, 9] })
    (b n : Nat) (D : DataW Unit) (hm : a.eval m = .map (some b)) (hown : w.ownsMap Tryz.prog 9 Rp b n D) (key : Value) (kl : Lit) (hx : a.eval x = key) (hkey : keyOf Tryz.prog 9 key = some kl)
    (hK : ∀ w', w'.ownsMap Tryz.prog 9 Rp b n (D.del kl) → w.mapTurned w' b → K (a.put o.dst (.tuple #[])) w') :
    if Region.wanted o (yielded ops a.tmps) = true then Oper.wp Tryz.prog o a w K Q else E := by
  have hw : Region.wanted o (yielded ops a.tmps) = true := by simp [Region.wanted, hgd]
  rw [if_pos hw]
  obtain ⟨w', hrun, r1, r2⟩ := hown.drop law Tryz.underlying57 hkey o.type
  unfold Oper.wp execOp
  simp only [hop, resolve, invoke, builtin, Sem.run_bind, Sem.run_pure, Result.andThen_ok, List.map_toArray, List.map_cons, List.map_nil, hm, hx, hrun]
  exact hK w' r1 r2

theorem cell_turn {w w' : World} {F : List Nat} (t : Turn F w w') {p : Nat} (hp : p ∉ F) {v : Value} (h : w.cell? ⟨p, 0, none⟩ = some v) : w'.cell? ⟨p, 0, none⟩ = some v :=
  (World.cell?_of_block (t.block p (World.block_lt_of_cell? w _ h) hp)).trans h

theorem rename_mid {w2 w3 : World} {base b : Nat} {S : DM} {s : DS} {src : List UInt8} {f : FM} {m : Nat} (hR : Rep w2 base b S s) (hm : S.mp = some m) (hf : S.files.find? (named src) = some f) (t3 : Turn [m] w2 w3) (hM3 : MapAt w3 m (without src S.files)) (dst : ByteArray) (hl : dst.size ≤ maxLen)
    (hno : S.files.any (named dst.data.toList) = false) (hlen : S.files.length < maxLen) (hbase : base ≤ w2.heap.size) :
    Calls Tryz.prog 53 #[theDisk b, .string dst, .pointer (some ⟨f.blk, 0, none⟩)] w3 fun e w' => e = .returned (.tuple #[]) ∧ ∃ m' s', (S.mp = some m' ∨ w3.heap.size ≤ m') ∧ Rep w' base b { S with files := without src S.files ++ [{ f with name := dst.data.toList }], mp := some m' } s' ∧ s'.sz = s.sz ∧ Turn (b :: S.mp.toList) w3 w' := by
  obtain ⟨hmem, hnm⟩ := find_mem hf
  obtain ⟨hbf, hmf, hnd⟩ := hR.apart2 f hmem
  have hR3 := hR.without src m hm t3 hM3
  have hsub : ∀ x ∈ f.foot, x ∈ foot b S := fun x hx => by simp only [foot, List.mem_cons, List.mem_append, List.mem_flatMap]; exact .inr (.inr ⟨f, hmem, hx⟩)
  have hF3 : FileAt w3 base f := (hR.files f hmem).keep t3 (fun x hx => by simp only [List.mem_singleton]; rintro rfl; exact hmf _ hm hx)
  obtain ⟨ao, c, ao', c', g1, g2, g3, g4, g5, g6, g7, g8⟩ := hR.lists
  refine put_new_at base b { S with files := without src S.files } s dst { f with name := dst.data.toList } w3 hR3 rfl hl ?_ ?_ hF3 hnd (fun k hk => apart_without hR hf k hk) (fun k hk => hR.low k (hsub k hk)) (fun g hg hk => g7 g hg (hsub g hk)) (fun g hg hk => g8 g hg (hsub g hk)) (Nat.le_trans hbase t3.size)
  · exact Nat.lt_of_le_of_lt (List.length_filter_le _ _) hlen
  · show (without src S.files).any (named dst.data.toList) = false
    rw [any_without]
    split
    · rfl
    · exact hno

set_option maxRecDepth 100000 in
theorem rename_clo_at (pd pn pt base b : Nat) (S : DM) (s : DS) (src dst : ByteArray) (f : FM) (w : World) (hR : Rep w base b S s)
    (hd : w.cell? ⟨pd, 0, none⟩ = some (theDisk b)) (hn : w.cell? ⟨pn, 0, none⟩ = some (.string src)) (ht : w.cell? ⟨pt, 0, none⟩ = some (.string dst)) (hpd : pd ∉ foot b S) (hpn : pn ∉ foot b S) (hpt : pt ∉ foot b S)
    (hf : S.files.find? (named src.data.toList) = some f) (hne : dst.toList.isEmpty = false) (hst : (src.toList == dst.toList) = false) (hst2 : src.data.toList ≠ dst.data.toList) (hl : src.size ≤ maxLen) (hl2 : dst.size ≤ maxLen) (hsz : s.sz = total S.files) (hs1 : total S.files < 1000000000) (hbase : base ≤ w.heap.size) (hlen : S.files.length < maxLen) :
    Calls Tryz.prog 94 #[.pointer (some ⟨pd, 0, none⟩), .pointer (some ⟨pn, 0, none⟩), .pointer (some ⟨pt, 0, none⟩)] w (Left (MovedAt w base b S S.ca src.data.toList dst.data.toList f)) := by
  obtain ⟨hmem, hnm⟩ := find_mem hf
  obtain ⟨m, hm⟩ : ∃ m, S.mp = some m := by
    cases e : S.mp with
    | none => rw [hR.mapN e] at hmem; cases hmem
    | some m => exact ⟨m, rfl⟩
  have hlk : ∀ n, (Instr.lookup 57 s.fs (.string src) false).run Tryz.prog (w.drewN n) = .ok (.pointer (some ⟨f.blk, 0, none⟩)) (w.drewN n) := by
    intro n
    have := (hR.new ((Turn.refl [] w).drewN n)).look src hl
    rw [this]; simp [ptrOf, hf]
  have c5 := hR.disk.c5
  have hkey := keyOf_string_mk Tryz.underlying9 hl
  have HM := Lib.hid (And.intro hR (And.intro hm (And.intro hsz (And.intro hs1 (And.intro hbase (And.intro hf (And.intro hlen (And.intro hpd (And.intro hpn hpt)))))))))
  unfold theDisk at hd
  clear hR hm hsz hs1 hbase hf hlen hpd hpn hpt hmem hnm hl
  go_enter Tryz.func94, Tryz.ntmps94
  go_wp2_with fail
  go_quiet (fail)
  go_wp2_with fail
  have hRq := HM.out.1.new ((Turn.refl [] w).drewN nq)
  refine (drop_any base b S s dst (w.drewN nq) hRq hl2 HM.out.2.2.1 HM.out.2.2.2.1 HM.out.2.2.2.2.1).mono ?_
  rintro e w2 ⟨rfl, s2, hR2, hsz2, t2⟩
  have t02 : Turn (foot b S) w w2 := ((Turn.refl _ w).drewN nq).trans t2
  have kd : w2.cell? ⟨pd, 0, none⟩ = some (.pointer (some ⟨b, 0, none⟩)) := cell_turn t02 HM.out.2.2.2.2.2.2.2.1 hd
  have kn : w2.cell? ⟨pn, 0, none⟩ = some (.string src) := cell_turn t02 HM.out.2.2.2.2.2.2.2.2.1 hn
  have kt : w2.cell? ⟨pt, 0, none⟩ = some (.string dst) := cell_turn t02 HM.out.2.2.2.2.2.2.2.2.2 ht
  obtain ⟨D, hown2, h1, h2, h3⟩ := hR2.mapS m HM.out.2.1
  have d5 := hR2.disk.c5
  rw [hR2.fs] at d5
  rw [show ({ S with files := without dst.data.toList S.files } : DM).mp = some m from HM.out.2.1] at d5
  have HR2 := Lib.hid (And.intro hR2 (And.intro hsz2 (And.intro t02 (And.intro h1 (And.intro h2 h3)))))
  clear hRq hR2 hsz2 t2 t02 h1 h2 h3 hd hn ht c5 hlk
  go_wp2_with fail
  go_region_law (refine step_delete rfl (.tmp 24) (.tmp 25) rfl m _ D (by simp [Act.eval]) hown2 (.string src) _ (by simp [Act.eval]) hkey ?_; intro w3 hown3 hturn3)
  all_goals
    have t3 : Turn [m] w2 w3 := by
      have t := Turn.of_grown (F := [m]) hturn3.grown (by intro k e; cases e; simp)
      exact ⟨t.os, t.tape, t.output, t.size, t.block⟩
    obtain ⟨hR2, hsz2, t02, h1, h2, h3⟩ := HR2.out
    have hM3 : MapAt w3 m (without src.data.toList (without dst.data.toList S.files)) := MapAt.del _ hR2.names h1 h2 h3 (hown2.tidy law) hown3
    have hno : (without dst.data.toList S.files).any (named dst.data.toList) = false := by rw [any_without, if_pos rfl]
    have HP := Lib.hid (rename_mid hR2 HM.out.2.1 (find_keep HM.out.2.2.2.2.2.1 hst2) t3 hM3 dst hl2 hno (Nat.lt_of_le_of_lt (List.length_filter_le _ _) HM.out.2.2.2.2.2.2.1) (Nat.le_trans HM.out.2.2.2.2.1 t02.size))
    have hmS : m ∈ foot b S := by simp [foot, HM.out.2.1]
    have HT := Lib.hid (t02.trans (t3.mono (by intro x hx; simp at hx; subst hx; exact hmS)))
    have HZ := Lib.hid hsz2
    have kd3 : w3.cell? ⟨pd, 0, none⟩ = some (.pointer (some ⟨b, 0, none⟩)) := cell_turn t3 (by simp; rintro rfl; exact HM.out.2.2.2.2.2.2.2.1 hmS) kd
    have kt3 : w3.cell? ⟨pt, 0, none⟩ = some (.string dst) := cell_turn t3 (by simp; rintro rfl; exact HM.out.2.2.2.2.2.2.2.2.2 hmS) kt
    unfold theDisk at HP
    clear hown2 hown3 hturn3 hR2 hsz2 t02 h1 h2 h3 hM3 hno hmS t3 HR2 d5 kd kn kt hkey hne hst hst2 hl2
    go_wp2_with fail
    refine HP.out.mono ?_
    rintro e w4 ⟨rfl, m', s', r0, hR4, hs4, t4⟩
    have HE : Hid (MovedAt w base b S S.ca src.data.toList dst.data.toList f 0 w4) := Lib.hid ⟨rfl, m', s', r0.imp id (fun h => Nat.le_trans HT.out.size h), hR4, by rw [hs4]; exact HZ.out, HT.out.trans (t4.mono (by
      intro x hx
      simp only [List.mem_cons, Option.mem_toList] at hx
      simp only [foot, List.mem_cons, List.mem_append, Option.mem_toList]
      exact hx.imp id .inl))⟩
    clear r0 hR4 hs4 t4 HP HZ HT kd3 kt3 HM
    go_wp2_with fail
    go_ret
    exact ⟨0, rfl, HE.out⟩

theorem rename_clo (pd pn pt base b : Nat) (S : DM) (s : DS) (src dst : ByteArray) (f : FM) (w : World) (hR : Rep w base b S s)
    (hd : w.cell? ⟨pd, 0, none⟩ = some (theDisk b)) (hn : w.cell? ⟨pn, 0, none⟩ = some (.string src)) (ht : w.cell? ⟨pt, 0, none⟩ = some (.string dst)) (hpd : pd ∉ foot b S) (hpn : pn ∉ foot b S) (hpt : pt ∉ foot b S)
    (hf : S.files.find? (named src.data.toList) = some f) (hne : dst.toList.isEmpty = false) (hst : (src.toList == dst.toList) = false) (hst2 : src.data.toList ≠ dst.data.toList) (hl : src.size ≤ maxLen) (hl2 : dst.size ≤ maxLen) (hsz : s.sz = total S.files) (hs1 : total S.files < 1000000000) (hbase : base ≤ w.heap.size) (hlen : S.files.length < maxLen) :
    Calls Tryz.prog 94 #[.pointer (some ⟨pd, 0, none⟩), .pointer (some ⟨pn, 0, none⟩), .pointer (some ⟨pt, 0, none⟩)] w (Left (Moved w base b S S.ca src.data.toList dst.data.toList f)) := by
  refine (rename_clo_at pd pn pt base b S s src dst f w hR hd hn ht hpd hpn hpt hf hne hst hst2 hl hl2 hsz hs1 hbase hlen).mono ?_
  rintro e w' ⟨k, rfl, h, m, s', _, h2⟩
  exact ⟨k, rfl, h, m, s', h2⟩

/-- Rename over what its closure does. -/
theorem rename_met (base b : Nat) (S : DM) (s : DS) (src dst : ByteArray) (w : World) (R : Int → World → Prop) (hR : Rep w base b S s) (hr : Runs S)
    (hcl : ∀ w1, Rep w1 base b { S with ca := S.ca + 1 } { s with ca := S.ca + 1 } → Turn [b] w w1 → w1.cell? ⟨w.heap.size, 0, none⟩ = some (theDisk b) → w1.cell? ⟨w.heap.size + 1, 0, none⟩ = some (.string src) → w1.cell? ⟨w.heap.size + 1 + 1, 0, none⟩ = some (.string dst) →
      Calls Tryz.prog 94 #[.pointer (some ⟨w.heap.size, 0, none⟩), .pointer (some ⟨w.heap.size + 1, 0, none⟩), .pointer (some ⟨w.heap.size + 1 + 1, 0, none⟩)] w1 (Left R)) :
    Calls Tryz.prog 68 #[theDisk b, .string src, .string dst] w (Left R) := by
  have hw : ∀ W, W = ((w.alloc (.cells #[theDisk b] 25)).alloc (.cells #[.string src] 9)).alloc (.cells #[.string dst] 9) →
      Calls Tryz.prog 51 #[theDisk b, .func (.func 94) #[] #[.pointer (some ⟨w.heap.size, 0, none⟩), .pointer (some ⟨w.heap.size + 1, 0, none⟩), .pointer (some ⟨w.heap.size + 1 + 1, 0, none⟩)]] W (Left R) := by
    rintro W rfl
    have ta : Turn [] w (w.alloc (.cells #[theDisk b] 25)) := (Turn.refl [] w).alloc _
    have tb : Turn [] (w.alloc (.cells #[theDisk b] 25)) ((w.alloc (.cells #[theDisk b] 25)).alloc (.cells #[.string src] 9)) := (Turn.refl [] _).alloc _
    have tc : Turn [] ((w.alloc (.cells #[theDisk b] 25)).alloc (.cells #[.string src] 9)) (((w.alloc (.cells #[theDisk b] 25)).alloc (.cells #[.string src] 9)).alloc (.cells #[.string dst] 9)) := (Turn.refl [] _).alloc _
    have t0 := (ta.trans tb).trans tc
    have hbl := hR.disk.lt
    refine write_run base b _ _ S s _ _ (hR.new t0) hr.dw hr.cr hr.fail hr.ca0 hr.ca1 hr.fl (enters_of Tryz.func94 (by kernel_rfl) rfl) ?_
    intro w1 hR1 t1
    have hpd : w1.cell? ⟨w.heap.size, 0, none⟩ = some (theDisk b) := box_at (((tb.trans tc).mono (by simp)).trans t1) (by simp; omega)
    have hpn : w1.cell? ⟨w.heap.size + 1, 0, none⟩ = some (.string src) := by
      have := box_at ((tc.mono (by simp)).trans t1) (by simp; omega)
      simpa using this
    have hpb : w1.cell? ⟨w.heap.size + 1 + 1, 0, none⟩ = some (.string dst) := by
      have := box_at t1 (by simp; omega)
      simpa using this
    exact hcl w1 hR1 ((t0.mono (by simp)).trans t1) hpd hpn hpb
  have hmf := hmf
  unfold theDisk at hw
  unfold theDisk
  clear hR hr hcl
  go_enter Tryz.func68, Tryz.ntmps68
  go_wp2_with fail
  refine (hw _ rfl).mono ?_
  rintro e w' ⟨k, rfl, hk⟩
  have HK := Lib.hid hk
  clear hk hw
  go_wp2
  go_ret
  exact ⟨k, rfl, HK.out⟩

theorem rename_ok (base b : Nat) (S : DM) (s : DS) (src dst : ByteArray) (f : FM) (w : World) (hR : Rep w base b S s) (hr : Runs S) (hf : S.files.find? (named src.data.toList) = some f) (hne : dst.toList.isEmpty = false) (hst : (src.toList == dst.toList) = false) (hst2 : src.data.toList ≠ dst.data.toList) (hl : src.size ≤ maxLen) (hl2 : dst.size ≤ maxLen)
    (hsz : s.sz = total S.files) (hs1 : total S.files < 1000000000) (hbase : base ≤ w.heap.size) (hlen : S.files.length < maxLen) :
    Calls Tryz.prog 68 #[theDisk b, .string src, .string dst] w (Left (Moved w base b S (S.ca + 1) src.data.toList dst.data.toList f)) := by
  have hlt := hR.lt
  refine rename_met base b S s src dst w _ hR hr ?_
  intro w1 hR1 t1 h1 h2 h3
  refine (rename_clo _ _ _ base b _ _ src dst f w1 hR1 h1 h2 h3 (fun h => by have := hlt _ h; omega) (fun h => by have := hlt _ h; omega) (fun h => by have := hlt _ h; omega) hf hne hst hst2 hl hl2 hsz hs1 (Nat.le_trans hbase t1.size) hlen).mono ?_
  rintro e w' ⟨k, rfl, hk, m, s', g1, g2, g3⟩
  exact ⟨k, rfl, hk, m, s', g1, g2, (t1.mono (by intro x hx; simp at hx; subst hx; simp [foot])).trans g3⟩

end Go.Proofs.YthglbmnhlnpmkaaGreat

namespace Go.Proofs.YthglbmnhlnpmkaaGreat
open Go.RowKit Go.Maps Go.Sort Go.WideMaps

/-- The disk is down. -/
theorem write_down (base b g : Nat) (cb : Array Value) (S : DM) (s : DS) (w : World) (hR : Rep w base b S s) (hdw : S.dw = true) :
    Calls Tryz.prog 51 #[theDisk b, .func (.func g) #[] cb] w fun e w' => e = .returned (.int .i64 7) ∧ w = w' := by
  have c8 := hR.disk.c8
  rw [hR.dw, hdw] at c8
  unfold theDisk
  clear hR
  go_enter Tryz.func51, Tryz.ntmps51
  go_wp2
  go_step3
  go_wp2_with fail
  go_step3
  go_wp2_with fail
  rw [Exit.noGoto_ret]
  go_ret
  exact ⟨rfl, rfl⟩

set_option maxRecDepth 100000 in
/-- The plan fails the call. -/
theorem write_io (base b g : Nat) (cb : Array Value) (S : DM) (s : DS) (w : World) (hR : Rep w base b S s) (hdw : S.dw = false) (hcr : S.ca + 1 ≠ S.cr) (hfail : S.fail.contains (S.ca + 1) = true) (hca0 : 0 ≤ S.ca) (hca1 : S.ca < 1000000) (hfl : S.fail.length < 1000000) :
    Calls Tryz.prog 51 #[theDisk b, .func (.func g) #[] cb] w fun e w' => e = .returned (.int .i64 6) ∧ Rep w' base b { S with ca := S.ca + 1 } { s with ca := S.ca + 1 } ∧ Turn [b] w w' := by
  have c8 := hR.disk.c8
  have c7 := hR.disk.c7
  have c3 := hR.disk.c3
  have c2 := hR.disk.c2
  have e7 := hR.disk.free 7
  rw [hR.dw, hdw] at c8
  rw [hR.ca] at c7
  rw [hR.cr] at c2
  have hb1 : ((S.ca + 1 : Int) == S.cr) = false := by simpa using hcr
  have hR1 := hR.count (S.ca + 1)
  have t1 : Turn [b] w (w.setCell ⟨b, 7, none⟩ (.int .i64 (S.ca + 1))) := (Turn.refl [b] w).set (.inl (by simp)) 7 _
  have HR := Lib.hid (And.intro hR1 t1)
  have HF := Lib.hid hfail
  have HL := Lib.hid hfl
  unfold theDisk
  clear hR hR1 t1 hfail hfl hcr
  go_enter Tryz.func51, Tryz.ntmps51
  go_wp2
  go_step3
  go_wp2_with fail
  go_step3
  go_wp2_with fail
  obtain ⟨hR1, t1⟩ := HR.out
  generalize w.setCell ⟨b, 7, none⟩ (.int .i64 (S.ca + 1)) = w1 at *
  clear HR c8 c7 c3 c2 e7
  have c7 := hR1.disk.c7
  have c2 := hR1.disk.c2
  rw [hR1.ca] at c7
  rw [hR1.cr] at c2
  have HR := Lib.hid (And.intro hR1 t1)
  clear hR1 t1
  simp only at c7 c2
  go_quiet (fail)
  go_wp2_with fail
  refine ((HR.out.1.new ((Turn.refl [] w1).drewN nq)).fails HL.out).mono ?_
  rintro e w2 ⟨rfl, n2, rfl⟩
  rw [show ({ S with ca := S.ca + 1 } : DM).fail.contains ({ S with ca := S.ca + 1 } : DM).ca = true from HF.out]
  rw [World.drewN_drewN]
  have HT : Hid (Rep (w1.drewN (nq + n2)) base b { S with ca := S.ca + 1 } { s with ca := S.ca + 1 } ∧ Turn [b] w (w1.drewN (nq + n2))) := Lib.hid ⟨HR.out.1.new ((Turn.refl [] w1).drewN _), HR.out.2.drewN _⟩
  generalize w1.drewN (nq + n2) = w2 at *
  clear HR c7 c2 HL HF hb1 hca0 hca1
  go_wp2_with fail
  rw [Exit.noGoto_ret]
  go_ret
  exact ⟨rfl, HT.out⟩

set_option maxRecDepth 100000 in
/-- The crash, at a call that is not done. -/
theorem write_crash (base b g : Nat) (cb : Array Value) (S : DM) (s : DS) (w : World) (hR : Rep w base b S s) (hdw : S.dw = false) (hcr : S.ca + 1 = S.cr) (hdn : S.dn = false) (hca0 : 0 ≤ S.ca) (hca1 : S.ca < 1000000) :
    Calls Tryz.prog 51 #[theDisk b, .func (.func g) #[] cb] w fun e w' => e = .returned (.int .i64 7) ∧ Rep w' base b { S with ca := S.ca + 1, dw := true } { s with ca := S.ca + 1, dw := true } ∧ Turn [b] w w' := by
  have c8 := hR.disk.c8
  have c7 := hR.disk.c7
  have c3 := hR.disk.c3
  have c2 := hR.disk.c2
  have e7 := hR.disk.free 7
  rw [hR.dw, hdw] at c8
  rw [hR.ca] at c7
  rw [hR.cr] at c2
  rw [hR.dn, hdn] at c3
  have hb1 : ((S.ca + 1 : Int) == S.cr) = true := by simpa using hcr
  have hR1 := hR.count (S.ca + 1)
  have t1 : Turn [b] w (w.setCell ⟨b, 7, none⟩ (.int .i64 (S.ca + 1))) := (Turn.refl [b] w).set (.inl (by simp)) 7 _
  have HR := Lib.hid (And.intro hR1 t1)
  unfold theDisk
  clear hR hR1 t1 hcr
  go_enter Tryz.func51, Tryz.ntmps51
  go_wp2
  go_step3
  go_wp2_with fail
  go_step3
  go_wp2_with fail
  obtain ⟨hR1, t1⟩ := HR.out
  generalize w.setCell ⟨b, 7, none⟩ (.int .i64 (S.ca + 1)) = w1 at *
  clear HR c8 c7 c3 c2 e7
  have c7 := hR1.disk.c7
  have c2 := hR1.disk.c2
  rw [hR1.ca] at c7
  rw [hR1.cr] at c2
  have HR := Lib.hid (And.intro hR1 t1)
  clear hR1 t1
  simp only at c7 c2
  go_quiet (fail)
  have hR2 := HR.out.1.new ((Turn.refl [] w1).drewN nq)
  have hT2 := HR.out.2.drewN nq
  generalize w1.drewN nq = w2 at *
  have c3 := hR2.disk.c3
  rw [hR2.dn] at c3
  simp only [hdn] at c3
  have e8 := hR2.disk.free 8
  have c8 := hR2.disk.c8
  rw [hR2.dw] at c8
  simp only [hdw] at c8
  have hR3 := hR2.own ((Turn.refl [b] w2).set (c := b) (.inl (by simp)) 8 (.bool true)) (S.ca + 1) s.sz true (hR2.disk.set8 true)
  have HD := Lib.hid (And.intro hR3 (hT2.set (c := b) (.inl (by simp)) 8 (.bool true)))
  clear hR2 hT2 hR3 HR c7 c2
  go_wp2_with fail
  go_ret
  exact ⟨rfl, HD.out⟩

set_option maxRecDepth 100000 in
/-- The crash, at a call that is done. -/
theorem write_done (base b g : Nat) (cb : Array Value) (S : DM) (s : DS) (R : Int → World → Prop) (w : World) (hR : Rep w base b S s) (hdw : S.dw = false) (hcr : S.ca + 1 = S.cr) (hdn : S.dn = true) (hca0 : 0 ≤ S.ca) (hca1 : S.ca < 1000000)
    (hent : ∀ (args : Array Value) (w : World), (callFunc g args).run Tryz.prog w = .ok (.enter g args) w)
    (hcl : ∀ w1, Rep w1 base b { S with ca := S.ca + 1, dw := true } { s with ca := S.ca + 1, dw := true } → Turn [b] w w1 → Calls Tryz.prog g cb w1 (Left R)) :
    Calls Tryz.prog 51 #[theDisk b, .func (.func g) #[] cb] w fun e w' => e = .returned (.int .i64 7) ∧ ∃ k, R k w' := by
  have c8 := hR.disk.c8
  have c7 := hR.disk.c7
  have c3 := hR.disk.c3
  have c2 := hR.disk.c2
  have e7 := hR.disk.free 7
  rw [hR.dw, hdw] at c8
  rw [hR.ca] at c7
  rw [hR.cr] at c2
  rw [hR.dn, hdn] at c3
  have hb1 : ((S.ca + 1 : Int) == S.cr) = true := by simpa using hcr
  have hR1 := hR.count (S.ca + 1)
  have t1 : Turn [b] w (w.setCell ⟨b, 7, none⟩ (.int .i64 (S.ca + 1))) := (Turn.refl [b] w).set (.inl (by simp)) 7 _
  have HR := Lib.hid (And.intro hR1 t1)
  have HC := Lib.hid hcl
  unfold theDisk
  clear hR hR1 t1 hcr hcl
  go_enter Tryz.func51, Tryz.ntmps51
  go_wp2
  go_step3
  go_wp2_with fail
  go_step3
  go_wp2_with fail
  obtain ⟨hR1, t1⟩ := HR.out
  generalize w.setCell ⟨b, 7, none⟩ (.int .i64 (S.ca + 1)) = w1 at *
  clear HR c8 c7 c3 c2 e7
  have c7 := hR1.disk.c7
  have c2 := hR1.disk.c2
  rw [hR1.ca] at c7
  rw [hR1.cr] at c2
  have HR := Lib.hid (And.intro hR1 t1)
  clear hR1 t1
  simp only at c7 c2
  go_quiet (fail)
  have hR2 := HR.out.1.new ((Turn.refl [] w1).drewN nq)
  have hT2 := HR.out.2.drewN nq
  generalize w1.drewN nq = w2 at *
  have c3 := hR2.disk.c3
  rw [hR2.dn] at c3
  simp only [hdn] at c3
  have e8 := hR2.disk.free 8
  have c8 := hR2.disk.c8
  rw [hR2.dw] at c8
  simp only [hdw] at c8
  have hR3 := hR2.own ((Turn.refl [b] w2).set (c := b) (.inl (by simp)) 8 (.bool true)) (S.ca + 1) s.sz true (hR2.disk.set8 true)
  have HD := Lib.hid (And.intro hR3 (hT2.set (c := b) (.inl (by simp)) 8 (.bool true)))
  clear hR2 hT2 hR3 HR c7 c2
  go_wp2_with fail
  refine (HC.out _ HD.out.1 HD.out.2).mono ?_
  rintro e w3 ⟨k, rfl, hk⟩
  have HK := Lib.hid hk
  clear hk HC HD hent c8 c3 e8
  go_wp2_with fail
  rw [Exit.noGoto_ret]
  go_ret
  exact ⟨rfl, k, HK.out⟩

end Go.Proofs.YthglbmnhlnpmkaaGreat
