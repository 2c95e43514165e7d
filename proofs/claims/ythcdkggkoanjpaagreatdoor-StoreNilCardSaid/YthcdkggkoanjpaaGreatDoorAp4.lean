/- Append, that is carried out: where its bytes lie then. Numbers and types by name. -/
import Derived.Test.YthcdkggkoanjpaaGreatDoorDrp
import Derived.Test.YthcdkggkoanjpaaGreatDoorBe4
import Derived.BigRegion
import Derived.RegionTactic
import Derived.ChangeAlike
import Derived.Maps.OwnSet
import Derived.Sort.KeysCollected
import Derived.WalkSpells
import Derived.Test.YthcdkggkoanjpaaGreatDoorWr2
import Derived.Test.YthcdkggkoanjpaaGreatDoorFil
import Derived.Test.YthcdkggkoanjpaaGreatDoorAp2
/- Rename, that is carried out. Numbers and types by name. -/
namespace Go.Proofs.YthcdkggkoanjpaaGreatDoor
open Go.RowKit Go.Maps Go.Sort Go.WideMaps
theorem without_none {k : List UInt8} {files : List FM} (h : files.find? (named k) = none) : without k files = files := by
  refine List.filter_eq_self.2 fun g hg => ?_
  have := List.find?_eq_none.1 h g hg
  simpa using this
theorem drop_any (base b : Nat) (S : DM) (s : DS) (name : ByteArray) (w : World) (hR : Rep w base b S s) (hl : name.size ≤ maxLen) (hsz : s.sz = total S.files) (hs1 : total S.files < 1000000000) (hbase : base ≤ w.heap.size) :
    Calls Tryz.prog 171 #[theDisk b, .string name] w fun e w' => e = .returned (.tuple #[]) ∧ ∃ s', Rep w' base b { S with files := without name.data.toList S.files } s' ∧ s'.sz = total (without name.data.toList S.files) ∧ Turn (foot b S) w w' := by
  cases hf : S.files.find? (named name.data.toList) with
  | some f => exact drop_some base b S s name f w hR hf hl hsz hs1 hbase
  | none =>
    refine (drop_none base b S s name w hR hf hl).mono ?_
    rintro e w' ⟨rfl, t⟩
    rw [without_none hf]
    exact ⟨rfl, s, hR.new t, hsz, t.mono (by simp)⟩
def renamed (src dst : List UInt8) (f : FM) (files : List FM) : List FM := without src (without dst files) ++ [{ f with name := dst }]
def MovedAt (w : World) (base b : Nat) (S : DM) (ca : Int) (src dst : List UInt8) (f : FM) (k : Int) (w' : World) : Prop :=
  k = 0 ∧ ∃ m s', (S.mp = some m ∨ w.heap.size ≤ m) ∧ Rep w' base b { S with ca := ca, files := renamed src dst f S.files, mp := some m } s' ∧ s'.sz = total (without dst S.files) ∧ Turn (foot b S) w w'
theorem find_keep {k x : List UInt8} {files : List FM} {f : FM} (h : files.find? (named k) = some f) (hne : k ≠ x) : (without x files).find? (named k) = some f := by
  rw [find_without, if_neg hne]; exact h
theorem apart_without {w : World} {base b : Nat} {S : DM} {s : DS} (h : Rep w base b S s) {f : FM} {k : List UInt8} (hf : S.files.find? (named k) = some f) : ∀ x ∈ f.foot, x ∉ foot b { S with files := without k S.files } := by
  obtain ⟨hmem, hnm⟩ := find_mem hf
  obtain ⟨hbf, hmf, hnd⟩ := h.apart2 f hmem
  intro x hx hm
  simp only [foot, List.mem_cons, List.mem_append, List.mem_flatMap, Option.mem_toList] at hm
  rcases hm with rfl | hm | ⟨g, hg, hgx⟩
  · exact hbf hx
  · exact hmf x hm hx
  · obtain ⟨hgm, hgn⟩ := mem_without hg
    have hne : g ≠ f := fun e => hgn (e ▸ hnm)
    have hp : ∀ (l : List FM), l.Pairwise (fun f g => ∀ k ∈ f.foot, k ∉ g.foot) → f ∈ l → g ∈ l → False := by
      intro l hl
      induction l with
      | nil => intro h; cases h
      | cons a t ih =>
        intro h1 h2
        obtain ⟨ha, ht⟩ := List.pairwise_cons.1 hl
        rcases List.mem_cons.1 h1 with rfl | h1'
        · rcases List.mem_cons.1 h2 with rfl | h2'
          · exact hne rfl
          · exact ha g h2' x hx hgx
        · rcases List.mem_cons.1 h2 with rfl | h2'
          · exact ha f h1' x hgx hx
          · exact ih ht h1' h2'
    exact hp _ h.apart3 hmem hgm
theorem step_delete {ops : Array Oper} {o : Oper} {a : Act} {w : World} {K : Act → World → Prop} {Q : Exit → Act → World → Prop} {E : Prop} (hgd : o.guard = none) (m x : Operand)
    (hop : o.op = Op.call { callee := Callee.builtin Builtin.delete, args := #[m, x], argTypes := #[74, 9] })
    (b n : Nat) (D : DataW Unit) (hm : a.eval m = .map (some b)) (hown : w.ownsMap Tryz.prog 9 Rp b n D) (key : Value) (kl : Lit) (hx : a.eval x = key) (hkey : keyOf Tryz.prog 9 key = some kl)
    (hK : ∀ w', w'.ownsMap Tryz.prog 9 Rp b n (D.del kl) → w.mapTurned w' b → K (a.put o.dst (.tuple #[])) w') :
    if Region.wanted o (yielded ops a.tmps) = true then Oper.wp Tryz.prog o a w K Q else E := by
  have hw : Region.wanted o (yielded ops a.tmps) = true := by simp [Region.wanted, hgd]
  rw [if_pos hw]
  obtain ⟨w', hrun, r1, r2⟩ := hown.drop law Tryz.underlying74 hkey o.type
  unfold Oper.wp execOp
  simp only [hop, resolve, invoke, builtin, Sem.run_bind, Sem.run_pure, Result.andThen_ok, List.map_toArray, List.map_cons, List.map_nil, hm, hx, hrun]
  exact hK w' r1 r2
theorem cell_turn {w w' : World} {F : List Nat} (t : Turn F w w') {p : Nat} (hp : p ∉ F) {v : Value} (h : w.cell? ⟨p, 0, none⟩ = some v) : w'.cell? ⟨p, 0, none⟩ = some v :=
  (World.cell?_of_block (t.block p (World.block_lt_of_cell? w _ h) hp)).trans h
theorem rename_mid {w2 w3 : World} {base b : Nat} {S : DM} {s : DS} {src : List UInt8} {f : FM} {m : Nat} (hR : Rep w2 base b S s) (hm : S.mp = some m) (hf : S.files.find? (named src) = some f) (t3 : Turn [m] w2 w3) (hM3 : MapAt w3 m (without src S.files)) (dst : ByteArray) (hl : dst.size ≤ maxLen)
    (hno : S.files.any (named dst.data.toList) = false) (hlen : S.files.length < maxLen) (hbase : base ≤ w2.heap.size) :
    Calls Tryz.prog 108 #[theDisk b, .string dst, .pointer (some ⟨f.blk, 0, none⟩)] w3 fun e w' => e = .returned (.tuple #[]) ∧ ∃ m' s', (S.mp = some m' ∨ w3.heap.size ≤ m') ∧ Rep w' base b { S with files := without src S.files ++ [{ f with name := dst.data.toList }], mp := some m' } s' ∧ s'.sz = s.sz ∧ Turn (b :: S.mp.toList) w3 w' := by
  obtain ⟨hmem, hnm⟩ := find_mem hf
  obtain ⟨hbf, hmf, hnd⟩ := hR.apart2 f hmem
  have hR3 := hR.without src m hm t3 hM3
  have hsub : ∀ x ∈ f.foot, x ∈ foot b S := fun x hx => by simp only [foot, List.mem_cons, List.mem_append, List.mem_flatMap]; exact .inr (.inr ⟨f, hmem, hx⟩)
  have hF3 : FileAt w3 base f := (hR.files f hmem).keep t3 (fun x hx => by simp only [List.mem_singleton]; rintro rfl; exact hmf _ hm hx)
  obtain ⟨ao, c, ao', c', g1, g2, g3, g4, g5, g6, g7, g8⟩ := hR.lists
  refine put_new_at base b { S with files := without src S.files } s dst { f with name := dst.data.toList } w3 hR3 rfl hl ?_ ?_ hF3 hnd (fun k hk => apart_without hR hf k hk) (fun k hk => hR.low k (hsub k hk)) (fun g hg hk => g7 g hg (hsub g hk)) (fun g hg hk => g8 g hg (hsub g hk)) (Nat.le_trans hbase t3.size)
  · exact Nat.lt_of_le_of_lt (List.length_filter_le _ _) hlen
  · show (without src S.files).any (named dst.data.toList) = false
    rw [any_without]
    split
    · rfl
    · exact hno
set_option maxRecDepth 100000 in
theorem rename_clo_at (pd pn pt base b : Nat) (S : DM) (s : DS) (src dst : ByteArray) (f : FM) (w : World) (hR : Rep w base b S s)
    (hd : w.cell? ⟨pd, 0, none⟩ = some (theDisk b)) (hn : w.cell? ⟨pn, 0, none⟩ = some (.string src)) (ht : w.cell? ⟨pt, 0, none⟩ = some (.string dst)) (hpd : pd ∉ foot b S) (hpn : pn ∉ foot b S) (hpt : pt ∉ foot b S)
    (hf : S.files.find? (named src.data.toList) = some f) (hne : dst.toList.isEmpty = false) (hst : (src.toList == dst.toList) = false) (hst2 : src.data.toList ≠ dst.data.toList) (hl : src.size ≤ maxLen) (hl2 : dst.size ≤ maxLen) (hsz : s.sz = total S.files) (hs1 : total S.files < 1000000000) (hbase : base ≤ w.heap.size) (hlen : S.files.length < maxLen) :
    Calls Tryz.prog 172 #[.pointer (some ⟨pd, 0, none⟩), .pointer (some ⟨pn, 0, none⟩), .pointer (some ⟨pt, 0, none⟩)] w (Left (MovedAt w base b S S.ca src.data.toList dst.data.toList f)) := by
  obtain ⟨hmem, hnm⟩ := find_mem hf
  obtain ⟨m, hm⟩ : ∃ m, S.mp = some m := by
    cases e : S.mp with
    | none => rw [hR.mapN e] at hmem; cases hmem
    | some m => exact ⟨m, rfl⟩
  have hlk : ∀ n, (Instr.lookup 74 s.fs (.string src) false).run Tryz.prog (w.drewN n) = .ok (.pointer (some ⟨f.blk, 0, none⟩)) (w.drewN n) := by
    intro n
    have := (hR.new ((Turn.refl [] w).drewN n)).look src hl
    rw [this]; simp [ptrOf, hf]
  have c5 := hR.disk.c5
  have hkey := keyOf_string_mk Tryz.underlying9 hl
  have HM := Lib.hid (And.intro hR (And.intro hm (And.intro hsz (And.intro hs1 (And.intro hbase (And.intro hf (And.intro hlen (And.intro hpd (And.intro hpn hpt)))))))))
  unfold theDisk at hd
  clear hR hm hsz hs1 hbase hf hlen hpd hpn hpt hmem hnm hl
  go_enter Tryz.func172, Tryz.ntmps172
  go_wp2_with fail
  go_quiet (fail)
  go_wp2_with fail
  have hRq := HM.out.1.new ((Turn.refl [] w).drewN nq)
  refine (drop_any base b S s dst (w.drewN nq) hRq hl2 HM.out.2.2.1 HM.out.2.2.2.1 HM.out.2.2.2.2.1).mono ?_
  rintro e w2 ⟨rfl, s2, hR2, hsz2, t2⟩
  have t02 : Turn (foot b S) w w2 := ((Turn.refl _ w).drewN nq).trans t2
  have kd : w2.cell? ⟨pd, 0, none⟩ = some (.pointer (some ⟨b, 0, none⟩)) := cell_turn t02 HM.out.2.2.2.2.2.2.2.1 hd
  have kn : w2.cell? ⟨pn, 0, none⟩ = some (.string src) := cell_turn t02 HM.out.2.2.2.2.2.2.2.2.1 hn
  have kt : w2.cell? ⟨pt, 0, none⟩ = some (.string dst) := cell_turn t02 HM.out.2.2.2.2.2.2.2.2.2 ht
  obtain ⟨D, hown2, h1, h2, h3⟩ := hR2.mapS m HM.out.2.1
  have d5 := hR2.disk.c5
  rw [hR2.fs] at d5
  rw [show ({ S with files := without dst.data.toList S.files } : DM).mp = some m from HM.out.2.1] at d5
  have HR2 := Lib.hid (And.intro hR2 (And.intro hsz2 (And.intro t02 (And.intro h1 (And.intro h2 h3)))))
  clear hRq hR2 hsz2 t2 t02 h1 h2 h3 hd hn ht c5 hlk
  go_wp2_with fail
  go_region_law (refine step_delete rfl (.tmp 24) (.tmp 25) rfl m _ D (by simp [Act.eval]) hown2 (.string src) _ (by simp [Act.eval]) hkey ?_; intro w3 hown3 hturn3)
  all_goals
    have t3 : Turn [m] w2 w3 := by
      have t := Turn.of_grown (F := [m]) hturn3.grown (by intro k e; cases e; simp)
      exact ⟨t.os, t.tape, t.output, t.size, t.block⟩
    obtain ⟨hR2, hsz2, t02, h1, h2, h3⟩ := HR2.out
    have hM3 : MapAt w3 m (without src.data.toList (without dst.data.toList S.files)) := MapAt.del _ hR2.names h1 h2 h3 (hown2.tidy law) hown3
    have hno : (without dst.data.toList S.files).any (named dst.data.toList) = false := by rw [any_without, if_pos rfl]
    have HP := Lib.hid (rename_mid hR2 HM.out.2.1 (find_keep HM.out.2.2.2.2.2.1 hst2) t3 hM3 dst hl2 hno (Nat.lt_of_le_of_lt (List.length_filter_le _ _) HM.out.2.2.2.2.2.2.1) (Nat.le_trans HM.out.2.2.2.2.1 t02.size))
    have hmS : m ∈ foot b S := by simp [foot, HM.out.2.1]
    have HT := Lib.hid (t02.trans (t3.mono (by intro x hx; simp at hx; subst hx; exact hmS)))
    have HZ := Lib.hid hsz2
    have kd3 : w3.cell? ⟨pd, 0, none⟩ = some (.pointer (some ⟨b, 0, none⟩)) := cell_turn t3 (by simp; rintro rfl; exact HM.out.2.2.2.2.2.2.2.1 hmS) kd
    have kt3 : w3.cell? ⟨pt, 0, none⟩ = some (.string dst) := cell_turn t3 (by simp; rintro rfl; exact HM.out.2.2.2.2.2.2.2.2.2 hmS) kt
    unfold theDisk at HP
    clear hown2 hown3 hturn3 hR2 hsz2 t02 h1 h2 h3 hM3 hno hmS t3 HR2 d5 kd kn kt hkey hne hst hst2 hl2
    go_wp2_with fail
    refine HP.out.mono ?_
    rintro e w4 ⟨rfl, m', s', r0, hR4, hs4, t4⟩
    have HE : Hid (MovedAt w base b S S.ca src.data.toList dst.data.toList f 0 w4) := Lib.hid ⟨rfl, m', s', r0.imp id (fun h => Nat.le_trans HT.out.size h), hR4, by rw [hs4]; exact HZ.out, HT.out.trans (t4.mono (by
      intro x hx
      simp only [List.mem_cons, Option.mem_toList] at hx
      simp only [foot, List.mem_cons, List.mem_append, Option.mem_toList]
      exact hx.imp id .inl))⟩
    clear r0 hR4 hs4 t4 HP HZ HT kd3 kt3 HM
    go_wp2_with fail
    go_ret
    exact ⟨0, rfl, HE.out⟩
end Go.Proofs.YthcdkggkoanjpaaGreatDoor

/- Append's closure. Numbers and types by name. -/
namespace Go.Proofs.YthcdkggkoanjpaaGreatDoor
open Go.RowKit Go.Maps Go.Sort Go.WideMaps
theorem append_walk (pd pn pb base b fb : Nat) (name : ByteArray) (vb : Value) (news : List Value) (fs : Value) (cap sz : Int) (ao : Option Addr) (n c : Nat) (xs : List Value) (w : World)
    (hd : w.cell? ⟨pd, 0, none⟩ = some (.pointer (some ⟨b, 0, none⟩))) (hn : w.cell? ⟨pn, 0, none⟩ = some (.string name)) (hb : w.cell? ⟨pb, 0, none⟩ = some vb)
    (c5 : w.cell? ⟨b, 5, none⟩ = some fs) (c0 : w.cell? ⟨b, 0, none⟩ = some (.int .i64 cap)) (c6 : w.cell? ⟨b, 6, none⟩ = some (.int .i64 sz)) (e6 : w.frozen? ⟨b, 6, none⟩ = false)
    (f0 : w.cell? ⟨fb, 0, none⟩ = some (.slice ao n c)) (g0 : w.frozen? ⟨fb, 0, none⟩ = false)
    (hlk : ∀ n, (Instr.lookup 74 fs (.string name) false).run Tryz.prog (w.drewN n) = .ok (.pointer (some ⟨fb, 0, none⟩)) (w.drewN n))
    (hown : w.ownsRow base 5 1 (.slice ao n c) n xs) (hr : Reads w vb news) (h1 : ∀ u ∈ news, u.oneCell' = true) (hrow : ∀ g, (Value.slice ao n c).ownBlock = some g → g ≠ b ∧ g ≠ fb ∧ g ≠ pd ∧ g ≠ pb) (hbf : b ≠ fb) (hdb : pd ≠ fb) (hpb : pb ≠ fb)
    (h63 : Hid (n + news.length ≤ maxLen)) (hbytes : Hid ((n + news.length) * 1 ≤ 140737488355328)) (hbase : base ≤ w.heap.size) (hs0 : 0 ≤ sz) (hs1 : sz + news.length < 1000000000) (hcap : sz + news.length ≤ cap) :
    Calls Tryz.prog 61 #[.pointer (some ⟨pd, 0, none⟩), .pointer (some ⟨pn, 0, none⟩), .pointer (some ⟨pb, 0, none⟩)] w fun e w' => e = .returned (.int .i64 0) ∧ ∃ ao' c' w1 n1,
      w1.ownsRow base 5 1 (.slice ao' (n + news.length) c') (n + news.length) (xs ++ news) ∧ w.grownBy w1 (Value.slice ao n c).ownBlock ∧ ((Value.slice ao' (n + news.length) c').ownBlock = (Value.slice ao n c).ownBlock ∨ (Value.slice ao' (n + news.length) c').ownBlock = some w.heap.size) ∧
      w' = (((w1.setCell ⟨fb, 0, none⟩ (.slice ao' (n + news.length) c')).setCell ⟨b, 6, none⟩ (.int .i64 (sz + news.length))).drewN n1) := by
  have hvb : ∃ aob cb, vb = .slice aob news.length cb := by obtain ⟨aob, cb, rfl, _⟩ := hr; exact ⟨aob, cb, rfl⟩
  obtain ⟨aob, cb, rfl⟩ := hvb
  have HROW := Lib.hid hrow
  have HCAP : (decide (cap < sz + (news.length : Int))) = false := by simp; omega
  clear hrow
  go_enter Tryz.func61, Tryz.ntmps61
  go_wp2
  go_quiet (fail)
  go_wp2
  go_quiet (fail)
  go_wp2
  rw [World.drewN_drewN]
  rename_i nq1
  have hfb : some fb ≠ (Value.slice ao n c).ownBlock := fun e => (HROW.out fb e.symm).2.1 rfl
  have hbb : some b ≠ (Value.slice ao n c).ownBlock := fun e => (HROW.out b e.symm).1 rfl
  have hpdb : some pd ≠ (Value.slice ao n c).ownBlock := fun e => (HROW.out pd e.symm).2.2.1 rfl
  have hpbb : some pb ≠ (Value.slice ao n c).ownBlock := fun e => (HROW.out pb e.symm).2.2.2 rfl
  have hfl : fb < w.heap.size := World.block_lt_of_cell? w _ f0
  have hbl : b < w.heap.size := World.block_lt_of_cell? w _ c6
  go_region_law (refine step_append_reads rfl (.tmp 30) (.tmp 31) rfl base (.slice ao n c) n xs (by simp [Act.eval]) hown (.slice aob news.length cb) news (by simp [Act.eval]) hr h1 h63 hbytes hbase ?_; intro ao' c' w1 hown1 hgrow1 hat; have f0' := hgrow1.cell (a := ⟨fb, 0, none⟩) f0 hfb; have g0' := (hgrow1.frozen_far ⟨fb, 0, none⟩ hfl hfb).trans g0)
  all_goals
    have hg : w.grownBy w1 (Value.slice ao n c).ownBlock := ⟨hgrow1.os, hgrow1.tape, hgrow1.output, hgrow1.size, hgrow1.block⟩
    have hat' : (Value.slice ao' (n + news.length) c').ownBlock = (Value.slice ao n c).ownBlock ∨ (Value.slice ao' (n + news.length) c').ownBlock = some w.heap.size := hat
    have c6' := hg.cell (a := ⟨b, 6, none⟩) c6 hbb
    have e6' := (hg.frozen_far ⟨b, 6, none⟩ hbl hbb).trans e6
    have hd' := hg.cell (a := ⟨pd, 0, none⟩) hd hpdb
    have hb' := hg.cell (a := ⟨pb, 0, none⟩) hb hpbb
    have HA := Lib.hid (And.intro hown1 (And.intro hg hat'))
    clear hgrow1 hat hown1 hat' hg hown hr h1 hfl hbl hfb hbb hpdb hpbb
    have n1 : ¬ b = fb := hbf
    have n2 : ¬ pd = fb := hdb
    have n3 : ¬ pb = fb := hpb
    have n4 : ¬ fb = b := fun e => hbf e.symm
    go_wp2
    go_region
    all_goals go_wp2
    all_goals go_ret
    all_goals exact ⟨rfl, ao', c', w1, 1, HA.out.1, HA.out.2.1, HA.out.2.2, rfl⟩
end Go.Proofs.YthcdkggkoanjpaaGreatDoor

namespace Go.Proofs.YthcdkggkoanjpaaGreatDoor
open Go.RowKit Go.Maps Go.Sort Go.WideMaps
def LongerAt (w : World) (base b : Nat) (S : DM) (s : DS) (ca : Int) (f : FM) (name l : List UInt8) (k : Int) (w' : World) : Prop :=
  k = 0 ∧ ∃ row s', Rep w' base b { S with ca := ca, files := mapF name (addTo l row) S.files } s' ∧ s'.sz = s.sz + l.length ∧ Turn (foot b S) w w' ∧ (row = f.row ∨ ∃ g, row = some g ∧ w.heap.size ≤ g)
theorem append_clo_at (pd pn pb base b : Nat) (S : DM) (s : DS) (name : ByteArray) (vb : Value) (l : List UInt8) (f : FM) (w : World) (hR : Rep w base b S s)
    (hd : w.cell? ⟨pd, 0, none⟩ = some (theDisk b)) (hn : w.cell? ⟨pn, 0, none⟩ = some (.string name)) (hb : w.cell? ⟨pb, 0, none⟩ = some vb) (hpd : pd ∉ foot b S) (hpb : pb ∉ foot b S)
    (hf : S.files.find? (named name.data.toList) = some f) (hl : name.size ≤ maxLen) (hr : Reads w vb (bv l)) (hsz : s.sz = total S.files) (hs1 : total S.files + l.length < 1000000000) (hcap : (total S.files : Int) + l.length ≤ S.cap) (hbase : base ≤ w.heap.size) (hfl : f.bytes.length ≤ total S.files) :
    Calls Tryz.prog 61 #[.pointer (some ⟨pd, 0, none⟩), .pointer (some ⟨pn, 0, none⟩), .pointer (some ⟨pb, 0, none⟩)] w (Left (LongerAt w base b S s S.ca f name.data.toList l)) := by
  obtain ⟨hmem, hnm⟩ := find_mem hf
  obtain ⟨ao, c, hfc, hown, hrow, hsy⟩ := (hR.files f hmem).own
  obtain ⟨hbf, hmf, hnd⟩ := hR.apart2 f hmem
  have hsub : ∀ x ∈ f.foot, x ∈ foot b S := fun x hx => by simp only [foot, List.mem_cons, List.mem_append, List.mem_flatMap]; exact .inr (.inr ⟨f, hmem, hx⟩)
  have hblk : f.blk ∈ f.foot := by simp [FM.foot]
  have hbb : b ≠ f.blk := fun e => hbf (e ▸ hblk)
  have hrw : ∀ g, f.row = some g → g ∈ f.foot ∧ g ≠ f.blk := by
    intro g hg
    refine ⟨by simp [FM.foot, hg], ?_⟩
    rintro rfl
    simp [FM.foot, hg] at hnd
  have hlk : ∀ n, (Instr.lookup 74 s.fs (.string name) false).run Tryz.prog (w.drewN n) = .ok (.pointer (some ⟨f.blk, 0, none⟩)) (w.drewN n) := by
    intro n
    have := (hR.new ((Turn.refl [] w).drewN n)).look name hl
    rw [this]; simp [ptrOf, hf]
  have c0 := hR.disk.c0
  rw [hR.cap] at c0
  have hbl := bv_length l
  refine (append_walk pd pn pb base b f.blk name vb (bv l) s.fs S.cap s.sz ao f.bytes.length c (bv f.bytes) w hd hn hb hR.disk.c5 c0 hR.disk.c6 (hR.disk.free 6) hfc.c0 (hfc.free 0) hlk hown hr (bv_one l) ?_ hbb ?_ ?_ ?_ ?_ hbase (by omega) (by rw [hbl]; omega) (by rw [hbl]; omega)).mono ?_
  · intro g hg
    obtain ⟨h1, h2⟩ := hrw g (hrow.symm.trans hg)
    exact ⟨fun e => hbf (e ▸ h1), h2, fun e => hpd (e ▸ hsub g h1), fun e => hpb (e ▸ hsub g h1)⟩
  · rintro rfl; exact hpd (hsub _ hblk)
  · rintro rfl; exact hpb (hsub _ hblk)
  · exact Lib.hid (by rw [hbl]; unfold maxLen; omega)
  · exact Lib.hid (by rw [hbl]; omega)
  rintro e w' ⟨rfl, ao', c', w1, n1, hown1, hg1, hat, rfl⟩
  rw [hbl] at hown1 hat
  have t1 : Turn f.row.toList w w1 := Turn.of_grown hg1 (fun k hk => by simpa using hrow.symm.trans hk)
  have hd1 : DiskC w1 b s := hR.disk.turn t1 (fun hx => by
    have := hrw b (by simpa using hx)
    exact hbf this.1)
  have hf1 : FileC w1 f.blk (.slice ao f.bytes.length c) f.sy := hfc.turn t1 (fun hx => (hrw _ (by simpa using hx)).2 rfl)
  have hnew : ∀ g, (Value.slice ao' (f.bytes.length + l.length) c').ownBlock = some g → g ≠ b ∧ g ≠ f.blk := by
    intro g hg
    rcases hat with e | e
    · rw [e, hrow] at hg
      obtain ⟨h1, h2⟩ := hrw g hg
      exact ⟨fun e => hbf (e ▸ h1), h2⟩
    · rw [e] at hg
      have h1 := hR.disk.lt
      have h2 := hfc.lt
      simp at hg
      omega
  rw [bv_length]
  have hf2 := hf1.set0 (.slice ao' (f.bytes.length + l.length) c')
  have hd2 := (hd1.setNe hbb 0 (.slice ao' (f.bytes.length + l.length) c')).set6 (s.sz + l.length)
  have hf3 : FileC ((w1.setCell ⟨f.blk, 0, none⟩ (.slice ao' (f.bytes.length + l.length) c')).setCell ⟨b, 6, none⟩ (.int .i64 (s.sz + l.length))) f.blk (.slice ao' (f.bytes.length + l.length) c') f.sy := hf2.setNe (fun e => hbb e.symm) 6 _
  have t2 : Turn [f.blk, b] w1 ((w1.setCell ⟨f.blk, 0, none⟩ (.slice ao' (f.bytes.length + l.length) c')).setCell ⟨b, 6, none⟩ (.int .i64 (s.sz + l.length))) := ((Turn.refl _ w1).set (.inl (by simp)) 0 _).set (.inl (by simp)) 6 _
  have t3 : Turn (b :: f.foot) w ((w1.setCell ⟨f.blk, 0, none⟩ (.slice ao' (f.bytes.length + l.length) c')).setCell ⟨b, 6, none⟩ (.int .i64 (s.sz + l.length))) :=
    (t1.mono (by intro x hx; simp only [FM.foot, List.mem_cons]; exact .inr (.inr hx))).trans (t2.mono (by intro x hx; simp at hx; rcases hx with rfl | rfl <;> simp [FM.foot]))
  refine ⟨0, rfl, rfl, (Value.slice ao' (f.bytes.length + l.length) c').ownBlock, { s with sz := s.sz + l.length }, ?_, rfl, ?_⟩
  · have := hR.file t3 f (by rw [hnm]; exact hf) (addTo l (Value.slice ao' (f.bytes.length + l.length) c').ownBlock) (fun _ => rfl) (fun _ => rfl) (by intro x hx; simpa using hx) ?_ ?_ (s.sz + l.length) hd2 hbase
    · rw [hnm] at this
      exact this.new ((Turn.refl [] _).drewN n1)
    · refine ⟨ao', c', by simpa [addTo] using hf3, ?_, by simp [addTo], by simp [addTo]; omega⟩
      have : bv (f.bytes ++ l) = bv f.bytes ++ bv l := by simp [bv]
      simp only [addTo, List.length_append, this]
      exact owns_turn hown1 t2 (fun g hg => by have := hnew g hg; simp [this])
    · rcases hat with e | e
      · exact .inl (e.trans hrow)
      · exact .inr ⟨_, e, Nat.le_refl _⟩
  · refine ⟨(t3.mono (by intro x hx; rcases List.mem_cons.1 hx with rfl | hx; simp [foot]; exact hsub x hx)).drewN n1, ?_⟩
    rcases hat with e | e
    · exact .inl (e.trans hrow)
    · exact .inr ⟨_, e, Nat.le_refl _⟩
end Go.Proofs.YthcdkggkoanjpaaGreatDoor
