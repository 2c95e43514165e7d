/- The closures of the writing calls, against the document's disk. Numbers and types by name. -/
import Derived.Test.YthcdkggkoanjpaaGreatDoorMov
import Derived.BigRegion
import Derived.RegionTactic
import Derived.ChangeAlike
import Derived.Maps.OwnSet
import Derived.Sort.KeysCollected
import Derived.WalkSpells
import Derived.Test.YthcdkggkoanjpaaGreatDoorCut
import Derived.Test.YthcdkggkoanjpaaGreatDoorFil
import Derived.Test.YthcdkggkoanjpaaGreatDoorAp2
import Derived.Test.YthcdkggkoanjpaaGreatDoorRen
import Derived.Test.YthcdkggkoanjpaaGreatDoorClo
import Derived.Test.YthcdkggkoanjpaaGreatDoorCd
namespace Go.Proofs.YthcdkggkoanjpaaGreatDoor
open Go.RowKit Go.Maps Go.Sort Go.WideMaps
theorem append_walk (pd pn pb base b fb : Nat) (name : ByteArray) (vb : Value) (news : List Value) (fs : Value) (cap sz : Int) (ao : Option Addr) (n c : Nat) (xs : List Value) (w : World)
    (hd : w.cell? ⟨pd, 0, none⟩ = some (.pointer (some ⟨b, 0, none⟩))) (hn : w.cell? ⟨pn, 0, none⟩ = some (.string name)) (hb : w.cell? ⟨pb, 0, none⟩ = some vb)
    (c5 : w.cell? ⟨b, 5, none⟩ = some fs) (c0 : w.cell? ⟨b, 0, none⟩ = some (.int .i64 cap)) (c6 : w.cell? ⟨b, 6, none⟩ = some (.int .i64 sz)) (e6 : w.frozen? ⟨b, 6, none⟩ = false)
    (f0 : w.cell? ⟨fb, 0, none⟩ = some (.slice ao n c)) (g0 : w.frozen? ⟨fb, 0, none⟩ = false)
    (hlk : ∀ n, (Instr.lookup 74 fs (.string name) false).run Tryz.prog (w.drewN n) = .ok (.pointer (some ⟨fb, 0, none⟩)) (w.drewN n))
    (hown : w.ownsRow base 5 1 (.slice ao n c) n xs) (hr : Reads w vb news) (h1 : ∀ u ∈ news, u.oneCell' = true) (hrow : ∀ g, (Value.slice ao n c).ownBlock = some g → g ≠ b ∧ g ≠ fb ∧ g ≠ pd ∧ g ≠ pb) (hbf : b ≠ fb) (hdb : pd ≠ fb) (hpb : pb ≠ fb)
    (h63 : Hid (n + news.length ≤ maxLen)) (hbytes : Hid ((n + news.length) * 1 ≤ 140737488355328)) (hbase : base ≤ w.heap.size) (hs0 : 0 ≤ sz) (hs1 : sz + news.length < 1000000000) (hcap : sz + news.length ≤ cap) :
    Calls Tryz.prog 61 #[.pointer (some ⟨pd, 0, none⟩), .pointer (some ⟨pn, 0, none⟩), .pointer (some ⟨pb, 0, none⟩)] w fun e w' => e = .returned (.int .i64 0) ∧ ∃ ao' c' w1 n1,
      w1.ownsRow base 5 1 (.slice ao' (n + news.length) c') (n + news.length) (xs ++ news) ∧ w.grownBy w1 (Value.slice ao n c).ownBlock ∧ ((Value.slice ao' (n + news.length) c').ownBlock = (Value.slice ao n c).ownBlock ∨ (Value.slice ao' (n + news.length) c').ownBlock = some w.heap.size) ∧
      w' = (((w1.setCell ⟨fb, 0, none⟩ (.slice ao' (n + news.length) c')).setCell ⟨b, 6, none⟩ (.int .i64 (sz + news.length))).drewN n1) := by
  have hvb : ∃ aob cb, vb = .slice aob news.length cb := by obtain ⟨aob, cb, rfl, _⟩ := hr; exact ⟨aob, cb, rfl⟩
  obtain ⟨aob, cb, rfl⟩ := hvb
  have HROW := Lib.hid hrow
  have HCAP : (decide (cap < sz + (news.length : Int))) = false := by simp; omega
  clear hrow
  go_enter Tryz.func61, Tryz.ntmps61
  go_wp2
  go_quiet (fail)
  go_wp2
  go_quiet (fail)
  go_wp2
  rw [World.drewN_drewN]
  rename_i nq1
  have hfb : some fb ≠ (Value.slice ao n c).ownBlock := fun e => (HROW.out fb e.symm).2.1 rfl
  have hbb : some b ≠ (Value.slice ao n c).ownBlock := fun e => (HROW.out b e.symm).1 rfl
  have hpdb : some pd ≠ (Value.slice ao n c).ownBlock := fun e => (HROW.out pd e.symm).2.2.1 rfl
  have hpbb : some pb ≠ (Value.slice ao n c).ownBlock := fun e => (HROW.out pb e.symm).2.2.2 rfl
  have hfl : fb < w.heap.size := World.block_lt_of_cell? w _ f0
  have hbl : b < w.heap.size := World.block_lt_of_cell? w _ c6
  go_region_law (refine step_append_reads rfl (.tmp 30) (.tmp 31) rfl base (.slice ao n c) n xs (by simp [Act.eval]) hown (.slice aob news.length cb) news (by simp [Act.eval]) hr h1 h63 hbytes hbase ?_; intro ao' c' w1 hown1 hgrow1 hat; have f0' := hgrow1.cell (a := ⟨fb, 0, none⟩) f0 hfb; have g0' := (hgrow1.frozen_far ⟨fb, 0, none⟩ hfl hfb).trans g0)
  all_goals
    have hg : w.grownBy w1 (Value.slice ao n c).ownBlock := ⟨hgrow1.os, hgrow1.tape, hgrow1.output, hgrow1.size, hgrow1.block⟩
    have hat' : (Value.slice ao' (n + news.length) c').ownBlock = (Value.slice ao n c).ownBlock ∨ (Value.slice ao' (n + news.length) c').ownBlock = some w.heap.size := hat
    have c6' := hg.cell (a := ⟨b, 6, none⟩) c6 hbb
    have e6' := (hg.frozen_far ⟨b, 6, none⟩ hbl hbb).trans e6
    have hd' := hg.cell (a := ⟨pd, 0, none⟩) hd hpdb
    have hb' := hg.cell (a := ⟨pb, 0, none⟩) hb hpbb
    have HA := Lib.hid (And.intro hown1 (And.intro hg hat'))
    clear hgrow1 hat hown1 hat' hg hown hr h1 hfl hbl hfb hbb hpdb hpbb
    have n1 : ¬ b = fb := hbf
    have n2 : ¬ pd = fb := hdb
    have n3 : ¬ pb = fb := hpb
    have n4 : ¬ fb = b := fun e => hbf e.symm
    go_wp2
    go_region
    all_goals go_wp2
    all_goals go_ret
    all_goals exact ⟨rfl, ao', c', w1, 1, HA.out.1, HA.out.2.1, HA.out.2.2, rfl⟩
end Go.Proofs.YthcdkggkoanjpaaGreatDoor
namespace Go.Proofs.YthcdkggkoanjpaaGreatDoor
open Go.RowKit Go.Maps Go.Sort Go.WideMaps
def LongerAt (w : World) (base b : Nat) (S : DM) (s : DS) (ca : Int) (f : FM) (name l : List UInt8) (k : Int) (w' : World) : Prop :=
  k = 0 ∧ ∃ row s', Rep w' base b { S with ca := ca, files := mapF name (addTo l row) S.files } s' ∧ s'.sz = s.sz + l.length ∧ Turn (foot b S) w w' ∧ (row = f.row ∨ ∃ g, row = some g ∧ w.heap.size ≤ g)
theorem append_clo_at (pd pn pb base b : Nat) (S : DM) (s : DS) (name : ByteArray) (vb : Value) (l : List UInt8) (f : FM) (w : World) (hR : Rep w base b S s)
    (hd : w.cell? ⟨pd, 0, none⟩ = some (theDisk b)) (hn : w.cell? ⟨pn, 0, none⟩ = some (.string name)) (hb : w.cell? ⟨pb, 0, none⟩ = some vb) (hpd : pd ∉ foot b S) (hpb : pb ∉ foot b S)
    (hf : S.files.find? (named name.data.toList) = some f) (hl : name.size ≤ maxLen) (hr : Reads w vb (bv l)) (hsz : s.sz = total S.files) (hs1 : total S.files + l.length < 1000000000) (hcap : (total S.files : Int) + l.length ≤ S.cap) (hbase : base ≤ w.heap.size) (hfl : f.bytes.length ≤ total S.files) :
    Calls Tryz.prog 61 #[.pointer (some ⟨pd, 0, none⟩), .pointer (some ⟨pn, 0, none⟩), .pointer (some ⟨pb, 0, none⟩)] w (Left (LongerAt w base b S s S.ca f name.data.toList l)) := by
  obtain ⟨hmem, hnm⟩ := find_mem hf
  obtain ⟨ao, c, hfc, hown, hrow, hsy⟩ := (hR.files f hmem).own
  obtain ⟨hbf, hmf, hnd⟩ := hR.apart2 f hmem
  have hsub : ∀ x ∈ f.foot, x ∈ foot b S := fun x hx => by simp only [foot, List.mem_cons, List.mem_append, List.mem_flatMap]; exact .inr (.inr ⟨f, hmem, hx⟩)
  have hblk : f.blk ∈ f.foot := by simp [FM.foot]
  have hbb : b ≠ f.blk := fun e => hbf (e ▸ hblk)
  have hrw : ∀ g, f.row = some g → g ∈ f.foot ∧ g ≠ f.blk := by
    intro g hg
    refine ⟨by simp [FM.foot, hg], ?_⟩
    rintro rfl
    simp [FM.foot, hg] at hnd
  have hlk : ∀ n, (Instr.lookup 74 s.fs (.string name) false).run Tryz.prog (w.drewN n) = .ok (.pointer (some ⟨f.blk, 0, none⟩)) (w.drewN n) := by
    intro n
    have := (hR.new ((Turn.refl [] w).drewN n)).look name hl
    rw [this]; simp [ptrOf, hf]
  have c0 := hR.disk.c0
  rw [hR.cap] at c0
  have hbl := bv_length l
  refine (append_walk pd pn pb base b f.blk name vb (bv l) s.fs S.cap s.sz ao f.bytes.length c (bv f.bytes) w hd hn hb hR.disk.c5 c0 hR.disk.c6 (hR.disk.free 6) hfc.c0 (hfc.free 0) hlk hown hr (bv_one l) ?_ hbb ?_ ?_ ?_ ?_ hbase (by omega) (by rw [hbl]; omega) (by rw [hbl]; omega)).mono ?_
  · intro g hg
    obtain ⟨h1, h2⟩ := hrw g (hrow.symm.trans hg)
    exact ⟨fun e => hbf (e ▸ h1), h2, fun e => hpd (e ▸ hsub g h1), fun e => hpb (e ▸ hsub g h1)⟩
  · rintro rfl; exact hpd (hsub _ hblk)
  · rintro rfl; exact hpb (hsub _ hblk)
  · exact Lib.hid (by rw [hbl]; unfold maxLen; omega)
  · exact Lib.hid (by rw [hbl]; omega)
  rintro e w' ⟨rfl, ao', c', w1, n1, hown1, hg1, hat, rfl⟩
  rw [hbl] at hown1 hat
  have t1 : Turn f.row.toList w w1 := Turn.of_grown hg1 (fun k hk => by simpa using hrow.symm.trans hk)
  have hd1 : DiskC w1 b s := hR.disk.turn t1 (fun hx => by
    have := hrw b (by simpa using hx)
    exact hbf this.1)
  have hf1 : FileC w1 f.blk (.slice ao f.bytes.length c) f.sy := hfc.turn t1 (fun hx => (hrw _ (by simpa using hx)).2 rfl)
  have hnew : ∀ g, (Value.slice ao' (f.bytes.length + l.length) c').ownBlock = some g → g ≠ b ∧ g ≠ f.blk := by
    intro g hg
    rcases hat with e | e
    · rw [e, hrow] at hg
      obtain ⟨h1, h2⟩ := hrw g hg
      exact ⟨fun e => hbf (e ▸ h1), h2⟩
    · rw [e] at hg
      have h1 := hR.disk.lt
      have h2 := hfc.lt
      simp at hg
      omega
  rw [bv_length]
  have hf2 := hf1.set0 (.slice ao' (f.bytes.length + l.length) c')
  have hd2 := (hd1.setNe hbb 0 (.slice ao' (f.bytes.length + l.length) c')).set6 (s.sz + l.length)
  have hf3 : FileC ((w1.setCell ⟨f.blk, 0, none⟩ (.slice ao' (f.bytes.length + l.length) c')).setCell ⟨b, 6, none⟩ (.int .i64 (s.sz + l.length))) f.blk (.slice ao' (f.bytes.length + l.length) c') f.sy := hf2.setNe (fun e => hbb e.symm) 6 _
  have t2 : Turn [f.blk, b] w1 ((w1.setCell ⟨f.blk, 0, none⟩ (.slice ao' (f.bytes.length + l.length) c')).setCell ⟨b, 6, none⟩ (.int .i64 (s.sz + l.length))) := ((Turn.refl _ w1).set (.inl (by simp)) 0 _).set (.inl (by simp)) 6 _
  have t3 : Turn (b :: f.foot) w ((w1.setCell ⟨f.blk, 0, none⟩ (.slice ao' (f.bytes.length + l.length) c')).setCell ⟨b, 6, none⟩ (.int .i64 (s.sz + l.length))) :=
    (t1.mono (by intro x hx; simp only [FM.foot, List.mem_cons]; exact .inr (.inr hx))).trans (t2.mono (by intro x hx; simp at hx; rcases hx with rfl | rfl <;> simp [FM.foot]))
  refine ⟨0, rfl, rfl, (Value.slice ao' (f.bytes.length + l.length) c').ownBlock, { s with sz := s.sz + l.length }, ?_, rfl, ?_⟩
  · have := hR.file t3 f (by rw [hnm]; exact hf) (addTo l (Value.slice ao' (f.bytes.length + l.length) c').ownBlock) (fun _ => rfl) (fun _ => rfl) (by intro x hx; simpa using hx) ?_ ?_ (s.sz + l.length) hd2 hbase
    · rw [hnm] at this
      exact this.new ((Turn.refl [] _).drewN n1)
    · refine ⟨ao', c', by simpa [addTo] using hf3, ?_, by simp [addTo], by simp [addTo]; omega⟩
      have : bv (f.bytes ++ l) = bv f.bytes ++ bv l := by simp [bv]
      simp only [addTo, List.length_append, this]
      exact owns_turn hown1 t2 (fun g hg => by have := hnew g hg; simp [this])
    · rcases hat with e | e
      · exact .inl (e.trans hrow)
      · exact .inr ⟨_, e, Nat.le_refl _⟩
  · refine ⟨(t3.mono (by intro x hx; rcases List.mem_cons.1 hx with rfl | hx; simp [foot]; exact hsub x hx)).drewN n1, ?_⟩
    rcases hat with e | e
    · exact .inl (e.trans hrow)
    · exact .inr ⟨_, e, Nat.le_refl _⟩
end Go.Proofs.YthcdkggkoanjpaaGreatDoor
namespace Go.Proofs.YthcdkggkoanjpaaGreatDoor
open Go.RowKit Go.Maps Go.Sort Go.WideMaps
theorem name_nil {name : ByteArray} (h : name.data.toList = []) : name = ⟨#[]⟩ := by
  have h3 : name.data = #[] := by
    rw [← Array.toList_inj]
    simpa using h
  cases name
  simp only at h3
  rw [h3]
theorem name_empty (name : ByteArray) : name.toList.isEmpty = decide (name.data.toList = []) := by
  rw [ByteArray.toList_eq]
  cases name.data.toList <;> simp
theorem name_eq {a b : ByteArray} (h : a.data.toList = b.data.toList) : a = b := by
  cases a; cases b
  simp only at h
  rw [Array.toList_inj.1 h]
theorem name_beq (a b : ByteArray) : (a.toList == b.toList) = decide (a.data.toList = b.data.toList) := by
  rw [ByteArray.toList_eq, ByteArray.toList_eq, Bool.eq_iff_iff]
  simp
theorem next_cc {w w' : World} {base b : Nat} {M : MD} {S : DM} {s' : DS} {fs' : List Ent} {x : List FM} {y : Option Nat} (h0 : base ≤ w.heap.size) (hf' : Fit fs') (hR' : Rep w' base b { S with files := x, mp := y } s') (hs' : s'.sz = total x)
    (hp' : (x.map view).Perm fs') (hP : Pl S M) (hfoot : ∀ k ∈ foot b { S with files := x, mp := y }, k ∈ foot b S ∨ w.heap.size ≤ k) (t : Turn (foot b S) w w') : Next w w' base b { M with fs := fs' } (footAll b S) := by
  refine ⟨footAll b { S with files := x, mp := y }, ⟨Nat.le_trans h0 t.size, hf', _, s', hR', hs', hp', ⟨hP.cap, hP.cr, hP.ca, hP.dn, hP.dw, hP.fail, hP.keep, hP.n0⟩, rfl⟩, fun k hk => ?_, t.mono fun k hk => mem_footAll.2 (.inl hk)⟩
  rcases mem_footAll.1 hk with hk | hk
  · exact (hfoot k hk).imp (fun h => mem_footAll.2 (.inl h)) id
  · exact .inl (mem_footAll.2 (.inr hk))
theorem mem_foot {b : Nat} {S : DM} {k : Nat} : k ∈ foot b S ↔ k = b ∨ S.mp = some k ∨ ∃ f ∈ S.files, k ∈ f.foot := by
  simp only [foot, List.mem_cons, List.mem_append, Option.mem_toList, List.mem_flatMap]
theorem create_cc (pn pd base b : Nat) (M : MD) (F : List Nat) (name : ByteArray) (w : World) (h : CD w base b M F) (hl : LimF M.fs) (hn : w.cell? ⟨pn, 0, none⟩ = some (.string name)) (hd : w.cell? ⟨pd, 0, none⟩ = some (theDisk b)) (hz : name.size ≤ 1000000) :
    Calls Tryz.prog 107 #[.pointer (some ⟨pn, 0, none⟩), .pointer (some ⟨pd, 0, none⟩)] w (Left fun k w' => k = (opCreate name.data.toList M.cap M.fs).1 ∧ Next w w' base b { M with fs := (opCreate name.data.toList M.cap M.fs).2 } F) := by
  have h' := h
  obtain ⟨h0, hf, S, s, hR, hs, hp, hP, rfl⟩ := h
  have hz2 : name.size ≤ maxLen := by unfold maxLen; omega
  unfold opCreate
  by_cases hk : name.data.toList = []
  · rw [if_pos hk]
    obtain rfl := name_nil hk
    refine (create_empty pn pd b w hn hd).mono ?_
    rintro e w' ⟨rfl, rfl⟩
    exact ⟨1, rfl, rfl, h'.next⟩
  · rw [if_neg hk]
    have hne : name.toList.isEmpty = false := by rw [name_empty]; simpa using hk
    by_cases ha : M.fs.any (isName name.data.toList) = true
    · rw [if_pos ha]
      obtain ⟨f, hff⟩ : ∃ f, S.files.find? (named name.data.toList) = some f := by
        rw [any_find, find_both hR hp] at ha
        cases e : S.files.find? (named name.data.toList) with
        | none => rw [e] at ha; cases ha
        | some f => exact ⟨f, rfl⟩
      refine (create_twice pn pd base b S s name f w hn hd hR hne hff hz2).mono ?_
      rintro e w' ⟨rfl, n, rfl⟩
      exact ⟨4, rfl, rfl, h'.next_new ((Turn.refl [] w).drewN n)⟩
    · rw [if_neg ha]
      rw [Bool.not_eq_true] at ha
      have ha2 := ha
      rw [any_both hp] at ha
      refine (create_new_at pn pd base b S s name w hn hd hR hne ha hz2 (by have := len_both hp; have := hl.len; unfold maxLen; omega) h0).mono ?_
      rintro e w' ⟨rfl, f, m, s', hm, h1, h2, h3, h4, h5, hR', h7, t⟩
      refine ⟨0, rfl, rfl, next_cc h0 (hf.ins ha2 (Nat.le_refl _) hz) hR' (by rw [h7, hs]; simp [total, h2]) ?_ hP (fun k hk => ?_) (t.mono fun k hk => ?_)⟩
      · rw [List.map_append]
        refine (List.perm_append_comm.trans ?_).trans (insE_perm _ _).symm
        simpa [view, h1, h2, h3] using hp
      · rcases mem_foot.1 hk with rfl | hk | ⟨g, hg, hk⟩
        · exact .inl (mem_foot.2 (.inl rfl))
        · have : m = k := by simpa using hk
          subst this
          exact hm.imp (fun h => mem_foot.2 (.inr (.inl h))) id
        · rcases List.mem_append.1 hg with hg | hg
          · exact .inl (mem_foot.2 (.inr (.inr ⟨g, hg, hk⟩)))
          · rw [List.mem_singleton] at hg
            rw [hg] at hk
            have hk2 : k = f.blk := by simpa [FM.foot, h5] using hk
            rw [hk2]
            exact .inr h4
      · simp only [List.mem_cons, Option.mem_toList] at hk
        exact mem_foot.2 (hk.imp id .inl)
theorem foot_mapF {w : World} {b : Nat} {S : DM} {k : Nat} {nm : List UInt8} {u : FM → FM} {row : Option Nat} {f : FM} (hn : (S.files.map (·.name)).Nodup) (hf : S.files.find? (named nm) = some f) (hb : ∀ g, (u g).blk = g.blk) (hu : (u f).row = row) (hrow : row = f.row ∨ ∃ g, row = some g ∧ w.heap.size ≤ g)
    (hk : k ∈ foot b { S with files := mapF nm u S.files }) : k ∈ foot b S ∨ w.heap.size ≤ k := by
  obtain ⟨hfm, hfn⟩ := find_mem hf
  rcases mem_foot.1 hk with rfl | hk | ⟨g, hg, hk⟩
  · exact .inl (mem_foot.2 (.inl rfl))
  · exact .inl (mem_foot.2 (.inr (.inl hk)))
  · obtain ⟨g0, hg0, rfl⟩ := List.mem_map.1 hg
    by_cases hnm : named nm g0 = true
    · rw [if_pos hnm] at hk
      have e : g0 = f := only_named hn hg0 hfm (by rw [hfn]; simpa [named] using hnm)
      subst e
      simp only [FM.foot, List.mem_cons, Option.mem_toList] at hk
      rcases hk with hk | hk
      · exact .inl (mem_foot.2 (.inr (.inr ⟨g0, hg0, by simp [FM.foot, hk, hb]⟩)))
      · rw [hu] at hk
        rcases hrow with e | ⟨g, e, hg2⟩
        · rw [e] at hk
          exact .inl (mem_foot.2 (.inr (.inr ⟨g0, hg0, by simp [FM.foot, hk]⟩)))
        · rw [e] at hk
          have : g = k := by simpa using hk
          subst this
          exact .inr hg2
    · rw [if_neg hnm] at hk
      exact .inl (mem_foot.2 (.inr (.inr ⟨g0, hg0, hk⟩)))
theorem append_cc (pd pn pb base b : Nat) (M : MD) (F : List Nat) (name : ByteArray) (vb : Value) (l : List UInt8) (w : World) (h : CD w base b M F) (hl : LimF M.fs)
    (hd : w.cell? ⟨pd, 0, none⟩ = some (theDisk b)) (hn : w.cell? ⟨pn, 0, none⟩ = some (.string name)) (hb : w.cell? ⟨pb, 0, none⟩ = some vb) (hpd : pd ∉ F) (hpb : pb ∉ F) (hz : name.size ≤ 1000000) (hr : Reads w vb (bv l)) (hll : l.length ≤ 50000000) :
    Calls Tryz.prog 61 #[.pointer (some ⟨pd, 0, none⟩), .pointer (some ⟨pn, 0, none⟩), .pointer (some ⟨pb, 0, none⟩)] w (Left fun k w' => k = (opAppend name.data.toList l M.cap M.fs).1 ∧ Next w w' base b { M with fs := (opAppend name.data.toList l M.cap M.fs).2 } F) := by
  have h' := h
  obtain ⟨h0, hf, S, s, hR, hs, hp, hP, rfl⟩ := h
  have hz2 : name.size ≤ maxLen := by unfold maxLen; omega
  have ht := tot_both hp
  have htl := hl.tot
  unfold opAppend
  rw [find_both hR hp]
  cases e : S.files.find? (named name.data.toList) with
  | none =>
    refine (append_clo_none pd pn pb base b S s name vb w hR hd hn hb e hz2).mono ?_
    rintro e w' ⟨k, rfl, rfl, t⟩
    exact ⟨3, rfl, rfl, h'.next_new t⟩
  | some f =>
    simp only [Option.map_some]
    by_cases hc : M.cap < (tot M.fs : Int) + l.length
    · rw [if_pos hc]
      obtain ⟨ao, c, rfl⟩ : ∃ ao c, vb = .slice ao l.length c := by obtain ⟨ao, c, rfl, _⟩ := hr; exact ⟨ao, c, by rw [bv_length]⟩
      refine (append_clo_full pd pn pb base b S s name ao l.length c f w hR hd hn hb e hz2 hs (by omega) (by rw [hP.cap, ← ht]; exact hc)).mono ?_
      rintro e w' ⟨k, rfl, rfl, t⟩
      exact ⟨5, rfl, rfl, h'.next_new t⟩
    · rw [if_neg hc]
      obtain ⟨hfm, hfn⟩ := find_mem e
      refine (append_clo_at pd pn pb base b S s name vb l f w hR hd hn hb (fun h => hpd (mem_footAll.2 (.inl h))) (fun h => hpb (mem_footAll.2 (.inl h))) e hz2 hr hs (by omega) (by rw [hP.cap, ← ht]; omega) h0 (le_total hfm)).mono ?_
      rintro e' w' ⟨k, rfl, rfl, row, s', hR', hs', t, hrow⟩
      have htm := total_mapF name.data.toList (addTo l row) S.files f e hR.names
      rw [show (addTo l row f).bytes.length = f.bytes.length + l.length from List.length_append] at htm
      refine ⟨0, rfl, rfl, next_cc h0 (hf.upd _ (fun _ => rfl) fun x hx _ => by have := hf.sy x hx; simp only [List.length_append]; omega) hR' (by rw [hs', hs]; omega) ?_ hP (fun k hk => ?_) t⟩
      · rw [map_mapF _ _ (fun x => (x.1, x.2.1 ++ l, x.2.2)) (fun _ => rfl)]
        exact hp.map _
      · exact foot_mapF (u := addTo l row) hR.names e (fun _ => rfl) rfl hrow hk
theorem sync_clo_none (pd pn base b : Nat) (S : DM) (s : DS) (name : ByteArray) (w : World) (hR : Rep w base b S s)
    (hd : w.cell? ⟨pd, 0, none⟩ = some (theDisk b)) (hn : w.cell? ⟨pn, 0, none⟩ = some (.string name)) (hf : S.files.find? (named name.data.toList) = none) (hl : name.size ≤ maxLen) :
    Calls Tryz.prog 111 #[.pointer (some ⟨pd, 0, none⟩), .pointer (some ⟨pn, 0, none⟩)] w (Left fun k w' => k = 3 ∧ Turn [] w w') := by
  have hlk : ∀ n, (Instr.lookup 74 s.fs (.string name) false).run Tryz.prog (w.drewN n) = .ok (.pointer none) (w.drewN n) := by
    intro n
    have := (hR.new ((Turn.refl [] w).drewN n)).look name hl
    rw [this]; simp [ptrOf, hf]
  have c5 := hR.disk.c5
  unfold theDisk at hd
  clear hR hf hl
  go_enter Tryz.func111, Tryz.ntmps111
  go_wp2
  go_quiet (fail)
  go_wp2
  go_ret
  exact ⟨3, rfl, rfl, (Turn.refl [] w).drewN _⟩
theorem cut_clo_none (pd pn pk base b : Nat) (S : DM) (s : DS) (name : ByteArray) (n : Int) (w : World) (hR : Rep w base b S s)
    (hd : w.cell? ⟨pd, 0, none⟩ = some (theDisk b)) (hn : w.cell? ⟨pn, 0, none⟩ = some (.string name)) (hk : w.cell? ⟨pk, 0, none⟩ = some (.int .i64 n)) (hf : S.files.find? (named name.data.toList) = none) (hl : name.size ≤ maxLen) :
    Calls Tryz.prog 110 #[.pointer (some ⟨pd, 0, none⟩), .pointer (some ⟨pn, 0, none⟩), .pointer (some ⟨pk, 0, none⟩)] w (Left fun k w' => k = 3 ∧ Turn [] w w') := by
  have hlk : ∀ n, (Instr.lookup 74 s.fs (.string name) false).run Tryz.prog (w.drewN n) = .ok (.pointer none) (w.drewN n) := by
    intro n
    have := (hR.new ((Turn.refl [] w).drewN n)).look name hl
    rw [this]; simp [ptrOf, hf]
  have c5 := hR.disk.c5
  unfold theDisk at hd
  clear hR hf hl
  go_enter Tryz.func110, Tryz.ntmps110
  go_wp2
  go_quiet (fail)
  go_wp2
  go_ret
  exact ⟨3, rfl, rfl, (Turn.refl [] w).drewN _⟩
theorem cut_clo_neg (pd pn pk base b : Nat) (S : DM) (s : DS) (name : ByteArray) (n : Int) (f : FM) (w : World) (hR : Rep w base b S s)
    (hd : w.cell? ⟨pd, 0, none⟩ = some (theDisk b)) (hn : w.cell? ⟨pn, 0, none⟩ = some (.string name)) (hk : w.cell? ⟨pk, 0, none⟩ = some (.int .i64 n))
    (hf : S.files.find? (named name.data.toList) = some f) (hl : name.size ≤ maxLen) (h0 : n < 0) :
    Calls Tryz.prog 110 #[.pointer (some ⟨pd, 0, none⟩), .pointer (some ⟨pn, 0, none⟩), .pointer (some ⟨pk, 0, none⟩)] w (Left fun k w' => k = 1 ∧ Turn [] w w') := by
  have hlk : ∀ n, (Instr.lookup 74 s.fs (.string name) false).run Tryz.prog (w.drewN n) = .ok (.pointer (some ⟨f.blk, 0, none⟩)) (w.drewN n) := by
    intro n
    have := (hR.new ((Turn.refl [] w).drewN n)).look name hl
    rw [this]; simp [ptrOf, hf]
  have c5 := hR.disk.c5
  obtain ⟨ao, c, hfc, _⟩ := (hR.files f (find_mem hf).1).own
  have f0 := hfc.c0
  have k2 : decide (n < 0) = true := by simp; omega
  unfold theDisk at hd
  clear hR hf hl hfc
  go_enter Tryz.func110, Tryz.ntmps110
  go_wp2
  go_quiet (fail)
  go_wp2
  go_quiet (fail)
  go_wp2
  go_ret
  rw [World.drewN_drewN]
  exact ⟨1, rfl, rfl, (Turn.refl [] w).drewN _⟩
theorem sync_cc (pd pn base b : Nat) (M : MD) (F : List Nat) (name : ByteArray) (w : World) (h : CD w base b M F)
    (hd : w.cell? ⟨pd, 0, none⟩ = some (theDisk b)) (hn : w.cell? ⟨pn, 0, none⟩ = some (.string name)) (hz : name.size ≤ 1000000) :
    Calls Tryz.prog 111 #[.pointer (some ⟨pd, 0, none⟩), .pointer (some ⟨pn, 0, none⟩)] w (Left fun k w' => k = (opSync name.data.toList M.cap M.fs).1 ∧ Next w w' base b { M with fs := (opSync name.data.toList M.cap M.fs).2 } F) := by
  have h' := h
  obtain ⟨h0, hf, S, s, hR, hs, hp, hP, rfl⟩ := h
  have hz2 : name.size ≤ maxLen := by unfold maxLen; omega
  unfold opSync
  rw [find_both hR hp]
  cases e : S.files.find? (named name.data.toList) with
  | none =>
    refine (sync_clo_none pd pn base b S s name w hR hd hn e hz2).mono ?_
    rintro e w' ⟨k, rfl, rfl, t⟩
    exact ⟨3, rfl, rfl, h'.next_new t⟩
  | some f =>
    simp only [Option.map_some]
    refine (sync_clo pd pn base b S s name f w hR hd hn e hz2 h0).mono ?_
    rintro e' w' ⟨k, rfl, rfl, s', hR', hs', t⟩
    have htm := total_mapF name.data.toList synced S.files f e hR.names
    rw [show (synced f).bytes.length = f.bytes.length from rfl] at htm
    refine ⟨0, rfl, rfl, next_cc h0 (hf.upd _ (fun _ => rfl) fun x hx _ => Nat.le_refl _) hR' (by rw [hs', hs]; omega) ?_ hP (fun k hk => ?_) t⟩
    · rw [map_mapF _ _ (fun x => (x.1, x.2.1, x.2.1.length)) (fun _ => rfl)]
      exact hp.map _
    · exact foot_mapF (u := synced) hR.names e (fun _ => rfl) rfl (.inl rfl) hk
theorem cut_cc (pd pn pk base b : Nat) (M : MD) (F : List Nat) (name : ByteArray) (n : Int) (w : World) (h : CD w base b M F) (hl : LimF M.fs)
    (hd : w.cell? ⟨pd, 0, none⟩ = some (theDisk b)) (hn : w.cell? ⟨pn, 0, none⟩ = some (.string name)) (hk : w.cell? ⟨pk, 0, none⟩ = some (.int .i64 n)) (hz : name.size ≤ 1000000) :
    Calls Tryz.prog 110 #[.pointer (some ⟨pd, 0, none⟩), .pointer (some ⟨pn, 0, none⟩), .pointer (some ⟨pk, 0, none⟩)] w (Left fun k w' => k = (opCut name.data.toList n M.cap M.fs).1 ∧ Next w w' base b { M with fs := (opCut name.data.toList n M.cap M.fs).2 } F) := by
  have h' := h
  obtain ⟨h0, hf, S, s, hR, hs, hp, hP, rfl⟩ := h
  have hz2 : name.size ≤ maxLen := by unfold maxLen; omega
  have ht := tot_both hp
  have htl := hl.tot
  unfold opCut
  rw [find_both hR hp]
  cases e : S.files.find? (named name.data.toList) with
  | none =>
    refine (cut_clo_none pd pn pk base b S s name n w hR hd hn hk e hz2).mono ?_
    rintro e w' ⟨k, rfl, rfl, t⟩
    exact ⟨3, rfl, rfl, h'.next_new t⟩
  | some f =>
    simp only [Option.map_some]
    have ev : (view f).2.1 = f.bytes := rfl
    rw [ev]
    by_cases hneg : n < 0
    · rw [if_pos (.inl hneg)]
      refine (cut_clo_neg pd pn pk base b S s name n f w hR hd hn hk e hz2 hneg).mono ?_
      rintro e w' ⟨k, rfl, rfl, t⟩
      exact ⟨1, rfl, rfl, h'.next_new t⟩
    · by_cases hbig : (f.bytes.length : Int) < n
      · rw [if_pos (.inr hbig)]
        refine (cut_bad pd pn pk base b S s name n f w hR hd hn hk e hz2 (by omega) hbig h0).mono ?_
        rintro e w' ⟨k, rfl, rfl, s', hR', hs', t⟩
        exact ⟨1, rfl, rfl, next_cc h0 hf hR' (by rw [hs', hs]) hp hP (fun k hk => .inl hk) t⟩
      · rw [if_neg (by rintro (h | h); exact hneg h; exact hbig h)]
        obtain ⟨n, rfl⟩ : ∃ q : Nat, n = q := ⟨n.toNat, (Int.toNat_of_nonneg (by omega)).symm⟩
        refine (cut_clo pd pn pk base b S s name n f w hR hd hn hk e hz2 (by omega) hs (by omega) h0).mono ?_
        rintro e' w' ⟨k, rfl, rfl, s', hR', hs', t⟩
        refine ⟨0, rfl, rfl, next_cc h0 (hf.upd _ (fun _ => rfl) fun x hx _ => by have := hf.sy x hx; simp only [List.length_take]; omega) hR' hs' ?_ hP (fun k hk => ?_) t⟩
        · rw [map_mapF _ _ (fun x => (x.1, x.2.1.take ((n : Int)).toNat, min x.2.2 ((n : Int)).toNat)) (fun _ => rfl)]
          exact hp.map _
        · exact foot_mapF (u := cutTo n) hR.names e (fun _ => rfl) rfl (.inl rfl) hk
theorem remove_cc (pd pn base b : Nat) (M : MD) (F : List Nat) (name : ByteArray) (w : World) (h : CD w base b M F) (hl : LimF M.fs)
    (hd : w.cell? ⟨pd, 0, none⟩ = some (theDisk b)) (hn : w.cell? ⟨pn, 0, none⟩ = some (.string name)) (hz : name.size ≤ 1000000) :
    Calls Tryz.prog 170 #[.pointer (some ⟨pd, 0, none⟩), .pointer (some ⟨pn, 0, none⟩)] w (Left fun k w' => k = (opRemove name.data.toList M.cap M.fs).1 ∧ Next w w' base b { M with fs := (opRemove name.data.toList M.cap M.fs).2 } F) := by
  have h' := h
  obtain ⟨h0, hf, S, s, hR, hs, hp, hP, rfl⟩ := h
  have hz2 : name.size ≤ maxLen := by unfold maxLen; omega
  have ht := tot_both hp
  have htl := hl.tot
  unfold opRemove
  rw [find_both hR hp]
  cases e : S.files.find? (named name.data.toList) with
  | none =>
    refine (remove_clo_none pd pn base b S s name w hR hd hn e hz2).mono ?_
    rintro e w' ⟨k, rfl, rfl, t⟩
    exact ⟨3, rfl, rfl, h'.next_new t⟩
  | some f =>
    simp only [Option.map_some]
    refine (remove_clo_some pd pn base b S s name f w hR hd hn e hz2 hs (by omega) h0).mono ?_
    rintro e' w' ⟨k, rfl, rfl, s', hR', hs', t⟩
    refine ⟨0, rfl, rfl, next_cc h0 (hf.wo _) hR' hs' ?_ hP (fun k hk => ?_) t⟩
    · rw [map_without]
      exact hp.filter _
    · rcases mem_foot.1 hk with rfl | hk | ⟨g, hg, hk⟩
      · exact .inl (mem_foot.2 (.inl rfl))
      · exact .inl (mem_foot.2 (.inr (.inl hk)))
      · exact .inl (mem_foot.2 (.inr (.inr ⟨g, (mem_without hg).1, hk⟩)))
theorem rename_cc (pd pn pt base b : Nat) (M : MD) (F : List Nat) (src dst : ByteArray) (w : World) (h : CD w base b M F) (hl : LimF M.fs)
    (hd : w.cell? ⟨pd, 0, none⟩ = some (theDisk b)) (hn : w.cell? ⟨pn, 0, none⟩ = some (.string src)) (htd : w.cell? ⟨pt, 0, none⟩ = some (.string dst)) (hpd : pd ∉ F) (hpn : pn ∉ F) (hpt : pt ∉ F) (hz : src.size ≤ 1000000) (hy : dst.size ≤ 1000000) :
    Calls Tryz.prog 172 #[.pointer (some ⟨pd, 0, none⟩), .pointer (some ⟨pn, 0, none⟩), .pointer (some ⟨pt, 0, none⟩)] w (Left fun k w' => k = (opRename src.data.toList dst.data.toList M.cap M.fs).1 ∧ Next w w' base b { M with fs := (opRename src.data.toList dst.data.toList M.cap M.fs).2 } F) := by
  have h' := h
  obtain ⟨h0, hf, S, s, hR, hs, hp, hP, rfl⟩ := h
  have hz2 : src.size ≤ maxLen := by unfold maxLen; omega
  have hy2 : dst.size ≤ maxLen := by unfold maxLen; omega
  have ht := tot_both hp
  have htl := hl.tot
  unfold opRename
  rw [find_both hR hp]
  cases e : S.files.find? (named src.data.toList) with
  | none =>
    refine (rename_clo_none pd pn pt base b S s src dst w hR hd hn htd e hz2).mono ?_
    rintro e w' ⟨k, rfl, rfl, t⟩
    exact ⟨3, rfl, rfl, h'.next_new t⟩
  | some f =>
    simp only [Option.map_some]
    obtain ⟨hfm, hfn⟩ := find_mem e
    by_cases hdn : dst.data.toList = []
    · rw [if_pos hdn]
      obtain rfl := name_nil hdn
      refine (rename_clo_arg pd pn pt base b S s src f w hR hd hn htd e hz2).mono ?_
      rintro e w' ⟨k, rfl, rfl, t⟩
      exact ⟨1, rfl, rfl, h'.next_new t⟩
    · rw [if_neg hdn]
      have hne : dst.toList.isEmpty = false := by rw [name_empty]; simpa using hdn
      by_cases heq : src.data.toList = dst.data.toList
      · rw [if_pos heq]
        obtain rfl := name_eq heq
        refine (rename_clo_same pd pn pt base b S s src f w hR hd hn htd e hne hz2).mono ?_
        rintro e w' ⟨k, rfl, rfl, t⟩
        exact ⟨0, rfl, rfl, h'.next_new t⟩
      · rw [if_neg heq]
        have hst : (src.toList == dst.toList) = false := by rw [name_beq]; simpa using heq
        refine (rename_clo_at pd pn pt base b S s src dst f w hR hd hn htd (fun h => hpd (mem_footAll.2 (.inl h))) (fun h => hpn (mem_footAll.2 (.inl h))) (fun h => hpt (mem_footAll.2 (.inl h))) e hne hst heq hz2 hy2 hs (by omega) h0 (by have := len_both hp; have := hl.len; unfold maxLen; omega)).mono ?_
        rintro e' w' ⟨k, rfl, rfl, m, s', hm, hR', hs', t⟩
        have hnd : ((without dst.data.toList S.files).map (·.name)).Nodup := hR.names.sublist (List.filter_sublist.map _)
        have htw := total_without src.data.toList (without dst.data.toList S.files) f (find_keep e heq) hnd
        have hfe : (f.name, f.bytes, f.sy) ∈ M.fs := hp.mem_iff.1 (List.mem_map.2 ⟨f, hfm, rfl⟩)
        refine ⟨0, rfl, rfl, next_cc h0 (((hf.wo _).wo _).ins (by rw [woE_any, if_pos rfl]) (hf.sy (f.name, f.bytes, f.sy) hfe) hy) hR' ?_ ?_ hP (fun k hk => ?_) t⟩
        · rw [hs']
          simp only [renamed, total, List.map_append, List.map_cons, List.map_nil, List.sum_append, List.sum_cons, List.sum_nil] at htw ⊢
          omega
        · rw [renamed, List.map_append, map_without, map_without]
          have hcm : woE src.data.toList (woE dst.data.toList (S.files.map view)) = woE dst.data.toList (woE src.data.toList (S.files.map view)) := by
            unfold woE
            rw [List.filter_filter, List.filter_filter]
            congr 1
            funext x
            exact Bool.and_comm _ _
          rw [hcm]
          refine (List.perm_append_comm.trans ?_).trans (insE_perm _ _).symm
          exact ((hp.filter _).filter _).cons _
        · rcases mem_foot.1 hk with rfl | hk | ⟨g, hg, hk⟩
          · exact .inl (mem_foot.2 (.inl rfl))
          · have : m = k := by simpa using hk
            subst this
            exact hm.imp (fun h => mem_foot.2 (.inr (.inl h))) id
          · rcases List.mem_append.1 hg with hg | hg
            · exact .inl (mem_foot.2 (.inr (.inr ⟨g, (mem_without (mem_without hg).1).1, hk⟩)))
            · rw [List.mem_singleton] at hg
              rw [hg] at hk
              exact .inl (mem_foot.2 (.inr (.inr ⟨f, hfm, hk⟩)))
end Go.Proofs.YthcdkggkoanjpaaGreatDoor
