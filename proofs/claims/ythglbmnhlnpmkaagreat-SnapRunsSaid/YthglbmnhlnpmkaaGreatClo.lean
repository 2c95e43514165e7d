/- The closures of the writing calls, each way; the methods over what write does. Numbers and types by name. -/
import Derived.Test.YthglbmnhlnpmkaaGreatDrp
import Derived.Test.YthglbmnhlnpmkaaGreatWr3
/- Append, that is carried out: where its bytes lie then. Numbers and types by name. -/
namespace Go.Proofs.YthglbmnhlnpmkaaGreat
open Go.RowKit Go.Maps Go.Sort Go.WideMaps

def LongerAt (w : World) (base b : Nat) (S : DM) (s : DS) (ca : Int) (f : FM) (name l : List UInt8) (k : Int) (w' : World) : Prop :=
  k = 0 ∧ ∃ row s', Rep w' base b { S with ca := ca, files := mapF name (addTo l row) S.files } s' ∧ s'.sz = s.sz + l.length ∧ Turn (foot b S) w w' ∧ (row = f.row ∨ ∃ g, row = some g ∧ w.heap.size ≤ g)

theorem append_clo_at (pd pn pb base b : Nat) (S : DM) (s : DS) (name : ByteArray) (vb : Value) (l : List UInt8) (f : FM) (w : World) (hR : Rep w base b S s)
    (hd : w.cell? ⟨pd, 0, none⟩ = some (theDisk b)) (hn : w.cell? ⟨pn, 0, none⟩ = some (.string name)) (hb : w.cell? ⟨pb, 0, none⟩ = some vb) (hpd : pd ∉ foot b S) (hpb : pb ∉ foot b S)
    (hf : S.files.find? (named name.data.toList) = some f) (hl : name.size ≤ maxLen) (hr : Reads w vb (bv l)) (hsz : s.sz = total S.files) (hs1 : total S.files + l.length < 1000000000) (hcap : (total S.files : Int) + l.length ≤ S.cap) (hbase : base ≤ w.heap.size) (hfl : f.bytes.length ≤ total S.files) :
    Calls Tryz.prog 54 #[.pointer (some ⟨pd, 0, none⟩), .pointer (some ⟨pn, 0, none⟩), .pointer (some ⟨pb, 0, none⟩)] w (Left (LongerAt w base b S s S.ca f name.data.toList l)) := by
  obtain ⟨hmem, hnm⟩ := find_mem hf
  obtain ⟨ao, c, hfc, hown, hrow, hsy⟩ := (hR.files f hmem).own
  obtain ⟨hbf, hmf, hnd⟩ := hR.apart2 f hmem
  have hsub : ∀ x ∈ f.foot, x ∈ foot b S := fun x hx => by simp only [foot, List.mem_cons, List.mem_append, List.mem_flatMap]; exact .inr (.inr ⟨f, hmem, hx⟩)
  have hblk : f.blk ∈ f.foot := by simp [FM.foot]
  have hbb : b ≠ f.blk := fun e => hbf (e ▸ hblk)
  have hrw : ∀ g, f.row = some g → g ∈ f.foot ∧ g ≠ f.blk := by
    intro g hg
    refine ⟨by simp [FM.foot, hg], ?_⟩
    rintro rfl
    simp [FM.foot, hg] at hnd
  have hlk : ∀ n, (Instr.lookup 57 s.fs (.string name) false).run Tryz.prog (w.drewN n) = .ok (.pointer (some ⟨f.blk, 0, none⟩)) (w.drewN n) := by
    intro n
    have := (hR.new ((Turn.refl [] w).drewN n)).look name hl
    rw [this]; simp [ptrOf, hf]
  have c0 := hR.disk.c0
  rw [hR.cap] at c0
  have hbl := bv_length l
  refine (append_walk pd pn pb base b f.blk name vb (bv l) s.fs S.cap s.sz ao f.bytes.length c (bv f.bytes) w hd hn hb hR.disk.c5 c0 hR.disk.c6 (hR.disk.free 6) hfc.c0 (hfc.free 0) hlk hown hr (bv_one l) ?_ hbb ?_ ?_ ?_ ?_ hbase (by omega) (by rw [hbl]; omega) (by rw [hbl]; omega)).mono ?_
  · intro g hg
    obtain ⟨h1, h2⟩ := hrw g (hrow.symm.trans hg)
    exact ⟨fun e => hbf (e ▸ h1), h2, fun e => hpd (e ▸ hsub g h1), fun e => hpb (e ▸ hsub g h1)⟩
  · rintro rfl; exact hpd (hsub _ hblk)
  · rintro rfl; exact hpb (hsub _ hblk)
  · exact Lib.hid (by rw [hbl]; unfold maxLen; omega)
  · exact Lib.hid (by rw [hbl]; omega)
  rintro e w' ⟨rfl, ao', c', w1, n1, hown1, hg1, hat, rfl⟩
  rw [hbl] at hown1 hat
  have t1 : Turn f.row.toList w w1 := Turn.of_grown hg1 (fun k hk => by simpa using hrow.symm.trans hk)
  have hd1 : DiskC w1 b s := hR.disk.turn t1 (fun hx => by
    have := hrw b (by simpa using hx)
    exact hbf this.1)
  have hf1 : FileC w1 f.blk (.slice ao f.bytes.length c) f.sy := hfc.turn t1 (fun hx => (hrw _ (by simpa using hx)).2 rfl)
  have hnew : ∀ g, (Value.slice ao' (f.bytes.length + l.length) c').ownBlock = some g → g ≠ b ∧ g ≠ f.blk := by
    intro g hg
    rcases hat with e | e
    · rw [e, hrow] at hg
      obtain ⟨h1, h2⟩ := hrw g hg
      exact ⟨fun e => hbf (e ▸ h1), h2⟩
    · rw [e] at hg
      have h1 := hR.disk.lt
      have h2 := hfc.lt
      simp at hg
      omega
  rw [bv_length]
  have hf2 := hf1.set0 (.slice ao' (f.bytes.length + l.length) c')
  have hd2 := (hd1.setNe hbb 0 (.slice ao' (f.bytes.length + l.length) c')).set6 (s.sz + l.length)
  have hf3 : FileC ((w1.setCell ⟨f.blk, 0, none⟩ (.slice ao' (f.bytes.length + l.length) c')).setCell ⟨b, 6, none⟩ (.int .i64 (s.sz + l.length))) f.blk (.slice ao' (f.bytes.length + l.length) c') f.sy := hf2.setNe (fun e => hbb e.symm) 6 _
  have t2 : Turn [f.blk, b] w1 ((w1.setCell ⟨f.blk, 0, none⟩ (.slice ao' (f.bytes.length + l.length) c')).setCell ⟨b, 6, none⟩ (.int .i64 (s.sz + l.length))) := ((Turn.refl _ w1).set (.inl (by simp)) 0 _).set (.inl (by simp)) 6 _
  have t3 : Turn (b :: f.foot) w ((w1.setCell ⟨f.blk, 0, none⟩ (.slice ao' (f.bytes.length + l.length) c')).setCell ⟨b, 6, none⟩ (.int .i64 (s.sz + l.length))) :=
    (t1.mono (by intro x hx; simp only [FM.foot, List.mem_cons]; exact .inr (.inr hx))).trans (t2.mono (by intro x hx; simp at hx; rcases hx with rfl | rfl <;> simp [FM.foot]))
  refine ⟨0, rfl, rfl, (Value.slice ao' (f.bytes.length + l.length) c').ownBlock, { s with sz := s.sz + l.length }, ?_, rfl, ?_⟩
  · have := hR.file t3 f (by rw [hnm]; exact hf) (addTo l (Value.slice ao' (f.bytes.length + l.length) c').ownBlock) (fun _ => rfl) (fun _ => rfl) (by intro x hx; simpa using hx) ?_ ?_ (s.sz + l.length) hd2 hbase
    · rw [hnm] at this
      exact this.new ((Turn.refl [] _).drewN n1)
    · refine ⟨ao', c', by simpa [addTo] using hf3, ?_, by simp [addTo], by simp [addTo]; omega⟩
      have : bv (f.bytes ++ l) = bv f.bytes ++ bv l := by simp [bv]
      simp only [addTo, List.length_append, this]
      exact owns_turn hown1 t2 (fun g hg => by have := hnew g hg; simp [this])
    · rcases hat with e | e
      · exact .inl (e.trans hrow)
      · exact .inr ⟨_, e, Nat.le_refl _⟩
  · refine ⟨(t3.mono (by intro x hx; rcases List.mem_cons.1 hx with rfl | hx; simp [foot]; exact hsub x hx)).drewN n1, ?_⟩
    rcases hat with e | e
    · exact .inl (e.trans hrow)
    · exact .inr ⟨_, e, Nat.le_refl _⟩

theorem append_ok_at (base b : Nat) (S : DM) (s : DS) (name : ByteArray) (vb : Value) (l : List UInt8) (f : FM) (w : World) (hR : Rep w base b S s) (hr : Runs S) (hf : S.files.find? (named name.data.toList) = some f) (hl : name.size ≤ maxLen) (hv : Reads w vb (bv l)) (hvb : bv l ≠ [] → ∀ a n c, vb = .slice (some a) n c → a.block ≠ b)
    (hsz : s.sz = total S.files) (hs1 : total S.files + l.length < 1000000000) (hcap : (total S.files : Int) + l.length ≤ S.cap) (hbase : base ≤ w.heap.size) (hfl : f.bytes.length ≤ total S.files) :
    Calls Tryz.prog 23 #[theDisk b, .string name, vb] w (Left (LongerAt w base b S s (S.ca + 1) f name.data.toList l)) := by
  have hw : ∀ W, W = ((w.alloc (.cells #[theDisk b] 25)).alloc (.cells #[.string name] 9)).alloc (.cells #[vb] 46) →
      Calls Tryz.prog 51 #[theDisk b, .func (.func 54) #[] #[.pointer (some ⟨w.heap.size, 0, none⟩), .pointer (some ⟨w.heap.size + 1, 0, none⟩), .pointer (some ⟨w.heap.size + 1 + 1, 0, none⟩)]] W (Left (LongerAt w base b S s (S.ca + 1) f name.data.toList l)) := by
    rintro W rfl
    have ta : Turn [] w (w.alloc (.cells #[theDisk b] 25)) := (Turn.refl [] w).alloc _
    have tb : Turn [] (w.alloc (.cells #[theDisk b] 25)) ((w.alloc (.cells #[theDisk b] 25)).alloc (.cells #[.string name] 9)) := (Turn.refl [] _).alloc _
    have tc : Turn [] ((w.alloc (.cells #[theDisk b] 25)).alloc (.cells #[.string name] 9)) (((w.alloc (.cells #[theDisk b] 25)).alloc (.cells #[.string name] 9)).alloc (.cells #[vb] 46)) := (Turn.refl [] _).alloc _
    have t0 := (ta.trans tb).trans tc
    have hlt := hR.lt
    have hbl := hR.disk.lt
    refine write_run base b _ _ S s _ _ (hR.new t0) hr.dw hr.cr hr.fail hr.ca0 hr.ca1 hr.fl (enters_of Tryz.func54 (by kernel_rfl) rfl) ?_
    intro w1 hR1 t1
    have hpd : w1.cell? ⟨w.heap.size, 0, none⟩ = some (theDisk b) := box_at (((tb.trans tc).mono (by simp)).trans t1) (by simp; omega)
    have hpn : w1.cell? ⟨w.heap.size + 1, 0, none⟩ = some (.string name) := by
      have := box_at ((tc.mono (by simp)).trans t1) (by simp; omega)
      simpa using this
    have hpb : w1.cell? ⟨w.heap.size + 1 + 1, 0, none⟩ = some vb := by
      have := box_at t1 (by simp; omega)
      simpa using this
    have hs1' : w.heap.size ≤ w1.heap.size := Nat.le_trans t0.size t1.size
    have hv1 : Reads w1 vb (bv l) := by
      have h0 := ((hv.alloc (.cells #[theDisk b] 25)).alloc (.cells #[.string name] 9)).alloc (.cells #[vb] 46)
      exact h0.turn t1 (fun hx a n c e => by simpa using hvb hx a n c e)
    refine (append_clo_at w.heap.size (w.heap.size + 1) (w.heap.size + 1 + 1) base b _ _ name vb l f w1 hR1 hpd hpn hpb (fun h => by have := hlt _ h; omega) (fun h => by have := hlt _ h; omega) hf hl hv1 hsz hs1 hcap (Nat.le_trans hbase hs1') hfl).mono ?_
    rintro e w' ⟨k, rfl, hk, row, s', h1, h2, h3, h4⟩
    exact ⟨k, rfl, hk, row, s', h1, h2, (t0.mono (by simp)).trans ((t1.mono (by intro x hx; simp at hx; subst hx; simp [foot])).trans h3), h4.imp id (fun ⟨g, e, hg⟩ => ⟨g, e, Nat.le_trans hs1' hg⟩)⟩
  have hmf := hmf
  unfold theDisk at hw
  unfold theDisk
  clear hR hr hf hl hbase hvb hsz hs1 hcap hfl
  obtain ⟨aob, cb, rfl, _⟩ := hv
  go_enter Tryz.func23, Tryz.ntmps23
  go_wp2_with fail
  refine (hw _ rfl).mono ?_
  rintro e w' ⟨k, rfl, hk⟩
  have HK := Lib.hid hk
  clear hk hw
  go_wp2
  go_ret
  exact ⟨k, rfl, HK.out⟩

end Go.Proofs.YthglbmnhlnpmkaaGreat

namespace Go.Proofs.YthglbmnhlnpmkaaGreat
open Go.RowKit Go.Maps Go.Sort Go.WideMaps

/-- Create over what write does. -/
theorem create_via (b : Nat) (name : ByteArray) (w : World) (R : Int → World → Prop)
    (hw : ∀ W, W = (w.alloc (.cells #[theDisk b] 25)).alloc (.cells #[.string name] 9) →
      Calls Tryz.prog 51 #[theDisk b, .func (.func 52) #[] #[.pointer (some ⟨w.heap.size + 1, 0, none⟩), .pointer (some ⟨w.heap.size, 0, none⟩)]] W (Left R)) :
    Calls Tryz.prog 22 #[theDisk b, .string name] w (Left R) := by
  have hmf := hmf
  unfold theDisk at hw
  unfold theDisk
  go_enter Tryz.func22, Tryz.ntmps22
  go_wp2_with fail
  refine (hw _ rfl).mono ?_
  rintro e w' ⟨k, rfl, hk⟩
  have HK := Lib.hid hk
  clear hk hw
  go_wp2
  go_ret
  exact ⟨k, rfl, HK.out⟩

/-- What lies in memory when the closure of Create runs. -/
theorem create_boxes {w w1 : World} {b : Nat} {name : ByteArray} (t1 : Turn [b] ((w.alloc (.cells #[theDisk b] 25)).alloc (.cells #[.string name] 9)) w1) (hbl : b < w.heap.size) :
    w1.cell? ⟨w.heap.size, 0, none⟩ = some (theDisk b) ∧ w1.cell? ⟨w.heap.size + 1, 0, none⟩ = some (.string name) ∧ w.heap.size ≤ w1.heap.size := by
  refine ⟨?_, ?_, ?_⟩
  · have h0 : ((w.alloc (.cells #[theDisk b] 25)).alloc (.cells #[.string name] 9)).heap[w.heap.size]? = some (.cells #[theDisk b] 25 (0, 0)) := by
      rw [Below.heap_alloc _ _ _ (by simp)]; exact heap_alloc_new _ _
    exact cells_of (t1.heap h0 (by simp; omega)) 0 _ rfl
  · have h0 : ((w.alloc (.cells #[theDisk b] 25)).alloc (.cells #[.string name] 9)).heap[w.heap.size + 1]? = some (.cells #[.string name] 9 (0, 0)) := by
      have := heap_alloc_new (w.alloc (.cells #[theDisk b] 25)) (.cells #[.string name] 9)
      simpa using this
    exact cells_of (t1.heap h0 (by simp; omega)) 0 _ rfl
  · have := t1.size; simp at this; omega

/-- Read of a disk that is down. -/
theorem read_down (base b : Nat) (S : DM) (s : DS) (name : Value) (w : World) (hR : Rep w base b S s) (hdw : S.dw = true) :
    Calls Tryz.prog 40 #[theDisk b, name] w fun e w' => e = .returned (.tuple #[.slice none 0 0, .int .i64 7]) ∧ w = w' := by
  have c8 := hR.disk.c8
  rw [hR.dw, hdw] at c8
  clear hR
  unfold theDisk
  go_enter Tryz.func40, Tryz.ntmps40
  go_wp2
  go_ret2
  exact ⟨rfl, rfl⟩

theorem down_rep (base b : Nat) (S : DM) (s : DS) (w : World) (hR : Rep w base b S s) :
    Calls Tryz.prog 46 #[theDisk b] w fun e w' => e = .returned (.bool S.dw) ∧ w = w' := by
  have c8 := hR.disk.c8
  rw [hR.dw] at c8
  clear hR
  unfold theDisk
  go_enter Tryz.func46, Tryz.ntmps46
  go_wp2
  go_ret
  exact ⟨rfl, rfl⟩

/-- A file that is not there. -/
theorem read_none (base b : Nat) (S : DM) (s : DS) (name : ByteArray) (w : World) (hR : Rep w base b S s) (hdw : S.dw = false) (hf : S.files.find? (named name.data.toList) = none) (hl : name.size ≤ maxLen) :
    Calls Tryz.prog 40 #[theDisk b, .string name] w fun e w' => e = .returned (.tuple #[.slice none 0 0, .int .i64 3]) ∧ w = w' := by
  have c8 := hR.disk.c8
  rw [hR.dw, hdw] at c8
  have c5 := hR.disk.c5
  have hlk : (Instr.lookup 57 s.fs (.string name) false).run Tryz.prog w = .ok (.pointer none) w := by
    rw [hR.look name hl]; simp [ptrOf, hf]
  clear hR hdw hf hl
  unfold theDisk
  go_enter Tryz.func40, Tryz.ntmps40
  go_wp2
  go_ret2
  exact ⟨rfl, rfl⟩

/-- Append over what write does. -/
theorem append_via (b : Nat) (name : ByteArray) (aob : Option Addr) (nb cb : Nat) (w : World) (R : Int → World → Prop)
    (hw : ∀ W, W = ((w.alloc (.cells #[theDisk b] 25)).alloc (.cells #[.string name] 9)).alloc (.cells #[.slice aob nb cb] 46) →
      Calls Tryz.prog 51 #[theDisk b, .func (.func 54) #[] #[.pointer (some ⟨w.heap.size, 0, none⟩), .pointer (some ⟨w.heap.size + 1, 0, none⟩), .pointer (some ⟨w.heap.size + 1 + 1, 0, none⟩)]] W (Left R)) :
    Calls Tryz.prog 23 #[theDisk b, .string name, .slice aob nb cb] w (Left R) := by
  have hmf := hmf
  unfold theDisk at hw
  unfold theDisk
  go_enter Tryz.func23, Tryz.ntmps23
  go_wp2_with fail
  refine (hw _ rfl).mono ?_
  rintro e w' ⟨k, rfl, hk⟩
  have HK := Lib.hid hk
  clear hk hw
  go_wp2
  go_ret
  exact ⟨k, rfl, HK.out⟩

/-- Append's closure where there is no such file. -/
theorem append_clo_none (pd pn pb base b : Nat) (S : DM) (s : DS) (name : ByteArray) (vb : Value) (w : World) (hR : Rep w base b S s)
    (hd : w.cell? ⟨pd, 0, none⟩ = some (theDisk b)) (hn : w.cell? ⟨pn, 0, none⟩ = some (.string name)) (_hb : w.cell? ⟨pb, 0, none⟩ = some vb)
    (hf : S.files.find? (named name.data.toList) = none) (hl : name.size ≤ maxLen) :
    Calls Tryz.prog 54 #[.pointer (some ⟨pd, 0, none⟩), .pointer (some ⟨pn, 0, none⟩), .pointer (some ⟨pb, 0, none⟩)] w (Left fun k w' => k = 3 ∧ Turn [] w w') := by
  have hlk : ∀ n, (Instr.lookup 57 s.fs (.string name) false).run Tryz.prog (w.drewN n) = .ok (.pointer none) (w.drewN n) := by
    intro n
    have := (hR.new ((Turn.refl [] w).drewN n)).look name hl
    rw [this]; simp [ptrOf, hf]
  have c5 := hR.disk.c5
  unfold theDisk at hd
  clear hR hf hl
  go_enter Tryz.func54, Tryz.ntmps54
  go_wp2
  go_quiet (fail)
  go_wp2
  go_ret
  exact ⟨3, rfl, rfl, (Turn.refl [] w).drewN _⟩

/-- Append's closure where there is no room. -/
theorem append_clo_full (pd pn pb base b : Nat) (S : DM) (s : DS) (name : ByteArray) (aob : Option Addr) (nb cb : Nat) (f : FM) (w : World) (hR : Rep w base b S s)
    (hd : w.cell? ⟨pd, 0, none⟩ = some (theDisk b)) (hn : w.cell? ⟨pn, 0, none⟩ = some (.string name)) (hb : w.cell? ⟨pb, 0, none⟩ = some (.slice aob nb cb))
    (hf : S.files.find? (named name.data.toList) = some f) (hl : name.size ≤ maxLen) (hsz : s.sz = total S.files) (hs1 : total S.files + nb < 1000000000) (hcap : S.cap < (total S.files : Int) + nb) :
    Calls Tryz.prog 54 #[.pointer (some ⟨pd, 0, none⟩), .pointer (some ⟨pn, 0, none⟩), .pointer (some ⟨pb, 0, none⟩)] w (Left fun k w' => k = 5 ∧ Turn [] w w') := by
  have hlk : ∀ n, (Instr.lookup 57 s.fs (.string name) false).run Tryz.prog (w.drewN n) = .ok (.pointer (some ⟨f.blk, 0, none⟩)) (w.drewN n) := by
    intro n
    have := (hR.new ((Turn.refl [] w).drewN n)).look name hl
    rw [this]; simp [ptrOf, hf]
  have c5 := hR.disk.c5
  have c0 := hR.disk.c0
  have c6 := hR.disk.c6
  rw [hR.cap] at c0
  rw [hsz] at c6
  generalize total S.files = T at *
  generalize S.cap = C at *
  have HCAP : decide (C < (T : Int) + (nb : Int)) = true := by simp; omega
  have HC2 : C < (T : Int) + (nb : Int) := hcap
  unfold theDisk at hd
  clear hR hf hl hsz
  go_enter Tryz.func54, Tryz.ntmps54
  go_wp2
  go_quiet (fail)
  go_wp2
  go_quiet (fail)
  go_wp2
  go_ret
  rw [World.drewN_drewN]
  exact ⟨5, rfl, rfl, (Turn.refl [] w).drewN _⟩

theorem rename_clo_none (pd pn pt base b : Nat) (S : DM) (s : DS) (src dst : ByteArray) (w : World) (hR : Rep w base b S s)
    (hd : w.cell? ⟨pd, 0, none⟩ = some (theDisk b)) (hn : w.cell? ⟨pn, 0, none⟩ = some (.string src)) (_ht : w.cell? ⟨pt, 0, none⟩ = some (.string dst)) (hf : S.files.find? (named src.data.toList) = none) (hl : src.size ≤ maxLen) :
    Calls Tryz.prog 94 #[.pointer (some ⟨pd, 0, none⟩), .pointer (some ⟨pn, 0, none⟩), .pointer (some ⟨pt, 0, none⟩)] w (Left fun k w' => k = 3 ∧ Turn [] w w') := by
  have hlk : ∀ n, (Instr.lookup 57 s.fs (.string src) false).run Tryz.prog (w.drewN n) = .ok (.pointer none) (w.drewN n) := by
    intro n
    have := (hR.new ((Turn.refl [] w).drewN n)).look src hl
    rw [this]; simp [ptrOf, hf]
  have c5 := hR.disk.c5
  unfold theDisk at hd
  clear hR hf hl
  go_enter Tryz.func94, Tryz.ntmps94
  go_wp2_with fail
  go_quiet (fail)
  go_wp2_with fail
  go_ret
  exact ⟨3, rfl, rfl, (Turn.refl [] w).drewN _⟩

theorem rename_clo_arg (pd pn pt base b : Nat) (S : DM) (s : DS) (src : ByteArray) (f : FM) (w : World) (hR : Rep w base b S s)
    (hd : w.cell? ⟨pd, 0, none⟩ = some (theDisk b)) (hn : w.cell? ⟨pn, 0, none⟩ = some (.string src)) (ht : w.cell? ⟨pt, 0, none⟩ = some (.string ⟨#[]⟩)) (hf : S.files.find? (named src.data.toList) = some f) (hl : src.size ≤ maxLen) :
    Calls Tryz.prog 94 #[.pointer (some ⟨pd, 0, none⟩), .pointer (some ⟨pn, 0, none⟩), .pointer (some ⟨pt, 0, none⟩)] w (Left fun k w' => k = 1 ∧ Turn [] w w') := by
  have hlk : ∀ n, (Instr.lookup 57 s.fs (.string src) false).run Tryz.prog (w.drewN n) = .ok (.pointer (some ⟨f.blk, 0, none⟩)) (w.drewN n) := by
    intro n
    have := (hR.new ((Turn.refl [] w).drewN n)).look src hl
    rw [this]; simp [ptrOf, hf]
  have c5 := hR.disk.c5
  unfold theDisk at hd
  clear hR hf hl
  go_enter Tryz.func94, Tryz.ntmps94
  go_wp2_with fail
  go_quiet (fail)
  go_wp2_with fail
  go_ret
  exact ⟨1, rfl, rfl, (Turn.refl [] w).drewN _⟩

theorem rename_clo_same (pd pn pt base b : Nat) (S : DM) (s : DS) (src : ByteArray) (f : FM) (w : World) (hR : Rep w base b S s)
    (hd : w.cell? ⟨pd, 0, none⟩ = some (theDisk b)) (hn : w.cell? ⟨pn, 0, none⟩ = some (.string src)) (ht : w.cell? ⟨pt, 0, none⟩ = some (.string src)) (hf : S.files.find? (named src.data.toList) = some f) (hne : src.toList.isEmpty = false) (hl : src.size ≤ maxLen) :
    Calls Tryz.prog 94 #[.pointer (some ⟨pd, 0, none⟩), .pointer (some ⟨pn, 0, none⟩), .pointer (some ⟨pt, 0, none⟩)] w (Left fun k w' => k = 0 ∧ Turn [] w w') := by
  have hlk : ∀ n, (Instr.lookup 57 s.fs (.string src) false).run Tryz.prog (w.drewN n) = .ok (.pointer (some ⟨f.blk, 0, none⟩)) (w.drewN n) := by
    intro n
    have := (hR.new ((Turn.refl [] w).drewN n)).look src hl
    rw [this]; simp [ptrOf, hf]
  have c5 := hR.disk.c5
  have hst : (src.toList == src.toList) = true := by simp
  unfold theDisk at hd
  clear hR hf hl
  go_enter Tryz.func94, Tryz.ntmps94
  go_wp2_with fail
  go_quiet (fail)
  go_wp2_with fail
  go_ret
  exact ⟨0, rfl, rfl, (Turn.refl [] w).drewN _⟩

/-- Remove's closure. -/
theorem remove_clo_none (pd pn base b : Nat) (S : DM) (s : DS) (name : ByteArray) (w : World) (hR : Rep w base b S s)
    (hd : w.cell? ⟨pd, 0, none⟩ = some (theDisk b)) (hn : w.cell? ⟨pn, 0, none⟩ = some (.string name)) (hf : S.files.find? (named name.data.toList) = none) (hl : name.size ≤ maxLen) :
    Calls Tryz.prog 91 #[.pointer (some ⟨pd, 0, none⟩), .pointer (some ⟨pn, 0, none⟩)] w (Left fun k w' => k = 3 ∧ Turn [] w w') := by
  have hlk : ∀ n, (Instr.lookup 57 s.fs (.string name) false).run Tryz.prog (w.drewN n) = .ok (.pointer none) (w.drewN n) := by
    intro n
    have := (hR.new ((Turn.refl [] w).drewN n)).look name hl
    rw [this]; simp [ptrOf, hf]
  have c5 := hR.disk.c5
  unfold theDisk at hd
  clear hR hf hl
  go_enter Tryz.func91, Tryz.ntmps91
  go_wp2_with fail
  go_quiet (fail)
  go_wp2_with fail
  go_ret
  exact ⟨3, rfl, rfl, (Turn.refl [] w).drewN _⟩

theorem remove_clo_some (pd pn base b : Nat) (S : DM) (s : DS) (name : ByteArray) (f : FM) (w : World) (hR : Rep w base b S s)
    (hd : w.cell? ⟨pd, 0, none⟩ = some (theDisk b)) (hn : w.cell? ⟨pn, 0, none⟩ = some (.string name)) (hf : S.files.find? (named name.data.toList) = some f) (hl : name.size ≤ maxLen) (hsz : s.sz = total S.files) (hs1 : total S.files < 1000000000) (hbase : base ≤ w.heap.size) :
    Calls Tryz.prog 91 #[.pointer (some ⟨pd, 0, none⟩), .pointer (some ⟨pn, 0, none⟩)] w (Left fun k w' => k = 0 ∧ ∃ s', Rep w' base b { S with files := without name.data.toList S.files } s' ∧ s'.sz = total (without name.data.toList S.files) ∧ Turn (foot b S) w w') := by
  have hlk : ∀ n, (Instr.lookup 57 s.fs (.string name) false).run Tryz.prog (w.drewN n) = .ok (.pointer (some ⟨f.blk, 0, none⟩)) (w.drewN n) := by
    intro n
    have := (hR.new ((Turn.refl [] w).drewN n)).look name hl
    rw [this]; simp [ptrOf, hf]
  have c5 := hR.disk.c5
  have HD := Lib.hid (fun q : Nat => drop_some base b S s name f (w.drewN q) (hR.new ((Turn.refl [] w).drewN q)) hf hl hsz hs1 hbase)
  unfold theDisk at hd HD
  clear hR hf hl hsz hs1 hbase
  go_enter Tryz.func91, Tryz.ntmps91
  go_wp2_with fail
  go_quiet (fail)
  go_wp2_with fail
  refine (HD.out nq).mono ?_
  rintro e w2 ⟨rfl, s', h1, h2, t⟩
  have HE := Lib.hid (And.intro h1 (And.intro h2 (((Turn.refl (foot b S) w).drewN nq).trans t)))
  clear h1 h2 t HD hlk c5 hd hn
  go_wp2_with fail
  go_ret
  exact ⟨0, rfl, rfl, s', HE.out⟩

end Go.Proofs.YthglbmnhlnpmkaaGreat
