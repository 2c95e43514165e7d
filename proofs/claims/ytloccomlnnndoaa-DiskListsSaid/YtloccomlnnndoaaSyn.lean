/- Sync, that is carried out. Numbers and types by name. -/
import Derived.Test.YtloccomlnnndoaaAp2
namespace Go.Proofs.Ytloccomlnnndoaa
open Go.RowKit Go.Maps Go.Sort Go.WideMaps

def synced (g : FM) : FM := { g with sy := g.bytes.length }

def AllSynced (w : World) (base b : Nat) (S : DM) (s : DS) (ca : Int) (name : List UInt8) (k : Int) (w' : World) : Prop :=
  k = 0 ∧ ∃ s', Rep w' base b { S with ca := ca, files := mapF name synced S.files } s' ∧ s'.sz = s.sz ∧ Turn (foot b S) w w'

theorem sync_walk (pd pn b fb : Nat) (name : ByteArray) (fs : Value) (ao : Option Addr) (n c : Nat) (sy : Int) (w : World)
    (hd : w.cell? ⟨pd, 0, none⟩ = some (.pointer (some ⟨b, 0, none⟩))) (hn : w.cell? ⟨pn, 0, none⟩ = some (.string name)) (c5 : w.cell? ⟨b, 5, none⟩ = some fs)
    (f0 : w.cell? ⟨fb, 0, none⟩ = some (.slice ao n c)) (f1 : w.cell? ⟨fb, 1, none⟩ = some (.int .i64 sy)) (g1 : w.frozen? ⟨fb, 1, none⟩ = false)
    (hlk : ∀ n, (Instr.lookup 63 fs (.string name) false).run Try.prog (w.drewN n) = .ok (.pointer (some ⟨fb, 0, none⟩)) (w.drewN n)) :
    Calls Try.prog 44 #[.pointer (some ⟨pd, 0, none⟩), .pointer (some ⟨pn, 0, none⟩)] w fun e w' => e = .returned (.int .i64 0) ∧ ∃ n1, w' = (w.setCell ⟨fb, 1, none⟩ (.int .i64 n)).drewN n1 := by
  go_enter Try.func44, Try.ntmps44
  go_wp2
  go_quiet (fail)
  go_wp2
  go_ret
  exact ⟨rfl, _, rfl⟩

theorem sync_clo (pd pn base b : Nat) (S : DM) (s : DS) (name : ByteArray) (f : FM) (w : World) (hR : Rep w base b S s)
    (hd : w.cell? ⟨pd, 0, none⟩ = some (theDisk b)) (hn : w.cell? ⟨pn, 0, none⟩ = some (.string name))
    (hf : S.files.find? (named name.data.toList) = some f) (hl : name.size ≤ maxLen) (hbase : base ≤ w.heap.size) :
    Calls Try.prog 44 #[.pointer (some ⟨pd, 0, none⟩), .pointer (some ⟨pn, 0, none⟩)] w (Left (AllSynced w base b S s S.ca name.data.toList)) := by
  obtain ⟨hmem, hnm⟩ := find_mem hf
  obtain ⟨ao, c, hfc, hown, hrow, hsy⟩ := (hR.files f hmem).own
  obtain ⟨hbf, hmf, hnd⟩ := hR.apart2 f hmem
  have hsub : ∀ x ∈ f.foot, x ∈ foot b S := fun x hx => by simp only [foot, List.mem_cons, List.mem_append, List.mem_flatMap]; exact .inr (.inr ⟨f, hmem, hx⟩)
  have hblk : f.blk ∈ f.foot := by simp [FM.foot]
  have hbb : b ≠ f.blk := fun e => hbf (e ▸ hblk)
  have hlk : ∀ n, (Instr.lookup 63 s.fs (.string name) false).run Try.prog (w.drewN n) = .ok (.pointer (some ⟨f.blk, 0, none⟩)) (w.drewN n) := by
    intro n
    have := (hR.new ((Turn.refl [] w).drewN n)).look name hl
    rw [this]; simp [ptrOf, hf]
  refine (sync_walk pd pn b f.blk name s.fs ao f.bytes.length c f.sy w hd hn hR.disk.c5 hfc.c0 hfc.c1 (hfc.free 1) hlk).mono ?_
  rintro e w' ⟨rfl, n1, rfl⟩
  have t : Turn [f.blk] w (w.setCell ⟨f.blk, 1, none⟩ (.int .i64 f.bytes.length)) := (Turn.refl _ w).set (.inl (by simp)) 1 _
  have hrb : ∀ g, f.row = some g → g ≠ f.blk := by
    rintro g hg rfl
    simp [FM.foot, hg] at hnd
  refine ⟨0, rfl, rfl, s, ?_, rfl, (t.mono (by intro x hx; simp at hx; subst hx; exact hsub _ hblk)).drewN n1⟩
  have := hR.file t f (by rw [hnm]; exact hf) synced (fun _ => rfl) (fun _ => rfl) (by intro x hx; simp at hx; subst hx; exact .inr hblk)
    ⟨ao, c, hfc.set1 _, owns_turn hown t (fun g hg => by simpa using hrb g (hrow.symm.trans hg)), hrow, Nat.le_refl _⟩ (.inl rfl) s.sz (hR.disk.turn t (by simpa using hbb)) hbase
  rw [hnm] at this
  exact this.new ((Turn.refl [] _).drewN n1)

theorem sync_ok (base b : Nat) (S : DM) (s : DS) (name : ByteArray) (f : FM) (w : World) (hR : Rep w base b S s) (hr : Runs S) (hf : S.files.find? (named name.data.toList) = some f) (hl : name.size ≤ maxLen) (hbase : base ≤ w.heap.size) :
    Calls Try.prog 22 #[theDisk b, .string name] w (Left (AllSynced w base b S s (S.ca + 1) name.data.toList)) := by
  have hw : ∀ W, W = (w.alloc (.cells #[theDisk b] 28)).alloc (.cells #[.string name] 9) →
      Calls Try.prog 40 #[theDisk b, .func (.func 44) #[] #[.pointer (some ⟨w.heap.size, 0, none⟩), .pointer (some ⟨w.heap.size + 1, 0, none⟩)]] W (Left (AllSynced w base b S s (S.ca + 1) name.data.toList)) := by
    rintro W rfl
    have ta : Turn [] w (w.alloc (.cells #[theDisk b] 28)) := (Turn.refl [] w).alloc _
    have tb : Turn [] (w.alloc (.cells #[theDisk b] 28)) ((w.alloc (.cells #[theDisk b] 28)).alloc (.cells #[.string name] 9)) := (Turn.refl [] _).alloc _
    have t0 := ta.trans tb
    have hbl := hR.disk.lt
    refine write_run base b _ _ S s _ _ (hR.new t0) hr.dw hr.cr hr.fail hr.ca0 hr.ca1 hr.fl (enters_of Try.func44 (by kernel_rfl) rfl) ?_
    intro w1 hR1 t1
    have hpd : w1.cell? ⟨w.heap.size, 0, none⟩ = some (theDisk b) := box_at ((tb.mono (by simp)).trans t1) (by simp; omega)
    have hpn : w1.cell? ⟨w.heap.size + 1, 0, none⟩ = some (.string name) := by
      have := box_at t1 (by simp; omega)
      simpa using this
    have hs1' : w.heap.size ≤ w1.heap.size := Nat.le_trans t0.size t1.size
    refine (sync_clo w.heap.size (w.heap.size + 1) base b _ _ name f w1 hR1 hpd hpn hf hl (Nat.le_trans hbase hs1')).mono ?_
    rintro e w' ⟨k, rfl, hk, s', h1, h2, h3⟩
    exact ⟨k, rfl, hk, s', h1, h2, (t0.mono (by simp)).trans ((t1.mono (by intro x hx; simp at hx; subst hx; simp [foot])).trans h3)⟩
  have hmf := hmf
  unfold theDisk at hw
  unfold theDisk
  clear hR hr hf hl hbase
  go_enter Try.func22, Try.ntmps22
  go_wp2_with fail
  refine (hw _ rfl).mono ?_
  rintro e w' ⟨k, rfl, hk⟩
  have HK := Lib.hid hk
  clear hk hw
  go_wp2
  go_ret
  exact ⟨k, rfl, HK.out⟩

end Go.Proofs.Ytloccomlnnndoaa
