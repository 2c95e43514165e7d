/- Cut, that is carried out or refused. Numbers and types by name. -/
import Derived.Test.YthacjeeafnblmaaDoorChecked
import Derived.WalkKit
import Derived.WalkLawsBesides
import Derived.Lib.Hide
import Derived.BigQuiet
import Derived.Deep.QuietTactic
import Derived.Test.YthacjeeafnblmaaDoorOne
import Derived.Laws.IdiomStrings
import Derived.Lib.SlBytesConst
/- What a disk that there is not answers: each call of a nil receiver. Numbers and types by name. -/
namespace Go.Proofs.YthacjeeafnblmaaDoor
open Go.RowKit

theorem num1_any (k : Int) (w : World) : Calls Tryd.prog 12 #[.int .i64 k] w fun e w' => e = .returned (.int .i64 k) ∧ w = w' := by
  go_enter Tryd.func12, Tryd.ntmps12
  go_wp2
  go_ret
  exact ⟨rfl, rfl⟩

theorem write_nil (v : Value) (w : World) : Calls Tryd.prog 37 #[.pointer none, v] w fun e w' => e = .returned (.int .i64 3) ∧ w = w' := by
  go_enter Tryd.func37, Tryd.ntmps37
  go_wp2
  go_step3
  go_wp2
  rw [Exit.noGoto_ret]
  go_ret
  exact ⟨rfl, rfl⟩

theorem read_nil (v : Value) (w : World) : Calls Tryd.prog 23 #[.pointer none, v] w fun e w' => e = .returned (.tuple #[.slice none 0 0, .int .i64 3]) ∧ w = w' := by
  go_enter Tryd.func23, Tryd.ntmps23
  go_wp2
  go_ret2
  exact ⟨rfl, rfl⟩

theorem create_nil (s : ByteArray) (w : World) : Calls Tryd.prog 24 #[.pointer none, .string s] w fun e w' => e = .returned (.int .i64 3) ∧ Below w.heap.size w w' := by
  have hmf : ∀ (fn : Fn) (first cap : Array Value) (w : World), (Instr.makeFunc fn first cap).run Tryd.prog w = .ok (.func fn first cap) w := fun _ _ _ _ => rfl
  go_enter Tryd.func24, Tryd.ntmps24
  go_wp2_with (go_at_call 37; refine (write_nil _ _).mono ?_; rintro e w' ⟨rfl, rfl⟩)
  go_ret
  exact ⟨rfl, ((Below.refl _ _).alloc (Nat.le_refl _) _).alloc (by simp) _⟩

theorem sync_nil (s : ByteArray) (w : World) : Calls Tryd.prog 27 #[.pointer none, .string s] w fun e w' => e = .returned (.int .i64 3) ∧ Below w.heap.size w w' := by
  have hmf : ∀ (fn : Fn) (first cap : Array Value) (w : World), (Instr.makeFunc fn first cap).run Tryd.prog w = .ok (.func fn first cap) w := fun _ _ _ _ => rfl
  go_enter Tryd.func27, Tryd.ntmps27
  go_wp2_with (go_at_call 37; refine (write_nil _ _).mono ?_; rintro e w' ⟨rfl, rfl⟩)
  go_ret
  exact ⟨rfl, ((Below.refl _ _).alloc (Nat.le_refl _) _).alloc (by simp) _⟩

theorem append_nil (s : ByteArray) (ao : Option Addr) (n c : Nat) (w : World) : Calls Tryd.prog 30 #[.pointer none, .string s, .slice ao n c] w fun e w' => e = .returned (.int .i64 3) ∧ Below w.heap.size w w' := by
  have hmf : ∀ (fn : Fn) (first cap : Array Value) (w : World), (Instr.makeFunc fn first cap).run Tryd.prog w = .ok (.func fn first cap) w := fun _ _ _ _ => rfl
  go_enter Tryd.func30, Tryd.ntmps30
  go_wp2_with (go_at_call 37; refine (write_nil _ _).mono ?_; rintro e w' ⟨rfl, rfl⟩)
  go_ret
  exact ⟨rfl, (((Below.refl _ _).alloc (Nat.le_refl _) _).alloc (by simp) _).alloc (by simp; omega) _⟩

theorem cut_nil (s : ByteArray) (n : Int) (w : World) : Calls Tryd.prog 26 #[.pointer none, .string s, .int .i64 n] w fun e w' => e = .returned (.int .i64 3) ∧ Below w.heap.size w w' := by
  have hmf : ∀ (fn : Fn) (first cap : Array Value) (w : World), (Instr.makeFunc fn first cap).run Tryd.prog w = .ok (.func fn first cap) w := fun _ _ _ _ => rfl
  go_enter Tryd.func26, Tryd.ntmps26
  go_wp2_with (go_at_call 37; refine (write_nil _ _).mono ?_; rintro e w' ⟨rfl, rfl⟩)
  go_ret
  exact ⟨rfl, (((Below.refl _ _).alloc (Nat.le_refl _) _).alloc (by simp) _).alloc (by simp; omega) _⟩

end Go.Proofs.YthacjeeafnblmaaDoor

/- The document's example: awake. Numbers and types by name. -/
namespace Go.Proofs.YthacjeeafnblmaaDoor
open Go.RowKit Go.Maps Go.Sort Go.WideMaps

def fName : ByteArray := ⟨#[102]⟩

end Go.Proofs.YthacjeeafnblmaaDoor

/- Files. Numbers and types by name. -/
namespace Go.Proofs.YthacjeeafnblmaaDoor
open Go.RowKit Go.Maps Go.Sort Go.WideMaps

/-- The file of a name, or none. -/
def fileOf (files : List FM) (x : List UInt8) : FM := (files.find? (named x)).getD ⟨[], 0, none, [], 0⟩

/-- What stands in a row of files: of each its name, its bytes in a row of their own, how many are synced. -/
def Told (w : World) (base : Nat) (row : Option Nat) (fs : List FM) (xs : List Value) : Prop :=
  xs.length = fs.length * 3 ∧ ∀ j f, fs[j]? = some f → ∃ ao c, xs[j * 3]? = some (encStr f.name) ∧ xs[j * 3 + 1]? = some (.slice ao f.bytes.length c) ∧ xs[j * 3 + 2]? = some (.int .i64 f.sy) ∧
    w.ownsRow base 5 1 (.slice ao f.bytes.length c) f.bytes.length (bv f.bytes) ∧ ∀ g, (Value.slice ao f.bytes.length c).ownBlock = some g → row ≠ some g

theorem Told.nil (w : World) (base : Nat) (row : Option Nat) : Told w base row [] [] := ⟨rfl, fun j f h => by cases h⟩

/-- One file more: its bytes are copied, the row is appended to. -/
theorem Told.next {w w2 w3 : World} {base : Nat} {row row3 : Option Nat} {fs : List FM} {xs : List Value} (h : Told w base row fs xs) (f : FM) (ao : Option Addr) (c : Nat)
    (hg2 : w.grownBy w2 none) (h2 : w2.ownsRow w.heap.size 5 1 (.slice ao f.bytes.length c) f.bytes.length (bv f.bytes)) (o : Obj) (hg3 : (w2.alloc o).grownBy w3 row) (hrow : row3 = row ∨ row3 = some (w2.alloc o).heap.size) (hrl : ∀ g, row = some g → g < w.heap.size) (hbase : base ≤ w.heap.size) :
    Told w3 base row3 (fs ++ [f]) (xs ++ [encStr f.name, .slice ao f.bytes.length c, .int .i64 f.sy]) := by
  obtain ⟨hl, hx⟩ := h
  have t3 : Turn row.toList (w2.alloc o) w3 := Turn.of_grown hg3 (by intro k e; simp [e])
  have ta : Turn [] w2 (w2.alloc o) := (Turn.refl [] w2).alloc o
  refine ⟨by simp [hl, Nat.add_mul], fun j g hj => ?_⟩
  by_cases hjl : j < fs.length
  · rw [List.getElem?_append_left hjl] at hj
    obtain ⟨ao', c', e1, e2, e3, h4, h5⟩ := hx j g hj
    refine ⟨ao', c', by rw [List.getElem?_append_left (by omega)]; exact e1, by rw [List.getElem?_append_left (by omega)]; exact e2, by rw [List.getElem?_append_left (by omega)]; exact e3, ?_, ?_⟩
    · refine owns_turn (owns_turn (owns_turn h4 (Turn.of_none (F := []) hg2) (by simp)) ta (by simp)) t3 (fun k hk => ?_)
      have := h5 k hk
      simpa using this
    · intro k hk
      rcases hrow with e | e
      · rw [e]; exact h5 k hk
      · rw [e]
        have h6 := (h4.lt k hk).2
        have h7 := hg2.size
        simp
        omega
  · have hjl2 : j = fs.length := by
      have := (List.getElem?_eq_some_iff.1 hj).1
      simp at this
      omega
    subst hjl2
    rw [List.getElem?_append_right (Nat.le_refl _)] at hj
    simp at hj
    subst hj
    have hne : ∀ k, (Value.slice ao f.bytes.length c).ownBlock = some k → row ≠ some k := fun k hk e => by
      have h6 := (h2.lt k hk).1
      have := hrl k e
      omega
    refine ⟨ao, c, ?_, ?_, ?_, owns_base (owns_turn (owns_turn h2 ta (by simp)) t3 (fun k hk => by simpa using hne k hk)) hbase, ?_⟩
    · rw [List.getElem?_append_right (by omega), hl]; simp
    · rw [List.getElem?_append_right (by omega), hl, show fs.length * 3 + 1 - fs.length * 3 = 1 from by omega]; rfl
    · rw [List.getElem?_append_right (by omega), hl, show fs.length * 3 + 2 - fs.length * 3 = 2 from by omega]; rfl
    · intro k hk
      rcases hrow with e | e
      · rw [e]; exact hne k hk
      · rw [e]
        have h6 := (h2.lt k hk).2
        simp
        omega

theorem grown_of_turn {w w' : World} (t : Turn [] w w') : w.grownBy w' none := ⟨t.os, t.tape, t.output, t.size, fun k hk _ => t.block k hk (by simp)⟩

end Go.Proofs.YthacjeeafnblmaaDoor

/- Files and Calls of disks of one file; bytes that came in. Numbers and types by name. -/
namespace Go.Proofs.YthacjeeafnblmaaDoor
open Go.RowKit Go.Maps Go.Sort Go.WideMaps

end Go.Proofs.YthacjeeafnblmaaDoor

namespace Go.Proofs.YthacjeeafnblmaaDoor
open Go.RowKit Go.Maps Go.Sort Go.WideMaps

def cutTo (n : Nat) (g : FM) : FM := { g with bytes := g.bytes.take n, sy := min g.sy n }

/-- A file that is shortened. -/
theorem cut_rep {w w' : World} {base b : Nat} {S : DM} {s : DS} (h : Rep w base b S s) (hsz : s.sz = total S.files) (f : FM) (hf : S.files.find? (named f.name) = some f) (n : Nat) (hn : n ≤ f.bytes.length) (ao : Option Addr) (c : Nat)
    (hown : w.ownsRow base 5 1 (.slice ao f.bytes.length c) f.bytes.length (bv f.bytes)) (hrow : (Value.slice ao f.bytes.length c).ownBlock = f.row) (_hsy : f.sy ≤ f.bytes.length)
    (t : Turn [b, f.blk] w w') (hd : DiskC w' b { s with sz := s.sz - (f.bytes.length - n) }) (hfc : FileC w' f.blk (.slice ao n c) (min (f.sy : Int) n)) (hbase : base ≤ w.heap.size) :
    Rep w' base b { S with files := mapF f.name (cutTo n) S.files } { s with sz := total (mapF f.name (cutTo n) S.files) } := by
  obtain ⟨hmem, _⟩ := find_mem hf
  obtain ⟨hbf, hmf, hndf⟩ := h.apart2 f hmem
  have hblk : f.blk ∈ f.foot := by simp [FM.foot]
  have hl : (cutTo n f).bytes.length = n := by simp [cutTo]; omega
  have hrb : ∀ g, f.row = some g → g ≠ f.blk ∧ g ≠ b := by
    intro g hg
    refine ⟨?_, ?_⟩
    · rintro rfl; simp [FM.foot, hg] at hndf
    · rintro rfl; exact hbf (by simp [FM.foot, hg])
  have htot := total_mapF f.name (cutTo n) S.files f hf h.names
  rw [hl] at htot
  have e : s.sz - ((f.bytes.length : Int) - n) = (total (mapF f.name (cutTo n) S.files) : Int) := by omega
  rw [e] at hd
  refine h.file t f hf (cutTo n) (fun _ => rfl) (fun _ => rfl) (by intro x hx; simp at hx; rcases hx with rfl | rfl; exact .inl rfl; exact .inr hblk) ?_ (.inl rfl) _ hd hbase
  have e2 : ((cutTo n f).sy : Int) = min (f.sy : Int) n := by simp [cutTo]; omega
  refine ⟨ao, c, by rw [e2, hl]; exact hfc, ?_, ?_, ?_⟩
  · rw [hl, show bv (cutTo n f).bytes = (bv f.bytes).take n from by simp [cutTo, bv, List.map_take]]
    exact owns_turn (owns_take hown n hn) t (fun g hg => by
      have h0 : (Value.slice ao f.bytes.length c).ownBlock = some g := by cases ao with
        | none => cases hg
        | some a => exact hg
      have := hrb g (hrow.symm.trans h0)
      simp [this])
  · have : (Value.slice ao (cutTo n f).bytes.length c).ownBlock = (Value.slice ao f.bytes.length c).ownBlock := by cases ao <;> rfl
    rw [this]; exact hrow
  · rw [hl]; simp [cutTo]; omega

def Shorter (w : World) (base b : Nat) (S : DM) (ca : Int) (name : List UInt8) (n : Nat) (k : Int) (w' : World) : Prop :=
  k = 0 ∧ ∃ s', Rep w' base b { S with ca := ca, files := mapF name (cutTo n) S.files } s' ∧ s'.sz = total (mapF name (cutTo n) S.files) ∧ Turn (foot b S) w w'

def Refused (w : World) (base b : Nat) (S : DM) (s : DS) (ca : Int) (err : Int) (k : Int) (w' : World) : Prop :=
  k = err ∧ ∃ s', Rep w' base b { S with ca := ca } s' ∧ s'.sz = s.sz ∧ Turn (foot b S) w w'

theorem cut_clo (pd pn pk base b : Nat) (S : DM) (s : DS) (name : ByteArray) (n : Nat) (f : FM) (w : World) (hR : Rep w base b S s)
    (hd : w.cell? ⟨pd, 0, none⟩ = some (theDisk b)) (hn : w.cell? ⟨pn, 0, none⟩ = some (.string name)) (hk : w.cell? ⟨pk, 0, none⟩ = some (.int .i64 n))
    (hf : S.files.find? (named name.data.toList) = some f) (hl : name.size ≤ maxLen) (hnl : n ≤ f.bytes.length) (hsz : s.sz = total S.files) (hs1 : total S.files < 1000000000) (hbase : base ≤ w.heap.size) :
    Calls Tryd.prog 42 #[.pointer (some ⟨pd, 0, none⟩), .pointer (some ⟨pn, 0, none⟩), .pointer (some ⟨pk, 0, none⟩)] w (Left (Shorter w base b S S.ca name.data.toList n)) := by
  obtain ⟨hmem, hnm⟩ := find_mem hf
  obtain ⟨ao, c, hfc, hown, hrow, hsy⟩ := (hR.files f hmem).own
  obtain ⟨hbf, hmf, hnd⟩ := hR.apart2 f hmem
  have hblk : f.blk ∈ f.foot := by simp [FM.foot]
  have hsub : f.blk ∈ foot b S := by simp only [foot, List.mem_cons, List.mem_append, List.mem_flatMap]; exact .inr (.inr ⟨f, hmem, hblk⟩)
  have hbb : b ≠ f.blk := fun e => hbf (e ▸ hblk)
  have hlk : ∀ n, (Instr.lookup 52 s.fs (.string name) false).run Tryd.prog (w.drewN n) = .ok (.pointer (some ⟨f.blk, 0, none⟩)) (w.drewN n) := by
    intro n
    have := (hR.new ((Turn.refl [] w).drewN n)).look name hl
    rw [this]; simp [ptrOf, hf]
  have hft := le_total hmem
  have hcp := owns_cap hown
  have HS := Lib.hid (fun q : Nat => shorten_any b f.blk s ao f.bytes.length c f.sy n (w.drewN q) hR.disk hfc hnl hcp.1 hcp.2 hbb (by omega) (by omega))
  have HC := Lib.hid (fun (q : Nat) (w2 : World) (hd2 : DiskC w2 b { s with sz := s.sz - (f.bytes.length - n) }) (hf2 : FileC w2 f.blk (.slice ao n c) (min (f.sy : Int) n)) (t2 : Turn [b, f.blk] (w.drewN q) w2) =>
    cut_rep hR hsz f (by rw [hnm]; exact hf) n hnl ao c hown hrow hsy ⟨t2.os, t2.tape, t2.output, t2.size, t2.block⟩ hd2 hf2 hbase)
  have c5 := hR.disk.c5
  have f0 := hfc.c0
  have k1 : ¬ ((n : Int) < 0) := by omega
  have k2 : decide ((n : Int) < 0) = false := by simp
  have k3 : decide (f.bytes.length < n) = false := by simp; omega
  have k4 : ¬ (f.bytes.length < n) := by omega
  unfold theDisk at hd
  have HN := Lib.hid (And.intro hnm hsub)
  clear hR hfc hown hrow hsy hbf hmf hnd hblk hbb hft hcp hf hmem hnm hsub hsz hs1 hbase
  go_enter Tryd.func42, Tryd.ntmps42
  go_wp2
  go_quiet (fail)
  go_wp2
  go_quiet (fail)
  go_wp2_with fail
  refine (HS.out _).mono ?_
  rintro e w2 ⟨rfl, hd2, hf2, t2⟩
  have HR2 := Lib.hid (HC.out _ w2 hd2 hf2 t2)
  have HT2 : Hid (Turn (foot b S) w w2) := Lib.hid (⟨t2.os, t2.tape, t2.output, t2.size, fun k hk hne => t2.block k hk (by simp; exact ⟨fun e => hne (by simp [foot, e]), fun e => hne (e ▸ HN.out.2)⟩)⟩)
  clear HS HC hd2 hf2 t2 c5 f0 hlk
  go_wp2_with fail
  go_ret
  have := HR2.out
  rw [HN.out.1] at this
  exact ⟨0, rfl, rfl, _, this, rfl, HT2.out⟩

theorem cut_bad (pd pn pk base b : Nat) (S : DM) (s : DS) (name : ByteArray) (n : Int) (f : FM) (w : World) (hR : Rep w base b S s)
    (hd : w.cell? ⟨pd, 0, none⟩ = some (theDisk b)) (hn : w.cell? ⟨pn, 0, none⟩ = some (.string name)) (hk : w.cell? ⟨pk, 0, none⟩ = some (.int .i64 n))
    (hf : S.files.find? (named name.data.toList) = some f) (hl : name.size ≤ maxLen) (h0 : 0 ≤ n) (hnl : (f.bytes.length : Int) < n) (_hbase : base ≤ w.heap.size) :
    Calls Tryd.prog 42 #[.pointer (some ⟨pd, 0, none⟩), .pointer (some ⟨pn, 0, none⟩), .pointer (some ⟨pk, 0, none⟩)] w (Left (Refused w base b S s S.ca 1)) := by
  obtain ⟨hmem, hnm⟩ := find_mem hf
  obtain ⟨ao, c, hfc, hown, hrow, hsy⟩ := (hR.files f hmem).own
  have hlk : ∀ n, (Instr.lookup 52 s.fs (.string name) false).run Tryd.prog (w.drewN n) = .ok (.pointer (some ⟨f.blk, 0, none⟩)) (w.drewN n) := by
    intro n
    have := (hR.new ((Turn.refl [] w).drewN n)).look name hl
    rw [this]; simp [ptrOf, hf]
  have c5 := hR.disk.c5
  have f0 := hfc.c0
  have k1 : ¬ (n < 0) := by omega
  have k2 : decide (n < 0) = false := by simp; omega
  have k3 : decide ((f.bytes.length : Int) < n) = true := by simp; omega
  unfold theDisk at hd
  have HR := Lib.hid hR
  clear hR hfc hown hrow hsy hf hmem hnm
  go_enter Tryd.func42, Tryd.ntmps42
  go_wp2
  go_quiet (fail)
  go_wp2
  go_quiet (fail)
  go_wp2
  go_ret
  rw [World.drewN_drewN]
  exact ⟨1, rfl, rfl, s, HR.out.new ((Turn.refl [] w).drewN _), rfl, (Turn.refl _ w).drewN _⟩

/-- Cut's method over what its closure does. -/
theorem cut_met (base b : Nat) (S : DM) (s : DS) (name : ByteArray) (n : Int) (w : World) (R : Int → World → Prop) (hR : Rep w base b S s) (hr : Runs S)
    (hcl : ∀ w1, Rep w1 base b { S with ca := S.ca + 1 } { s with ca := S.ca + 1 } → Turn [b] w w1 → w1.cell? ⟨w.heap.size, 0, none⟩ = some (theDisk b) → w1.cell? ⟨w.heap.size + 1, 0, none⟩ = some (.string name) → w1.cell? ⟨w.heap.size + 1 + 1, 0, none⟩ = some (.int .i64 n) →
      Calls Tryd.prog 42 #[.pointer (some ⟨w.heap.size, 0, none⟩), .pointer (some ⟨w.heap.size + 1, 0, none⟩), .pointer (some ⟨w.heap.size + 1 + 1, 0, none⟩)] w1 (Left R)) :
    Calls Tryd.prog 26 #[theDisk b, .string name, .int .i64 n] w (Left R) := by
  have hw : ∀ W, W = ((w.alloc (.cells #[theDisk b] 29)).alloc (.cells #[.string name] 9)).alloc (.cells #[.int .i64 n] 3) →
      Calls Tryd.prog 37 #[theDisk b, .func (.func 42) #[] #[.pointer (some ⟨w.heap.size, 0, none⟩), .pointer (some ⟨w.heap.size + 1, 0, none⟩), .pointer (some ⟨w.heap.size + 1 + 1, 0, none⟩)]] W (Left R) := by
    rintro W rfl
    have ta : Turn [] w (w.alloc (.cells #[theDisk b] 29)) := (Turn.refl [] w).alloc _
    have tb : Turn [] (w.alloc (.cells #[theDisk b] 29)) ((w.alloc (.cells #[theDisk b] 29)).alloc (.cells #[.string name] 9)) := (Turn.refl [] _).alloc _
    have tc : Turn [] ((w.alloc (.cells #[theDisk b] 29)).alloc (.cells #[.string name] 9)) (((w.alloc (.cells #[theDisk b] 29)).alloc (.cells #[.string name] 9)).alloc (.cells #[.int .i64 n] 3)) := (Turn.refl [] _).alloc _
    have t0 := (ta.trans tb).trans tc
    have hbl := hR.disk.lt
    refine write_run base b _ _ S s _ _ (hR.new t0) hr.dw hr.cr hr.fail hr.ca0 hr.ca1 hr.fl (enters_of Tryd.func42 (by kernel_rfl) rfl) ?_
    intro w1 hR1 t1
    have hpd : w1.cell? ⟨w.heap.size, 0, none⟩ = some (theDisk b) := box_at (((tb.trans tc).mono (by simp)).trans t1) (by simp; omega)
    have hpn : w1.cell? ⟨w.heap.size + 1, 0, none⟩ = some (.string name) := by
      have := box_at ((tc.mono (by simp)).trans t1) (by simp; omega)
      simpa using this
    have hpb : w1.cell? ⟨w.heap.size + 1 + 1, 0, none⟩ = some (.int .i64 n) := by
      have := box_at t1 (by simp; omega)
      simpa using this
    exact hcl w1 hR1 ((t0.mono (by simp)).trans t1) hpd hpn hpb
  have hmf := hmf
  unfold theDisk at hw
  unfold theDisk
  clear hR hr hcl
  go_enter Tryd.func26, Tryd.ntmps26
  go_wp2_with fail
  refine (hw _ rfl).mono ?_
  rintro e w' ⟨k, rfl, hk⟩
  have HK := Lib.hid hk
  clear hk hw
  go_wp2
  go_ret
  exact ⟨k, rfl, HK.out⟩

theorem cut_one (base b : Nat) (nm l : List UInt8) (sy : Nat) (cap ca : Int) (keep : List Int) (name : ByteArray) (n : Nat) (w : World) (h : One w base b nm l sy cap ca keep) (hca : ca < 999) (hnm : name.data.toList = nm) (hl : name.size ≤ maxLen) (hlen : l.length < 1000000000) (hn : n ≤ l.length) :
    Calls Tryd.prog 26 #[theDisk b, .string name, .int .i64 n] w fun e w' => e = .returned (.int .i64 0) ∧ One w' base b nm (l.take n) (min sy n) cap (ca + 1) keep ∧ Below base w w' := by
  obtain ⟨h0, S, s, f, hR, hs, hf, hfn, hb, hsy, hc⟩ := h
  have ht : total S.files = l.length := by simp [total, hf, hb]
  have hfind : S.files.find? (named name.data.toList) = some f := by simp [hf, named, hfn, hnm]
  refine (cut_met base b S s name n w (fun k w' => ∃ w1, Turn [b] w w1 ∧ Shorter w1 base b { S with ca := S.ca + 1 } (S.ca + 1) name.data.toList n k w') hR hc.runs ?_).mono ?_
  · intro w1 hR1 t1 h1 h2 h3
    refine (cut_clo _ _ _ base b _ _ name n f w1 hR1 h1 h2 h3 hfind hl (by rw [hb]; exact hn) (by show s.sz = _; rw [hs, ← ht]) (by show total S.files < _; omega) (Nat.le_trans h0 t1.size)).mono ?_
    rintro e w' ⟨k, rfl, hk⟩
    exact ⟨k, rfl, w1, t1, hk⟩
  · rintro e w' ⟨k, rfl, w1, t1, rfl, s', h1, h2, h3⟩
    have hfin : mapF name.data.toList (cutTo n) S.files = [cutTo n f] := by simp [mapF, hf, named, hfn, hnm]
    have tt : Turn (foot b S) w w' := (t1.mono (by intro x hx; simp at hx; subst hx; simp [foot])).trans h3
    refine ⟨rfl, ⟨Nat.le_trans h0 tt.size, _, s', cutTo n f, h1, ?_, hfin, hfn, by simp [cutTo, hb], by simp [cutTo, hsy], ⟨hc.cap, hc.cr, by show S.ca + 1 = _; rw [hc.ca], by have := hc.ca0; omega, by omega, hc.dw, hc.fail, hc.keep⟩⟩, below_turn hR h0 tt⟩
    rw [h2]
    show ((total (mapF name.data.toList (cutTo n) S.files) : Nat) : Int) = _
    rw [hfin]
    simp [total, cutTo, hb]

theorem cut_one_bad (base b : Nat) (nm l : List UInt8) (sy : Nat) (cap ca : Int) (keep : List Int) (name : ByteArray) (n : Int) (w : World) (h : One w base b nm l sy cap ca keep) (hca : ca < 999) (hnm : name.data.toList = nm) (hl : name.size ≤ maxLen) (hn0 : 0 ≤ n) (hn : (l.length : Int) < n) :
    Calls Tryd.prog 26 #[theDisk b, .string name, .int .i64 n] w fun e w' => e = .returned (.int .i64 1) ∧ One w' base b nm l sy cap (ca + 1) keep ∧ Below base w w' := by
  obtain ⟨h0, S, s, f, hR, hs, hf, hfn, hb, hsy, hc⟩ := h
  have hfind : S.files.find? (named name.data.toList) = some f := by simp [hf, named, hfn, hnm]
  refine (cut_met base b S s name n w (fun k w' => ∃ w1, Turn [b] w w1 ∧ Refused w1 base b { S with ca := S.ca + 1 } { s with ca := S.ca + 1 } (S.ca + 1) 1 k w') hR hc.runs ?_).mono ?_
  · intro w1 hR1 t1 h1 h2 h3
    refine (cut_bad _ _ _ base b _ _ name n f w1 hR1 h1 h2 h3 hfind hl hn0 (by rw [hb]; exact hn) (Nat.le_trans h0 t1.size)).mono ?_
    rintro e w' ⟨k, rfl, hk⟩
    exact ⟨k, rfl, w1, t1, hk⟩
  · rintro e w' ⟨k, rfl, w1, t1, rfl, s', h1, h2, h3⟩
    have tt : Turn (foot b S) w w' := (t1.mono (by intro x hx; simp at hx; subst hx; simp [foot])).trans h3
    exact ⟨rfl, ⟨Nat.le_trans h0 tt.size, _, s', f, h1, by rw [h2]; exact hs, hf, hfn, hb, hsy, ⟨hc.cap, hc.cr, by show S.ca + 1 = _; rw [hc.ca], by have := hc.ca0; omega, by omega, hc.dw, hc.fail, hc.keep⟩⟩, below_turn hR h0 tt⟩

end Go.Proofs.YthacjeeafnblmaaDoor
