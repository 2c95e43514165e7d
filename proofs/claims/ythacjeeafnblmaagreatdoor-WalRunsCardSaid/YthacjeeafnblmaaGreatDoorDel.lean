/- A file that is removed: the map's entry is deleted. Numbers and types by name. -/
import Derived.Test.YthacjeeafnblmaaGreatDoorFls
/- Files and Calls of disks of one file; bytes that came in. Numbers and types by name. -/
namespace Go.Proofs.YthacjeeafnblmaaGreatDoor
open Go.RowKit Go.Maps Go.Sort Go.WideMaps

theorem calls_rep (base b : Nat) (S : DM) (s : DS) (w : World) (hR : Rep w base b S s) :
    Calls Tryz.prog 49 #[theDisk b] w fun e w' => e = .returned (.int .i64 S.ca) ∧ w = w' := by
  have c7 := hR.disk.c7
  rw [hR.ca] at c7
  clear hR
  unfold theDisk
  go_enter Tryz.func49, Tryz.ntmps49
  go_wp2
  go_ret
  exact ⟨rfl, rfl⟩

theorem calls_one (base b : Nat) (nm l : List UInt8) (sy : Nat) (cap ca : Int) (keep : List Int) (w : World) (h : One w base b nm l sy cap ca keep) :
    Calls Tryz.prog 49 #[theDisk b] w fun e w' => e = .returned (.int .i64 ca) ∧ w = w' := by
  obtain ⟨h0, S, s, f, hR, hs, hf, hn, hb, hsy, hc⟩ := h
  have := calls_rep base b S s w hR
  rw [hc.ca] at this
  exact this

/-- Of a disk of one file just that one is told. -/
theorem files_one (base b : Nat) (nm l : List UInt8) (sy : Nat) (cap ca : Int) (keep : List Int) (w : World) (h : One w base b nm l sy cap ca keep) (hl : nm.length ≤ maxLen) (hlen : l.length < 1000000000) :
    Calls Tryz.prog 48 #[theDisk b] w fun e w' => ∃ g c aob cb, e = .returned (.slice (some ⟨g, 0, none⟩) 1 c) ∧ w.heap.size ≤ g ∧ w'.cell? ⟨g, 0, none⟩ = some (encStr nm) ∧ w'.cell? ⟨g, 1, none⟩ = some (.slice aob l.length cb) ∧ w'.cell? ⟨g, 2, none⟩ = some (.int .i64 sy) ∧
      w'.ownsRow w.heap.size 5 1 (.slice aob l.length cb) l.length (bv l) ∧ w.grownBy w' none := by
  obtain ⟨h0, S, s, f, hR, hs, hf, hn, hb, hsy2, hc⟩ := h
  have ht : total S.files = l.length := by simp [total, hf, hb]
  have hsn : sortedNames S.files = [nm] := by simp [sortedNames, hf, hn]
  refine (files_any base b S s w hR (by omega) (by simp [hf]) (by simp [hf, hn, hl])).mono ?_
  rintro e w' ⟨ao, c, xs, rfl, hown, ⟨hxl, hx⟩, hg⟩
  have hfo : (sortedNames S.files).map (fileOf S.files) = [f] := by
    rw [hsn, hf]; simp [fileOf, named, hn]
  rw [hfo] at hx hxl
  have h1 : S.files.length = 1 := by simp [hf]
  rw [h1] at hown ⊢
  obtain ⟨aob, cb, x0, x1, x2, hbo, _⟩ := hx 0 f rfl
  obtain ⟨g, cap', hv, hge, hglt⟩ := hown.form (by omega)
  simp only [Value.slice.injEq] at hv
  obtain ⟨rfl, _, rfl⟩ := hv
  rw [hb] at x1 hbo
  rw [hn] at x0
  rw [hsy2] at x2
  exact ⟨g, c, aob, cb, rfl, hge, (hown.cellAt 0 (by omega)).trans x0, (hown.cellAt 1 (by omega)).trans x1, (hown.cellAt 2 (by omega)).trans x2, hbo, hg⟩

end Go.Proofs.YthacjeeafnblmaaGreatDoor

/- Cut, that is carried out or refused. Numbers and types by name. -/
namespace Go.Proofs.YthacjeeafnblmaaGreatDoor
open Go.RowKit Go.Maps Go.Sort Go.WideMaps

def cutTo (n : Nat) (g : FM) : FM := { g with bytes := g.bytes.take n, sy := min g.sy n }

/-- A file that is shortened. -/
theorem cut_rep {w w' : World} {base b : Nat} {S : DM} {s : DS} (h : Rep w base b S s) (hsz : s.sz = total S.files) (f : FM) (hf : S.files.find? (named f.name) = some f) (n : Nat) (hn : n ≤ f.bytes.length) (ao : Option Addr) (c : Nat)
    (hown : w.ownsRow base 5 1 (.slice ao f.bytes.length c) f.bytes.length (bv f.bytes)) (hrow : (Value.slice ao f.bytes.length c).ownBlock = f.row) (_hsy : f.sy ≤ f.bytes.length)
    (t : Turn [b, f.blk] w w') (hd : DiskC w' b { s with sz := s.sz - (f.bytes.length - n) }) (hfc : FileC w' f.blk (.slice ao n c) (min (f.sy : Int) n)) (hbase : base ≤ w.heap.size) :
    Rep w' base b { S with files := mapF f.name (cutTo n) S.files } { s with sz := total (mapF f.name (cutTo n) S.files) } := by
  obtain ⟨hmem, _⟩ := find_mem hf
  obtain ⟨hbf, hmf, hndf⟩ := h.apart2 f hmem
  have hblk : f.blk ∈ f.foot := by simp [FM.foot]
  have hl : (cutTo n f).bytes.length = n := by simp [cutTo]; omega
  have hrb : ∀ g, f.row = some g → g ≠ f.blk ∧ g ≠ b := by
    intro g hg
    refine ⟨?_, ?_⟩
    · rintro rfl; simp [FM.foot, hg] at hndf
    · rintro rfl; exact hbf (by simp [FM.foot, hg])
  have htot := total_mapF f.name (cutTo n) S.files f hf h.names
  rw [hl] at htot
  have e : s.sz - ((f.bytes.length : Int) - n) = (total (mapF f.name (cutTo n) S.files) : Int) := by omega
  rw [e] at hd
  refine h.file t f hf (cutTo n) (fun _ => rfl) (fun _ => rfl) (by intro x hx; simp at hx; rcases hx with rfl | rfl; exact .inl rfl; exact .inr hblk) ?_ (.inl rfl) _ hd hbase
  have e2 : ((cutTo n f).sy : Int) = min (f.sy : Int) n := by simp [cutTo]; omega
  refine ⟨ao, c, by rw [e2, hl]; exact hfc, ?_, ?_, ?_⟩
  · rw [hl, show bv (cutTo n f).bytes = (bv f.bytes).take n from by simp [cutTo, bv, List.map_take]]
    exact owns_turn (owns_take hown n hn) t (fun g hg => by
      have h0 : (Value.slice ao f.bytes.length c).ownBlock = some g := by cases ao with
        | none => cases hg
        | some a => exact hg
      have := hrb g (hrow.symm.trans h0)
      simp [this])
  · have : (Value.slice ao (cutTo n f).bytes.length c).ownBlock = (Value.slice ao f.bytes.length c).ownBlock := by cases ao <;> rfl
    rw [this]; exact hrow
  · rw [hl]; simp [cutTo]; omega

def Shorter (w : World) (base b : Nat) (S : DM) (ca : Int) (name : List UInt8) (n : Nat) (k : Int) (w' : World) : Prop :=
  k = 0 ∧ ∃ s', Rep w' base b { S with ca := ca, files := mapF name (cutTo n) S.files } s' ∧ s'.sz = total (mapF name (cutTo n) S.files) ∧ Turn (foot b S) w w'

def Refused (w : World) (base b : Nat) (S : DM) (s : DS) (ca : Int) (err : Int) (k : Int) (w' : World) : Prop :=
  k = err ∧ ∃ s', Rep w' base b { S with ca := ca } s' ∧ s'.sz = s.sz ∧ Turn (foot b S) w w'

theorem cut_clo (pd pn pk base b : Nat) (S : DM) (s : DS) (name : ByteArray) (n : Nat) (f : FM) (w : World) (hR : Rep w base b S s)
    (hd : w.cell? ⟨pd, 0, none⟩ = some (theDisk b)) (hn : w.cell? ⟨pn, 0, none⟩ = some (.string name)) (hk : w.cell? ⟨pk, 0, none⟩ = some (.int .i64 n))
    (hf : S.files.find? (named name.data.toList) = some f) (hl : name.size ≤ maxLen) (hnl : n ≤ f.bytes.length) (hsz : s.sz = total S.files) (hs1 : total S.files < 1000000000) (hbase : base ≤ w.heap.size) :
    Calls Tryz.prog 66 #[.pointer (some ⟨pd, 0, none⟩), .pointer (some ⟨pn, 0, none⟩), .pointer (some ⟨pk, 0, none⟩)] w (Left (Shorter w base b S S.ca name.data.toList n)) := by
  obtain ⟨hmem, hnm⟩ := find_mem hf
  obtain ⟨ao, c, hfc, hown, hrow, hsy⟩ := (hR.files f hmem).own
  obtain ⟨hbf, hmf, hnd⟩ := hR.apart2 f hmem
  have hblk : f.blk ∈ f.foot := by simp [FM.foot]
  have hsub : f.blk ∈ foot b S := by simp only [foot, List.mem_cons, List.mem_append, List.mem_flatMap]; exact .inr (.inr ⟨f, hmem, hblk⟩)
  have hbb : b ≠ f.blk := fun e => hbf (e ▸ hblk)
  have hlk : ∀ n, (Instr.lookup 69 s.fs (.string name) false).run Tryz.prog (w.drewN n) = .ok (.pointer (some ⟨f.blk, 0, none⟩)) (w.drewN n) := by
    intro n
    have := (hR.new ((Turn.refl [] w).drewN n)).look name hl
    rw [this]; simp [ptrOf, hf]
  have hft := le_total hmem
  have hcp := owns_cap hown
  have HS := Lib.hid (fun q : Nat => shorten_any b f.blk s ao f.bytes.length c f.sy n (w.drewN q) hR.disk hfc hnl hcp.1 hcp.2 hbb (by omega) (by omega))
  have HC := Lib.hid (fun (q : Nat) (w2 : World) (hd2 : DiskC w2 b { s with sz := s.sz - (f.bytes.length - n) }) (hf2 : FileC w2 f.blk (.slice ao n c) (min (f.sy : Int) n)) (t2 : Turn [b, f.blk] (w.drewN q) w2) =>
    cut_rep hR hsz f (by rw [hnm]; exact hf) n hnl ao c hown hrow hsy ⟨t2.os, t2.tape, t2.output, t2.size, t2.block⟩ hd2 hf2 hbase)
  have c5 := hR.disk.c5
  have f0 := hfc.c0
  have k1 : ¬ ((n : Int) < 0) := by omega
  have k2 : decide ((n : Int) < 0) = false := by simp
  have k3 : decide (f.bytes.length < n) = false := by simp; omega
  have k4 : ¬ (f.bytes.length < n) := by omega
  unfold theDisk at hd
  have HN := Lib.hid (And.intro hnm hsub)
  clear hR hfc hown hrow hsy hbf hmf hnd hblk hbb hft hcp hf hmem hnm hsub hsz hs1 hbase
  go_enter Tryz.func66, Tryz.ntmps66
  go_wp2
  go_quiet (fail)
  go_wp2
  go_quiet (fail)
  go_wp2_with fail
  refine (HS.out _).mono ?_
  rintro e w2 ⟨rfl, hd2, hf2, t2⟩
  have HR2 := Lib.hid (HC.out _ w2 hd2 hf2 t2)
  have HT2 : Hid (Turn (foot b S) w w2) := Lib.hid (⟨t2.os, t2.tape, t2.output, t2.size, fun k hk hne => t2.block k hk (by simp; exact ⟨fun e => hne (by simp [foot, e]), fun e => hne (e ▸ HN.out.2)⟩)⟩)
  clear HS HC hd2 hf2 t2 c5 f0 hlk
  go_wp2_with fail
  go_ret
  have := HR2.out
  rw [HN.out.1] at this
  exact ⟨0, rfl, rfl, _, this, rfl, HT2.out⟩

theorem cut_bad (pd pn pk base b : Nat) (S : DM) (s : DS) (name : ByteArray) (n : Int) (f : FM) (w : World) (hR : Rep w base b S s)
    (hd : w.cell? ⟨pd, 0, none⟩ = some (theDisk b)) (hn : w.cell? ⟨pn, 0, none⟩ = some (.string name)) (hk : w.cell? ⟨pk, 0, none⟩ = some (.int .i64 n))
    (hf : S.files.find? (named name.data.toList) = some f) (hl : name.size ≤ maxLen) (h0 : 0 ≤ n) (hnl : (f.bytes.length : Int) < n) (_hbase : base ≤ w.heap.size) :
    Calls Tryz.prog 66 #[.pointer (some ⟨pd, 0, none⟩), .pointer (some ⟨pn, 0, none⟩), .pointer (some ⟨pk, 0, none⟩)] w (Left (Refused w base b S s S.ca 1)) := by
  obtain ⟨hmem, hnm⟩ := find_mem hf
  obtain ⟨ao, c, hfc, hown, hrow, hsy⟩ := (hR.files f hmem).own
  have hlk : ∀ n, (Instr.lookup 69 s.fs (.string name) false).run Tryz.prog (w.drewN n) = .ok (.pointer (some ⟨f.blk, 0, none⟩)) (w.drewN n) := by
    intro n
    have := (hR.new ((Turn.refl [] w).drewN n)).look name hl
    rw [this]; simp [ptrOf, hf]
  have c5 := hR.disk.c5
  have f0 := hfc.c0
  have k1 : ¬ (n < 0) := by omega
  have k2 : decide (n < 0) = false := by simp; omega
  have k3 : decide ((f.bytes.length : Int) < n) = true := by simp; omega
  unfold theDisk at hd
  have HR := Lib.hid hR
  clear hR hfc hown hrow hsy hf hmem hnm
  go_enter Tryz.func66, Tryz.ntmps66
  go_wp2
  go_quiet (fail)
  go_wp2
  go_quiet (fail)
  go_wp2
  go_ret
  rw [World.drewN_drewN]
  exact ⟨1, rfl, rfl, s, HR.out.new ((Turn.refl [] w).drewN _), rfl, (Turn.refl _ w).drewN _⟩

/-- Cut's method over what its closure does. -/
theorem cut_met (base b : Nat) (S : DM) (s : DS) (name : ByteArray) (n : Int) (w : World) (R : Int → World → Prop) (hR : Rep w base b S s) (hr : Runs S)
    (hcl : ∀ w1, Rep w1 base b { S with ca := S.ca + 1 } { s with ca := S.ca + 1 } → Turn [b] w w1 → w1.cell? ⟨w.heap.size, 0, none⟩ = some (theDisk b) → w1.cell? ⟨w.heap.size + 1, 0, none⟩ = some (.string name) → w1.cell? ⟨w.heap.size + 1 + 1, 0, none⟩ = some (.int .i64 n) →
      Calls Tryz.prog 66 #[.pointer (some ⟨w.heap.size, 0, none⟩), .pointer (some ⟨w.heap.size + 1, 0, none⟩), .pointer (some ⟨w.heap.size + 1 + 1, 0, none⟩)] w1 (Left R)) :
    Calls Tryz.prog 34 #[theDisk b, .string name, .int .i64 n] w (Left R) := by
  have hw : ∀ W, W = ((w.alloc (.cells #[theDisk b] 27)).alloc (.cells #[.string name] 9)).alloc (.cells #[.int .i64 n] 3) →
      Calls Tryz.prog 57 #[theDisk b, .func (.func 66) #[] #[.pointer (some ⟨w.heap.size, 0, none⟩), .pointer (some ⟨w.heap.size + 1, 0, none⟩), .pointer (some ⟨w.heap.size + 1 + 1, 0, none⟩)]] W (Left R) := by
    rintro W rfl
    have ta : Turn [] w (w.alloc (.cells #[theDisk b] 27)) := (Turn.refl [] w).alloc _
    have tb : Turn [] (w.alloc (.cells #[theDisk b] 27)) ((w.alloc (.cells #[theDisk b] 27)).alloc (.cells #[.string name] 9)) := (Turn.refl [] _).alloc _
    have tc : Turn [] ((w.alloc (.cells #[theDisk b] 27)).alloc (.cells #[.string name] 9)) (((w.alloc (.cells #[theDisk b] 27)).alloc (.cells #[.string name] 9)).alloc (.cells #[.int .i64 n] 3)) := (Turn.refl [] _).alloc _
    have t0 := (ta.trans tb).trans tc
    have hbl := hR.disk.lt
    refine write_run base b _ _ S s _ _ (hR.new t0) hr.dw hr.cr hr.fail hr.ca0 hr.ca1 hr.fl (enters_of Tryz.func66 (by kernel_rfl) rfl) ?_
    intro w1 hR1 t1
    have hpd : w1.cell? ⟨w.heap.size, 0, none⟩ = some (theDisk b) := box_at (((tb.trans tc).mono (by simp)).trans t1) (by simp; omega)
    have hpn : w1.cell? ⟨w.heap.size + 1, 0, none⟩ = some (.string name) := by
      have := box_at ((tc.mono (by simp)).trans t1) (by simp; omega)
      simpa using this
    have hpb : w1.cell? ⟨w.heap.size + 1 + 1, 0, none⟩ = some (.int .i64 n) := by
      have := box_at t1 (by simp; omega)
      simpa using this
    exact hcl w1 hR1 ((t0.mono (by simp)).trans t1) hpd hpn hpb
  have hmf := hmf
  unfold theDisk at hw
  unfold theDisk
  clear hR hr hcl
  go_enter Tryz.func34, Tryz.ntmps34
  go_wp2_with fail
  refine (hw _ rfl).mono ?_
  rintro e w' ⟨k, rfl, hk⟩
  have HK := Lib.hid hk
  clear hk hw
  go_wp2
  go_ret
  exact ⟨k, rfl, HK.out⟩

theorem cut_one (base b : Nat) (nm l : List UInt8) (sy : Nat) (cap ca : Int) (keep : List Int) (name : ByteArray) (n : Nat) (w : World) (h : One w base b nm l sy cap ca keep) (hca : ca < 999) (hnm : name.data.toList = nm) (hl : name.size ≤ maxLen) (hlen : l.length < 1000000000) (hn : n ≤ l.length) :
    Calls Tryz.prog 34 #[theDisk b, .string name, .int .i64 n] w fun e w' => e = .returned (.int .i64 0) ∧ One w' base b nm (l.take n) (min sy n) cap (ca + 1) keep ∧ Below base w w' := by
  obtain ⟨h0, S, s, f, hR, hs, hf, hfn, hb, hsy, hc⟩ := h
  have ht : total S.files = l.length := by simp [total, hf, hb]
  have hfind : S.files.find? (named name.data.toList) = some f := by simp [hf, named, hfn, hnm]
  refine (cut_met base b S s name n w (fun k w' => ∃ w1, Turn [b] w w1 ∧ Shorter w1 base b { S with ca := S.ca + 1 } (S.ca + 1) name.data.toList n k w') hR hc.runs ?_).mono ?_
  · intro w1 hR1 t1 h1 h2 h3
    refine (cut_clo _ _ _ base b _ _ name n f w1 hR1 h1 h2 h3 hfind hl (by rw [hb]; exact hn) (by show s.sz = _; rw [hs, ← ht]) (by show total S.files < _; omega) (Nat.le_trans h0 t1.size)).mono ?_
    rintro e w' ⟨k, rfl, hk⟩
    exact ⟨k, rfl, w1, t1, hk⟩
  · rintro e w' ⟨k, rfl, w1, t1, rfl, s', h1, h2, h3⟩
    have hfin : mapF name.data.toList (cutTo n) S.files = [cutTo n f] := by simp [mapF, hf, named, hfn, hnm]
    have tt : Turn (foot b S) w w' := (t1.mono (by intro x hx; simp at hx; subst hx; simp [foot])).trans h3
    refine ⟨rfl, ⟨Nat.le_trans h0 tt.size, _, s', cutTo n f, h1, ?_, hfin, hfn, by simp [cutTo, hb], by simp [cutTo, hsy], ⟨hc.cap, hc.cr, by show S.ca + 1 = _; rw [hc.ca], by have := hc.ca0; omega, by omega, hc.dw, hc.fail, hc.keep⟩⟩, below_turn hR h0 tt⟩
    rw [h2]
    show ((total (mapF name.data.toList (cutTo n) S.files) : Nat) : Int) = _
    rw [hfin]
    simp [total, cutTo, hb]

theorem cut_one_bad (base b : Nat) (nm l : List UInt8) (sy : Nat) (cap ca : Int) (keep : List Int) (name : ByteArray) (n : Int) (w : World) (h : One w base b nm l sy cap ca keep) (hca : ca < 999) (hnm : name.data.toList = nm) (hl : name.size ≤ maxLen) (hn0 : 0 ≤ n) (hn : (l.length : Int) < n) :
    Calls Tryz.prog 34 #[theDisk b, .string name, .int .i64 n] w fun e w' => e = .returned (.int .i64 1) ∧ One w' base b nm l sy cap (ca + 1) keep ∧ Below base w w' := by
  obtain ⟨h0, S, s, f, hR, hs, hf, hfn, hb, hsy, hc⟩ := h
  have hfind : S.files.find? (named name.data.toList) = some f := by simp [hf, named, hfn, hnm]
  refine (cut_met base b S s name n w (fun k w' => ∃ w1, Turn [b] w w1 ∧ Refused w1 base b { S with ca := S.ca + 1 } { s with ca := S.ca + 1 } (S.ca + 1) 1 k w') hR hc.runs ?_).mono ?_
  · intro w1 hR1 t1 h1 h2 h3
    refine (cut_bad _ _ _ base b _ _ name n f w1 hR1 h1 h2 h3 hfind hl hn0 (by rw [hb]; exact hn) (Nat.le_trans h0 t1.size)).mono ?_
    rintro e w' ⟨k, rfl, hk⟩
    exact ⟨k, rfl, w1, t1, hk⟩
  · rintro e w' ⟨k, rfl, w1, t1, rfl, s', h1, h2, h3⟩
    have tt : Turn (foot b S) w w' := (t1.mono (by intro x hx; simp at hx; subst hx; simp [foot])).trans h3
    exact ⟨rfl, ⟨Nat.le_trans h0 tt.size, _, s', f, h1, by rw [h2]; exact hs, hf, hfn, hb, hsy, ⟨hc.cap, hc.cr, by show S.ca + 1 = _; rw [hc.ca], by have := hc.ca0; omega, by omega, hc.dw, hc.fail, hc.keep⟩⟩, below_turn hR h0 tt⟩

end Go.Proofs.YthacjeeafnblmaaGreatDoor

namespace Go.Proofs.YthacjeeafnblmaaGreatDoor
open Go.RowKit Go.Maps Go.Sort Go.WideMaps

def without (k : List UInt8) (files : List FM) : List FM := files.filter fun g => !named k g

theorem ownsMap_tight {w : World} {k : TypeId} {R : Value → Option (DataW Unit × List MemPlace)} {b n : Nat} {D : DataW Unit} (h : w.ownsMap Tryz.prog k R b n D) : w.ownsMap Tryz.prog k R b (Maps.size D) D := by
  obtain ⟨es, clock, hb, F, hs, rfl⟩ := h
  refine ⟨es, clock, hb, F, ?_, rfl⟩
  have e1 : Maps.size (DataW.map ((es.toList.map (WideElems.rg Tryz.prog k R)).foldr DataW.insert [])) = es.size := by simp [Maps.size, length_sorted]
  omega

theorem without_length (k : List UInt8) (files : List FM) (hn : (files.map (·.name)).Nodup) : (without k files).length + (if files.any (named k) = true then 1 else 0) = files.length := by
  induction files with
  | nil => rfl
  | cons a l ih =>
    simp only [List.map_cons, List.nodup_cons] at hn
    have h1 := ih hn.2
    by_cases ha : named k a = true
    · have hno : l.any (named k) = false := by
        cases e : l.any (named k) with
        | false => rfl
        | true =>
          obtain ⟨g, hg, hgn⟩ := List.any_eq_true.1 e
          refine absurd (List.mem_map.2 ⟨g, hg, ?_⟩) hn.1
          simp [named] at ha hgn
          rw [ha, hgn]
      rw [hno] at h1
      simp only [without, List.filter_cons, ha, Bool.not_true, Bool.false_eq_true, if_false, List.any_cons, Bool.true_or, if_true, List.length_cons] at h1 ⊢
      omega
    · have ha' : named k a = false := by simpa using ha
      simp only [without, List.filter_cons, ha', Bool.not_false, if_true, List.any_cons, Bool.false_or, List.length_cons] at h1 ⊢
      omega

theorem find_without (k x : List UInt8) (files : List FM) : (without k files).find? (named x) = if x = k then none else files.find? (named x) := by
  induction files with
  | nil => simp [without]
  | cons a l ih =>
    by_cases ha : named k a = true
    · have e : without k (a :: l) = without k l := by simp [without, ha]
      rw [e, ih]
      by_cases hx : x = k
      · simp [hx]
      · have : named x a = false := by
          simp [named] at ha ⊢
          rw [ha]; exact fun e => hx e.symm
        simp [hx, this]
    · have ha' : named k a = false := by simpa using ha
      have e : without k (a :: l) = a :: without k l := by simp [without, ha']
      rw [e, List.find?_cons, List.find?_cons, ih]
      by_cases hx : x = k
      · simp [hx, ha']
      · simp [hx]

theorem any_without (k x : List UInt8) (files : List FM) : (without k files).any (named x) = if x = k then false else files.any (named x) := by
  have h1 : ∀ l : List FM, l.any (named x) = (l.find? (named x)).isSome := by
    intro l
    rw [Bool.eq_iff_iff, List.find?_isSome, List.any_eq_true]
  rw [h1, h1, find_without]
  split <;> rfl

theorem MapAt.del {w' : World} {m : Nat} {files : List FM} {D : DataW Unit} {n : Nat} (k : List UInt8) (hnd : (files.map (·.name)).Nodup) (h1 : Maps.size D = files.length) (h2 : ∀ x, D.atKey (.string x) .nil = Go.Proofs.YthacjeeafnblmaaGreatDoor.look files x) (h3 : ∀ x, Maps.has D (.string x) = files.any (named x))
    (hT : Tidy D) (hown : w'.ownsMap Tryz.prog 9 Rp m n (D.del (.string k))) : MapAt w' m (without k files) := by
  have hl : Maps.size (D.del (.string k)) = (without k files).length := by
    have e1 := size_del (k := .string k) hT
    have e2 := without_length k files hnd
    rw [h3] at e1
    omega
  refine ⟨_, by rw [← hl]; exact ownsMap_tight hown, hl, fun x => ?_, fun x => ?_⟩
  · by_cases hx : x = k
    · subst hx
      rw [atKey_del_same]
      unfold Go.Proofs.YthacjeeafnblmaaGreatDoor.look
      rw [find_without]
      simp
    · rw [atKey_del_other (by simpa using hx), h2]
      unfold Go.Proofs.YthacjeeafnblmaaGreatDoor.look
      rw [find_without, if_neg hx]
  · rw [any_without]
    by_cases hx : x = k
    · subst hx
      rw [has_del_same]
      simp
    · rw [has_del_other (by simpa using hx), h3, if_neg hx]

theorem mem_without {k : List UInt8} {files : List FM} {g : FM} (h : g ∈ without k files) : g ∈ files ∧ g.name ≠ k := by
  have h1 := List.mem_filter.1 h
  refine ⟨h1.1, ?_⟩
  have := h1.2
  simp [named] at this
  exact this

/-- The disk behind a deletion in its map. -/
theorem Rep.without {w w' : World} {base b : Nat} {S : DM} {s : DS} (h : Rep w base b S s) (k : List UInt8) (m : Nat) (hm : S.mp = some m) (t : Turn [m] w w') (hM : MapAt w' m (without k S.files)) :
    Rep w' base b { S with files := without k S.files } s := by
  have hfoot : ∀ x, x ∈ foot b { S with files := Go.Proofs.YthacjeeafnblmaaGreatDoor.without k S.files } → x ∈ foot b S := by
    intro x hx
    simp only [foot, List.mem_cons, List.mem_append, List.mem_flatMap] at hx ⊢
    rcases hx with hx | hx | ⟨f, hf, hx⟩
    · exact .inl hx
    · exact .inr (.inl hx)
    · exact .inr (.inr ⟨f, (mem_without hf).1, hx⟩)
  have hmf : m ∈ foot b S := by simp [foot, hm]
  obtain ⟨ao, c, ao', c', g1, g2, g3, g4, g5, g6, g7, g8⟩ := h.lists
  exact {
    disk := h.disk.turn t (by simpa using h.apart1 m hm)
    cap := h.cap
    cr := h.cr
    ca := h.ca
    dn := h.dn
    dw := h.dw
    fs := h.fs
    lists := ⟨ao, c, ao', c', g1, g2, owns_turn g3 t (fun g hg => by
        have := g7 g (g5.symm.trans hg); simp; rintro rfl; exact this hmf), owns_turn g4 t (fun g hg => by
        have := g8 g (g6.symm.trans hg); simp; rintro rfl; exact this hmf), g5, g6, (fun g hg hx => g7 g hg (hfoot g hx)), (fun g hg hx => g8 g hg (hfoot g hx))⟩
    mapN := fun e => by rw [show ({ S with files := Go.Proofs.YthacjeeafnblmaaGreatDoor.without k S.files } : DM).mp = S.mp from rfl, hm] at e; cases e
    mapS := fun m' hm' => by
      obtain rfl : m = m' := by
        have : S.mp = some m' := hm'
        rw [hm] at this; simpa using this
      exact hM
    files := fun f hf => (h.files f (mem_without hf).1).keep t (fun x hx => by
      simp only [List.mem_singleton]; rintro rfl; exact (h.apart2 f (mem_without hf).1).2.1 _ hm hx)
    apart1 := h.apart1
    apart2 := fun f hf => h.apart2 f (mem_without hf).1
    apart3 := h.apart3.sublist List.filter_sublist
    low := fun x hx => h.low x (hfoot x hx)
    names := h.names.sublist (List.filter_sublist.map _)
    sorted := h.sorted }

theorem without_mapF (k : List UInt8) (u : FM → FM) (hu : ∀ g, (u g).name = g.name) (files : List FM) : Go.Proofs.YthacjeeafnblmaaGreatDoor.without k (mapF k u files) = Go.Proofs.YthacjeeafnblmaaGreatDoor.without k files := by
  induction files with
  | nil => rfl
  | cons a l ih =>
    unfold Go.Proofs.YthacjeeafnblmaaGreatDoor.without mapF at *
    rw [List.map_cons]
    by_cases ha : named k a = true
    · have h2 : named k (u a) = true := by simp [named, hu] at ha ⊢; exact ha
      simp only [ha, if_true, List.filter_cons, h2, Bool.not_true, Bool.false_eq_true, if_false]
      exact ih
    · have ha' : named k a = false := by simpa using ha
      simp only [ha', Bool.false_eq_true, if_false, List.filter_cons, Bool.not_false, if_true]
      rw [ih]

theorem total_without (k : List UInt8) (files : List FM) (f : FM) (hf : files.find? (named k) = some f) (hn : (files.map (·.name)).Nodup) : total (Go.Proofs.YthacjeeafnblmaaGreatDoor.without k files) + f.bytes.length = total files := by
  induction files with
  | nil => cases hf
  | cons a l ih =>
    simp only [List.map_cons, List.nodup_cons] at hn
    rw [List.find?_cons] at hf
    by_cases ha : named k a = true
    · simp only [ha] at hf
      obtain rfl := Option.some.inj hf
      have e : Go.Proofs.YthacjeeafnblmaaGreatDoor.without k (a :: l) = l := by
        have : Go.Proofs.YthacjeeafnblmaaGreatDoor.without k l = l := by
          refine List.filter_eq_self.2 fun g hg => ?_
          cases e : named k g with
          | false => rfl
          | true =>
            refine absurd (List.mem_map.2 ⟨g, hg, ?_⟩) hn.1
            simp [named] at ha e
            rw [ha, e]
        simpa [Go.Proofs.YthacjeeafnblmaaGreatDoor.without, ha] using this
      rw [e]
      simp [total]; omega
    · have ha' : named k a = false := by simpa using ha
      simp only [ha'] at hf
      have e : Go.Proofs.YthacjeeafnblmaaGreatDoor.without k (a :: l) = a :: Go.Proofs.YthacjeeafnblmaaGreatDoor.without k l := by simp [Go.Proofs.YthacjeeafnblmaaGreatDoor.without, ha']
      rw [e]
      have := ih hf hn.2
      simp [total] at this ⊢; omega

end Go.Proofs.YthacjeeafnblmaaGreatDoor
