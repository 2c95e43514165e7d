/- Disks whose plans fail calls. Numbers and types by name. -/
import Derived.Test.YtloccomlnnndoaaDk
import Derived.Test.YtloccomlnnndoaaMk
namespace Go.Proofs.Ytloccomlnnndoaa
open Go.RowKit Go.Maps Go.Sort Go.WideMaps

structure Fails (S : DM) (cp cl : Int) (zs : List Int) : Prop where
  cap : S.cap = cp
  cr : S.cr = 0
  ca : S.ca = cl
  ca0 : 0 ≤ cl
  ca1 : cl < 1000
  dw : S.dw = false
  fail : S.fail = zs.mergeSort leI
  len : zs.length < 1000

def Fq (w : World) (base b : Nat) (fs : List Ent) (cap ca : Int) (zs : List Int) : Prop :=
  base ≤ w.heap.size ∧ ∃ S s, Rep w base b S s ∧ s.sz = total S.files ∧ S.files.map view = fs ∧ Fails S cap ca zs

theorem Fq.new {w w' : World} {base b : Nat} {fs : List Ent} {cap ca : Int} {zs : List Int} (h : Fq w base b fs cap ca zs) (t : Turn [] w w') : Fq w' base b fs cap ca zs := by
  obtain ⟨h0, S, s, hR, h2⟩ := h
  exact ⟨Nat.le_trans h0 t.size, S, s, hR.new t, h2⟩
theorem Fq.lt {w : World} {base b : Nat} {fs : List Ent} {cap ca : Int} {zs : List Int} (h : Fq w base b fs cap ca zs) : b < w.heap.size ∧ base ≤ b := by
  obtain ⟨h0, S, s, hR, _⟩ := h
  exact ⟨hR.disk.lt, hR.low b (by simp [foot])⟩

theorem Fails.has {S : DM} {cap ca : Int} {zs : List Int} (h : Fails S cap ca zs) : S.fail.contains (S.ca + 1) = zs.contains (ca + 1) := by
  rw [h.fail, h.ca, Bool.eq_iff_iff]
  simp [List.mem_mergeSort]
theorem Fails.flen {S : DM} {cap ca : Int} {zs : List Int} (h : Fails S cap ca zs) : S.fail.length < 1000000 := by
  rw [h.fail, List.length_mergeSort]; have := h.len; omega
theorem Fails.runs {S : DM} {cap ca : Int} {zs : List Int} (h : Fails S cap ca zs) (hn : zs.contains (ca + 1) = false) : Runs S :=
  ⟨h.dw, by rw [h.ca, h.cr]; have := h.ca0; omega, by rw [h.has]; exact hn, by rw [h.ca]; exact h.ca0, by rw [h.ca]; have := h.ca1; omega, h.flen⟩
theorem Fails.next {S : DM} {cap ca : Int} {zs : List Int} (h : Fails S cap ca zs) (hca : ca < 999) (fs : List FM) (mp : Option Nat) : Fails { S with ca := S.ca + 1, files := fs, mp := mp } cap (ca + 1) zs :=
  ⟨h.cap, h.cr, by show S.ca + 1 = _; rw [h.ca], by have := h.ca0; omega, by omega, h.dw, h.fail, h.len⟩
theorem Fails.next0 {S : DM} {cap ca : Int} {zs : List Int} (h : Fails S cap ca zs) (hca : ca < 999) : Fails { S with ca := S.ca + 1 } cap (ca + 1) zs := h.next hca S.files S.mp

theorem create_fq (base b : Nat) (cap ca : Int) (zs : List Int) (name : ByteArray) (w : World) (h : Fq w base b [] cap ca zs) (hca : ca < 999) (hne : name.toList.isEmpty = false) (hl : name.size ≤ maxLen) (hz : zs.contains (ca + 1) = false) :
    Calls Try.prog 20 #[theDisk b, .string name] w fun e w' => e = .returned (.int .i64 0) ∧ Fq w' base b [(name.data.toList, [], 0)] cap (ca + 1) zs ∧ Below base w w' := by
  obtain ⟨h0, S, s, hR, hs, hv, hc⟩ := h
  have hnil : S.files = [] := by simpa using hv
  refine (create_ok base b S s name w hR (hc.runs hz) hne (by simp [hnil]) hl (by simp [hnil, maxLen]) h0).mono ?_
  rintro e w' ⟨k, rfl, rfl, f, m, s', h1, h2, h3, h4, h5, h6, h7, h8⟩
  have hb := below_turn hR h0 (h8.mono (by intro x hx; simp only [foot, List.mem_cons, List.mem_append] at hx ⊢; exact hx.imp id .inl))
  refine ⟨rfl, ⟨Nat.le_trans h0 h8.size, _, s', h6, ?_, ?_, hc.next hca _ _⟩, hb⟩
  · rw [h7, hs]
    show ((total S.files : Nat) : Int) = ((total (S.files ++ [f]) : Nat) : Int)
    simp [total, h2]
  · show (S.files ++ [f]).map view = _
    simp [hnil, view, h1, h2, h3]

theorem create_io (base b : Nat) (fs : List Ent) (cap ca : Int) (zs : List Int) (name : ByteArray) (w : World) (h : Fq w base b fs cap ca zs) (hca : ca < 999) (hz : zs.contains (ca + 1) = true) :
    Calls Try.prog 20 #[theDisk b, .string name] w fun e w' => e = .returned (.int .i64 6) ∧ Fq w' base b fs cap (ca + 1) zs ∧ Below base w w' := by
  obtain ⟨h0, S, s, hR, hs, hv, hc⟩ := h
  refine (create_via b name w (fun k w' => k = 6 ∧ Rep w' base b { S with ca := S.ca + 1 } { s with ca := S.ca + 1 } ∧ Turn [b] w w') ?_).mono ?_
  · rintro W rfl
    have t0 : Turn [] w ((w.alloc (.cells #[theDisk b] 28)).alloc (.cells #[.string name] 9)) := ((Turn.refl [] w).alloc _).alloc _
    refine (write_io base b _ _ S s _ (hR.new t0) hc.dw (by rw [hc.ca, hc.cr]; have := hc.ca0; omega) (by rw [hc.has]; exact hz) (by rw [hc.ca]; exact hc.ca0) (by rw [hc.ca]; have := hc.ca1; omega) hc.flen).mono ?_
    rintro e w' ⟨rfl, h1, h2⟩
    exact ⟨6, rfl, rfl, h1, (t0.mono (by simp)).trans h2⟩
  · rintro e w' ⟨k, rfl, rfl, h1, t⟩
    have hl := hR.low b (by simp [foot])
    exact ⟨rfl, ⟨Nat.le_trans h0 t.size, _, _, h1, hs, hv, hc.next0 hca⟩, t.below h0 (by simpa using hl)⟩

/-- Append over what write does. -/
theorem append_via (b : Nat) (name : ByteArray) (aob : Option Addr) (nb cb : Nat) (w : World) (R : Int → World → Prop)
    (hw : ∀ W, W = ((w.alloc (.cells #[theDisk b] 28)).alloc (.cells #[.string name] 9)).alloc (.cells #[.slice aob nb cb] 33) →
      Calls Try.prog 40 #[theDisk b, .func (.func 43) #[] #[.pointer (some ⟨w.heap.size, 0, none⟩), .pointer (some ⟨w.heap.size + 1, 0, none⟩), .pointer (some ⟨w.heap.size + 1 + 1, 0, none⟩)]] W (Left R)) :
    Calls Try.prog 21 #[theDisk b, .string name, .slice aob nb cb] w (Left R) := by
  have hmf := hmf
  unfold theDisk at hw
  unfold theDisk
  go_enter Try.func21, Try.ntmps21
  go_wp2_with fail
  refine (hw _ rfl).mono ?_
  rintro e w' ⟨k, rfl, hk⟩
  have HK := Lib.hid hk
  clear hk hw
  go_wp2
  go_ret
  exact ⟨k, rfl, HK.out⟩

theorem append_boxes {w w1 : World} {b : Nat} {name : ByteArray} {v : Value} (t1 : Turn [b] (((w.alloc (.cells #[theDisk b] 28)).alloc (.cells #[.string name] 9)).alloc (.cells #[v] 33)) w1) (hbl : b < w.heap.size) :
    w1.cell? ⟨w.heap.size, 0, none⟩ = some (theDisk b) ∧ w1.cell? ⟨w.heap.size + 1, 0, none⟩ = some (.string name) ∧ w1.cell? ⟨w.heap.size + 1 + 1, 0, none⟩ = some v ∧ Turn [b] w w1 := by
  have ta : Turn [] w (w.alloc (.cells #[theDisk b] 28)) := (Turn.refl [] w).alloc _
  have tb : Turn [] (w.alloc (.cells #[theDisk b] 28)) ((w.alloc (.cells #[theDisk b] 28)).alloc (.cells #[.string name] 9)) := (Turn.refl [] _).alloc _
  have tc : Turn [] ((w.alloc (.cells #[theDisk b] 28)).alloc (.cells #[.string name] 9)) (((w.alloc (.cells #[theDisk b] 28)).alloc (.cells #[.string name] 9)).alloc (.cells #[v] 33)) := (Turn.refl [] _).alloc _
  refine ⟨box_at (((tb.trans tc).mono (by simp)).trans t1) (by simp; omega), ?_, ?_, (((ta.trans tb).trans tc).mono (by simp)).trans t1⟩
  · have := box_at ((tc.mono (by simp)).trans t1) (by simp; omega)
    simpa using this
  · have := box_at t1 (by simp; omega)
    simpa using this

/-- Append's closure where there is no such file. -/
theorem append_clo_none (pd pn pb base b : Nat) (S : DM) (s : DS) (name : ByteArray) (vb : Value) (w : World) (hR : Rep w base b S s)
    (hd : w.cell? ⟨pd, 0, none⟩ = some (theDisk b)) (hn : w.cell? ⟨pn, 0, none⟩ = some (.string name)) (_hb : w.cell? ⟨pb, 0, none⟩ = some vb)
    (hf : S.files.find? (named name.data.toList) = none) (hl : name.size ≤ maxLen) :
    Calls Try.prog 43 #[.pointer (some ⟨pd, 0, none⟩), .pointer (some ⟨pn, 0, none⟩), .pointer (some ⟨pb, 0, none⟩)] w (Left fun k w' => k = 3 ∧ Turn [] w w') := by
  have hlk : ∀ n, (Instr.lookup 63 s.fs (.string name) false).run Try.prog (w.drewN n) = .ok (.pointer none) (w.drewN n) := by
    intro n
    have := (hR.new ((Turn.refl [] w).drewN n)).look name hl
    rw [this]; simp [ptrOf, hf]
  have c5 := hR.disk.c5
  unfold theDisk at hd
  clear hR hf hl
  go_enter Try.func43, Try.ntmps43
  go_wp2
  go_quiet (fail)
  go_wp2
  go_ret
  exact ⟨3, rfl, rfl, (Turn.refl [] w).drewN _⟩

/-- Append's closure where there is no room. -/
theorem append_clo_full (pd pn pb base b : Nat) (S : DM) (s : DS) (name : ByteArray) (aob : Option Addr) (nb cb : Nat) (f : FM) (w : World) (hR : Rep w base b S s)
    (hd : w.cell? ⟨pd, 0, none⟩ = some (theDisk b)) (hn : w.cell? ⟨pn, 0, none⟩ = some (.string name)) (hb : w.cell? ⟨pb, 0, none⟩ = some (.slice aob nb cb))
    (hf : S.files.find? (named name.data.toList) = some f) (hl : name.size ≤ maxLen) (hsz : s.sz = total S.files) (hs1 : total S.files + nb < 1000000000) (hcap : S.cap < (total S.files : Int) + nb) :
    Calls Try.prog 43 #[.pointer (some ⟨pd, 0, none⟩), .pointer (some ⟨pn, 0, none⟩), .pointer (some ⟨pb, 0, none⟩)] w (Left fun k w' => k = 5 ∧ Turn [] w w') := by
  have hlk : ∀ n, (Instr.lookup 63 s.fs (.string name) false).run Try.prog (w.drewN n) = .ok (.pointer (some ⟨f.blk, 0, none⟩)) (w.drewN n) := by
    intro n
    have := (hR.new ((Turn.refl [] w).drewN n)).look name hl
    rw [this]; simp [ptrOf, hf]
  have c5 := hR.disk.c5
  have c0 := hR.disk.c0
  have c6 := hR.disk.c6
  rw [hR.cap] at c0
  rw [hsz] at c6
  generalize total S.files = T at *
  generalize S.cap = C at *
  have HCAP : decide (C < (T : Int) + (nb : Int)) = true := by simp; omega
  have HC2 : C < (T : Int) + (nb : Int) := hcap
  unfold theDisk at hd
  clear hR hf hl hsz
  go_enter Try.func43, Try.ntmps43
  go_wp2
  go_quiet (fail)
  go_wp2
  go_quiet (fail)
  go_wp2
  go_ret
  rw [World.drewN_drewN]
  exact ⟨5, rfl, rfl, (Turn.refl [] w).drewN _⟩

end Go.Proofs.Ytloccomlnnndoaa
